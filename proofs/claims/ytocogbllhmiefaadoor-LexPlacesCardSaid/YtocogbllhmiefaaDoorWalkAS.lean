/- LexPlaces: the place of the spot of a place is this, and spots rise. -/
import Derived.Test.YtocogbllhmiefaaDoorWalkV
import Derived.Test.YtocogbllhmiefaaDoorWalkAR
namespace Go.Proofs.YtocogbllhmiefaaDoor.Lx
open Go Go.Proofs Go.RowKit Go.Shelf

theorem line_le (s : ByteArray) (a : Nat) : 1 ≤ lineOf s a ∧ colOf s a ≤ (a : Int) + 1 := by
  unfold lineOf colOf; omega

theorem places_facts {wr w3 w4 : World} {B5 : Nat} {l c la lc : Value} {t : TypeId} (hb3 : Below wr.heap.size wr w3) (hb4 : Below (w3.alloc (.cells #[l, c] t)).heap.size (w3.alloc (.cells #[l, c] t)) w4) (hB : B5 < wr.heap.size)
    (g0 : wr.cell? ⟨B5, 0, none⟩ = some la) (g1 : wr.cell? ⟨B5, 1, none⟩ = some lc) (q0 : wr.frozen? ⟨B5, 0, none⟩ = false) (q1 : wr.frozen? ⟨B5, 1, none⟩ = false) :
    w4.cell? ⟨w3.heap.size, 0, none⟩ = some l ∧ w4.cell? ⟨w3.heap.size, 1, none⟩ = some c ∧ w4.cell? ⟨B5, 0, none⟩ = some la ∧ w4.cell? ⟨B5, 1, none⟩ = some lc ∧ w4.frozen? ⟨B5, 0, none⟩ = false ∧ w4.frozen? ⟨B5, 1, none⟩ = false ∧
      Below wr.heap.size wr w4 ∧ B5 < w4.heap.size := by
  obtain ⟨hb, c0, c1, _, _⟩ := spot_cells hb4
  have hb5 : Below wr.heap.size wr w4 := hb3.trans (hb.mono hb3.size)
  exact ⟨c0, c1, (hb5.cell (p := ⟨B5, 0, none⟩) hB).trans g0, (hb5.cell (p := ⟨B5, 1, none⟩) hB).trans g1, (hb5.frozen (p := ⟨B5, 0, none⟩) hB).trans q0, (hb5.frozen (p := ⟨B5, 1, none⟩) hB).trans q1, hb5, Nat.lt_of_lt_of_le hB hb5.size⟩

set_option maxRecDepth 100000 in
set_option maxHeartbeats 4000000 in
theorem lexPlaces_in (s : ByteArray) (w : World) (hG : Gl w) (hM : Mx w) (hs : s.size ≤ 300) (h0 : (textErr s).2 = 0) :
    Calls Tryd.prog 9 #[.string s] w (AwakeP w) := by
  have hno := fun W hG' => notes_any s W (by omega) hG'
  have hn0 : (notes s).2 = 0 := by unfold notes; simp [h0]
  rw [hn0] at hno
  have hsp : ∀ (k : Nat) W, k ≤ s.size → Calls Tryd.prog 35 #[.string s, .int .i64 (k : Int)] W fun e w' => e = .returned (.tuple #[.agg #[.int .i64 (lineOf s k), .int .i64 (colOf s k)], .int .i64 0]) ∧ Below W.heap.size W w' := by
    intro k W hk
    refine (spot_any s k W (by omega)).mono ?_
    rintro e w' ⟨rfl, hb⟩
    have hz : spotErr s (k : Int) = 0 := by unfold spotErr; rw [if_neg (by simp [h0]), if_neg (by omega)]
    rw [hz, if_pos rfl, if_pos rfl]
    exact ⟨rfl, hb⟩
  have hat : ∀ (k : Nat) W, k ≤ s.size → Mx W → Calls Tryd.prog 36 #[.string s, .agg #[.int .i64 (lineOf s k), .int .i64 (colOf s k)]] W fun e w' => e = .returned (.tuple #[.int .i64 (k : Int), .int .i64 0]) ∧ Below W.heap.size W w' := by
    intro k W hk hW
    refine (at_any s _ _ W (by omega) hW (by have := (line_le s k).2; omega)).mono ?_
    rintro e w' ⟨rfl, hb⟩
    have hz := atOf_spot s k hk
    have h1 : atErr s (lineOf s k) (colOf s k) = 0 := by unfold atErr; rw [if_neg (by simp [h0]), hz]; rfl
    have h2 : atRes s (lineOf s k) (colOf s k) = k := by unfold atRes; rw [if_neg (by simp [h0]), hz]; rfl
    rw [h1, h2]
    exact ⟨rfl, hb⟩
  have hri := spot_rise s
  have hfi := spot_first s
  have Hno := Lib.hid hno
  have Hsp := Lib.hid hsp
  have Hat := Lib.hid hat
  have Hri := Lib.hid hri
  have Hfi := Lib.hid hfi
  clear hno hn0 hsp hat hri hfi h0
  go_enter Tryd.func9, Tryd.ntmps9
  go_wp2_with (go_at_call 17; refine (Hno.out _ hG).mono ?_; rintro e w1 ⟨v1, rfl, hown1, hb1⟩)
  clear hown1
  have hb2 : Below w.heap.size w (w1.alloc (.cells #[.int .i64 0, .int .i64 0] 50)) := hb1.alloc hb1.size _
  have d0 : (w1.alloc (.cells #[.int .i64 0, .int .i64 0] 50)).cell? ⟨w1.heap.size, 0, none⟩ = some (.int .i64 0) := cell_new _ _ _ 0
  have d1 : (w1.alloc (.cells #[.int .i64 0, .int .i64 0] 50)).cell? ⟨w1.heap.size, 1, none⟩ = some (.int .i64 0) := cell_new _ _ _ 1
  have f0 : (w1.alloc (.cells #[.int .i64 0, .int .i64 0] 50)).frozen? ⟨w1.heap.size, 0, none⟩ = false := Lib.frozen_of_heap (heap_alloc_new w1 _) 0
  have f1 : (w1.alloc (.cells #[.int .i64 0, .int .i64 0] 50)).frozen? ⟨w1.heap.size, 1, none⟩ = false := Lib.frozen_of_heap (heap_alloc_new w1 _) 1
  have hlt5 : w1.heap.size < (w1.alloc (.cells #[.int .i64 0, .int .i64 0] 50)).heap.size := by rw [alloc_sz]; exact Nat.lt_succ_self _
  have hle5 := hb1.size
  clear hb1
  generalize w1.alloc (.cells #[.int .i64 0, .int .i64 0] 50) = W2 at *
  generalize w1.heap.size = B5 at *
  go_loopw [6] (fun i wr => ∃ (k : Nat) (la lc : Int), k ≤ s.size + 1 ∧ i = .int .i64 (k : Int) ∧ Below w.heap.size w wr ∧ B5 < wr.heap.size ∧ wr.cell? ⟨B5, 0, none⟩ = some (.int .i64 la) ∧ wr.cell? ⟨B5, 1, none⟩ = some (.int .i64 lc) ∧
      wr.frozen? ⟨B5, 0, none⟩ = false ∧ wr.frozen? ⟨B5, 1, none⟩ = false ∧ (k ≤ s.size → la ≤ lineOf s k ∧ (lineOf s k = la → lc < colOf s k))) (fun i _ => s.size + 1 - (intOf i).toNat)
  case atStart => exact ⟨0, 0, 0, Nat.zero_le _, rfl, hb2, hlt5, d0, d1, f0, f1, fun _ => ⟨by have := Hfi.out.1; omega, fun h => by have := Hfi.out.1; omega⟩⟩
  case round =>
    obtain ⟨k, la, lc, hk, rfl, hbw, hBlt, g0, g1, q0, q1, hlast⟩ := hrel
    clear hb2 d0 d1 f0 f1 hlt5
    by_cases hlt : k ≤ s.size
    · obtain ⟨hl1, hl2⟩ := hlast hlt
      have hk1 : k < 1000 := by omega
      have Hspk := Lib.hid (fun W => Hsp.out k W hlt)
      have Hatk := Lib.hid (fun W => Hat.out k W hlt)
      have Hri2 := Lib.hid (fun h => Hri.out k h)
      generalize lineOf s k = l at *
      generalize colOf s k = c at *
      clear hlast
      have HB := Lib.hid hbw
      have e1 : decide (l < la) = false := by simp; omega
      by_cases heq : l = la
      · subst heq
        have hc := hl2 rfl
        have e2 : decide (c ≤ lc) = false := by simp; omega
        clear hl1 hl2
        go_wp2_with (first
          | (go_at_call 35; refine (Hspk.out _).mono ?_; rintro e w3 ⟨rfl, hb3⟩)
          | (go_at_call 36; refine (Hatk.out _ (hM.below ((hbw.trans (hb3.mono hbw.size)).alloc (Nat.le_trans hbw.size hb3.size) _))).mono ?_; rintro e w4 ⟨rfl, hb4⟩; obtain ⟨m0, m1, n0, n1, p0, p1, hb5, hz5⟩ := places_facts hb3 hb4 hBlt g0 g1 q0 q1))
        go_roundw
        case rel =>
          obtain ⟨r0, r1⟩ := spot_read (.int .i64 l) (.int .i64 c) n0 n1
          exact ⟨k + 1, l, c, by omega, by go_num, ((HB.out.trans (hb5.mono HB.out.size)).setCell (p := ⟨B5, 0, none⟩) hle5 _).setCell (p := ⟨B5, 1, none⟩) hle5 _, by simpa using hz5, r0, r1, by simpa using p0, by simpa using p1, fun h => by rcases Hri2.out (by omega) with h' | h' <;> constructor <;> omega⟩
        case measure => simp [intOf]; omega
      · have e2 : (l == la) = false := by simp; exact heq
        clear hl2
        go_wp2_with (first
          | (go_at_call 35; refine (Hspk.out _).mono ?_; rintro e w3 ⟨rfl, hb3⟩)
          | (go_at_call 36; refine (Hatk.out _ (hM.below ((hbw.trans (hb3.mono hbw.size)).alloc (Nat.le_trans hbw.size hb3.size) _))).mono ?_; rintro e w4 ⟨rfl, hb4⟩; obtain ⟨m0, m1, n0, n1, p0, p1, hb5, hz5⟩ := places_facts hb3 hb4 hBlt g0 g1 q0 q1))
        go_roundw
        case rel =>
          obtain ⟨r0, r1⟩ := spot_read (.int .i64 l) (.int .i64 c) n0 n1
          exact ⟨k + 1, l, c, by omega, by go_num, ((HB.out.trans (hb5.mono HB.out.size)).setCell (p := ⟨B5, 0, none⟩) hle5 _).setCell (p := ⟨B5, 1, none⟩) hle5 _, by simpa using hz5, r0, r1, by simpa using p0, by simpa using p1, fun h => by rcases Hri2.out (by omega) with h' | h' <;> constructor <;> omega⟩
        case measure => simp [intOf]; omega
    · go_wp2_with (go_at_call 14; refine (awake_any _ (hG.next hbw)).mono ?_; rintro e w6 ⟨rfl, hb6⟩)
      go_ret
      exact ⟨rfl, hbw.trans (hb6.mono hbw.size)⟩

set_option maxRecDepth 100000 in
set_option maxHeartbeats 4000000 in
theorem lexPlaces_any (s : ByteArray) (w : World) (hG : Gl w) (hM : Mx w) :
    Calls Tryd.prog 9 #[.string s] w (AwakeP w) := by
  by_cases hs : 300 < s.size
  · go_enter Tryd.func9, Tryd.ntmps9
    go_wp2_with (go_at_call 14; refine (awake_any _ hG).mono ?_; rintro e w1 ⟨rfl, hb1⟩)
    go_ret
    exact ⟨rfl, hb1⟩
  · by_cases h0 : (textErr s).2 = 0
    · exact lexPlaces_in s w hG hM (by omega) h0
    · have hn : (notes s).2 = (textErr s).2 := by unfold notes; simp [h0]
      have hno := fun W hG' => notes_any s W (by omega) hG'
      rw [hn] at hno
      generalize (textErr s).2 = te at h0 hno
      have ht3 : ((te : Int) != 0) = true := by simp; omega
      have Hno := Lib.hid hno
      clear hno hn h0
      go_enter Tryd.func9, Tryd.ntmps9
      go_wp2_with (first
        | (go_at_call 17; refine (Hno.out _ hG).mono ?_; rintro e w1 ⟨v1, rfl, hown1, hb1⟩)
        | (go_at_call 14; refine (awake_any _ (hG.next hb1)).mono ?_; rintro e w2 ⟨rfl, hb2⟩))
      go_ret
      exact ⟨rfl, hb1.trans (hb2.mono hb1.size)⟩

end Go.Proofs.YtocogbllhmiefaaDoor.Lx
