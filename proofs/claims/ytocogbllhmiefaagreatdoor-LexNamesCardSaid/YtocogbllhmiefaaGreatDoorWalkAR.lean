/- Lines and columns of places (Spot), and places of lines and columns (At). -/
import Derived.Test.YtocogbllhmiefaaGreatDoorWalkM
import Derived.Test.YtocogbllhmiefaaGreatDoorSpecN
namespace Go.Proofs.YtocogbllhmiefaaGreatDoor.Lx
open Go Go.Proofs Go.RowKit Go.Shelf

def spotVals (a b : Int) : Value := .agg #[.int .i64 a, .int .i64 b]
def spotErr (s : ByteArray) (p : Int) : Nat := if (textErr s).2 ≠ 0 then (textErr s).2 else if p < 0 ∨ (s.size : Int) < p then 3 else 0
def SpotP (s : ByteArray) (p : Int) (w : World) (e : Ending) (w' : World) : Prop :=
  e = .returned (.tuple #[spotVals (if spotErr s p = 0 then lineOf s p.toNat else 0) (if spotErr s p = 0 then colOf s p.toNat else 0), .int .i64 (spotErr s p : Int)]) ∧ Below w.heap.size w w'

theorem spot_cells {w w1 : World} {x y : Value} {t : TypeId} (hb : Below (w.alloc (.cells #[x, y] t)).heap.size (w.alloc (.cells #[x, y] t)) w1) :
    Below w.heap.size w w1 ∧ w1.cell? ⟨w.heap.size, 0, none⟩ = some x ∧ w1.cell? ⟨w.heap.size, 1, none⟩ = some y ∧ w1.frozen? ⟨w.heap.size, 0, none⟩ = false ∧ w1.frozen? ⟨w.heap.size, 1, none⟩ = false := by
  have hsz : (w.alloc (.cells #[x, y] t)).heap.size = w.heap.size + 1 := alloc_sz _ _
  have hlt : w.heap.size < (w.alloc (.cells #[x, y] t)).heap.size := by rw [hsz]; exact Nat.lt_succ_self _
  exact ⟨((Below.refl _ _).alloc (Nat.le_refl _) _).trans (hb.mono (by omega)), (hb.cell (p := ⟨w.heap.size, 0, none⟩) hlt).trans (cell_new w _ _ 0), (hb.cell (p := ⟨w.heap.size, 1, none⟩) hlt).trans (cell_new w _ _ 1),
    (hb.frozen (p := ⟨w.heap.size, 0, none⟩) hlt).trans (Lib.frozen_of_heap (heap_alloc_new w _) 0), (hb.frozen (p := ⟨w.heap.size, 1, none⟩) hlt).trans (Lib.frozen_of_heap (heap_alloc_new w _) 1)⟩

theorem spot_read {w1 : World} {n : Nat} {u v : Value} (x y : Value) (c0 : w1.cell? ⟨n, 0, none⟩ = some u) (c1 : w1.cell? ⟨n, 1, none⟩ = some v) :
    ((w1.setCell ⟨n, 0, none⟩ x).setCell ⟨n, 1, none⟩ y).cell? ⟨n, 0, none⟩ = some x ∧ ((w1.setCell ⟨n, 0, none⟩ x).setCell ⟨n, 1, none⟩ y).cell? ⟨n, 1, none⟩ = some y := by
  constructor
  · rw [World.cell?_setCell_other _ _ _ _ (by simp), World.cell?_setCell_same _ _ _ c0]
  · exact World.cell?_setCell_same _ _ _ ((World.cell?_setCell_other _ _ _ _ (by simp)).trans c1)

set_option maxRecDepth 100000 in
set_option maxHeartbeats 4000000 in
theorem spot_any (s : ByteArray) (p : Int) (w : World) (hs : s.size ≤ 100000) :
    Calls Tryz.prog 8 #[.string s, .int .i64 p] w (SpotP s p w) := by
  by_cases h0 : (textErr s).2 = 0
  · have H0 := Lib.hid h0
    by_cases h1 : p < 0
    · have Hf := Lib.hid (show spotErr s p = 3 by unfold spotErr; rw [if_neg (by simp [h0]), if_pos (.inl h1)])
      clear h0
      go_enter Tryz.func8, Tryz.ntmps8
      go_wp2_with (go_at_call 28; refine (textError_any s _ hs).mono ?_; rw [H0.out]; rintro e w1 ⟨rfl, hb1⟩; obtain ⟨hb0, c0, c1, f0, f1⟩ := spot_cells hb1)
      obtain ⟨r0, r1⟩ := spot_read (.int .i64 0) (.int .i64 0) c0 c1
      refine bodyPost_ret (v := .tuple #[spotVals 0 0, .int .i64 3]) (by simp [results, Tryz.results8, go_sem, spotVals, r0, r1]) rfl ⟨by rw [Hf.out]; rfl, (hb0.setCell (p := ⟨w.heap.size, 0, none⟩) (Nat.le_refl _) _).setCell (p := ⟨w.heap.size, 1, none⟩) (Nat.le_refl _) _⟩
    · by_cases h2 : (s.size : Int) < p
      · have Hf := Lib.hid (show spotErr s p = 3 by unfold spotErr; rw [if_neg (by simp [h0]), if_pos (.inr h2)])
        clear h0
        go_enter Tryz.func8, Tryz.ntmps8
        go_wp2_with (go_at_call 28; refine (textError_any s _ hs).mono ?_; rw [H0.out]; rintro e w1 ⟨rfl, hb1⟩; obtain ⟨hb0, c0, c1, f0, f1⟩ := spot_cells hb1)
        obtain ⟨r0, r1⟩ := spot_read (.int .i64 0) (.int .i64 0) c0 c1
        refine bodyPost_ret (v := .tuple #[spotVals 0 0, .int .i64 3]) (by simp [results, Tryz.results8, go_sem, spotVals, r0, r1]) rfl ⟨by rw [Hf.out]; rfl, (hb0.setCell (p := ⟨w.heap.size, 0, none⟩) (Nat.le_refl _) _).setCell (p := ⟨w.heap.size, 1, none⟩) (Nat.le_refl _) _⟩
      · have Hf := Lib.hid (show spotErr s p = 0 by unfold spotErr; rw [if_neg (by simp [h0]), if_neg (by omega)])
        obtain ⟨a, rfl⟩ : ∃ a : Nat, p = a := ⟨p.toNat, by omega⟩
        have ha : a ≤ s.size := by omega
        have hc := fun W => Tryz.strings_Count_one (s.extract 0 a) 10 W
        have hl := fun W => Tryz.strings_LastIndexByte (s.extract 0 a) 10 (by simp; omega) W
        rw [count_cut] at hc
        rw [last_cut s a ha] at hl
        have hle := cutL_le (s.data.toList.take a)
        have hle2 : (s.data.toList.take a).length ≤ a := by rw [List.length_take]; omega
        have hcn : (s.data.toList.take a).count 10 ≤ (s.data.toList.take a).length := List.count_le_length
        have Hc := Lib.hid hc
        have Hl := Lib.hid hl
        have Hsp := Lib.hid (show lineOf s a = ((s.data.toList.take a).count 10 : Nat) + 1 from rfl)
        have Hco := Lib.hid (show colOf s a = (a : Int) - ((cutL (s.data.toList.take a) : Int) - 1) from rfl)
        generalize (s.data.toList.take a).count 10 = n at *
        generalize cutL (s.data.toList.take a) = m at *
        generalize (s.data.toList.take a).length = q at *
        clear h0 hc hl h1 h2
        go_enter Tryz.func8, Tryz.ntmps8
        go_wp2_with (first
          | (go_at_call 28; refine (textError_any s _ hs).mono ?_; rw [H0.out]; rintro e w1 ⟨rfl, hb1⟩; obtain ⟨hb0, c0, c1, f0, f1⟩ := spot_cells hb1)
          | (go_at_call 29; refine (Hc.out _).mono ?_; rintro e w2 ⟨rfl, rfl⟩)
          | (go_at_call 30; refine (Hl.out _).mono ?_; rintro e w3 ⟨rfl, rfl⟩))
        obtain ⟨r0, r1⟩ := spot_read (.int .i64 ((n : Int) + 1)) (.int .i64 ((a : Int) - ((m : Int) - 1))) c0 c1
        refine bodyPost_ret (v := .tuple #[spotVals ((n : Int) + 1) ((a : Int) - ((m : Int) - 1)), .int .i64 0]) (by simp [results, Tryz.results8, go_sem, spotVals, r0, r1]) rfl ⟨by rw [Hf.out, if_pos rfl, if_pos rfl]; rw [show ((a : Int)).toNat = a from rfl, Hsp.out, Hco.out]; rfl, (hb0.setCell (p := ⟨w.heap.size, 0, none⟩) (Nat.le_refl _) _).setCell (p := ⟨w.heap.size, 1, none⟩) (Nat.le_refl _) _⟩
  · have Hf := Lib.hid (show spotErr s p = (textErr s).2 from if_pos h0)
    generalize hte : (textErr s).2 = te at h0 Hf
    have Hte := Lib.hid hte
    have ht3 : ((te : Int) != 0) = true := by simp; omega
    have Hne := Lib.hid h0
    clear hte h0
    go_enter Tryz.func8, Tryz.ntmps8
    go_wp2_with (go_at_call 28; refine (textError_any s _ hs).mono ?_; rw [Hte.out]; rintro e w1 ⟨rfl, hb1⟩; obtain ⟨hb0, c0, c1, f0, f1⟩ := spot_cells hb1)
    obtain ⟨r0, r1⟩ := spot_read (.int .i64 0) (.int .i64 0) c0 c1
    refine bodyPost_ret (v := .tuple #[spotVals 0 0, .int .i64 (te : Int)]) (by simp [results, Tryz.results8, go_sem, spotVals, r0, r1]) rfl ⟨by rw [Hf.out, if_neg Hne.out, if_neg Hne.out], (hb0.setCell (p := ⟨w.heap.size, 0, none⟩) (Nat.le_refl _) _).setCell (p := ⟨w.heap.size, 1, none⟩) (Nat.le_refl _) _⟩

/-- A variable of the library's own holds some integer. -/
def Mx (w : World) : Prop := 0 < w.heap.size ∧ ∃ m, w.cell? ⟨0, 0, none⟩ = some (.int .i64 m)
theorem Mx.below {w w' : World} (h : Mx w) (hb : Below w.heap.size w w') : Mx w' := by
  obtain ⟨h0, m, hm⟩ := h
  exact ⟨Nat.lt_of_lt_of_le h0 hb.size, m, (hb.cell (p := ⟨0, 0, none⟩) h0).trans hm⟩

/-- What At returns. -/
def atErr (s : ByteArray) (line col : Int) : Nat := if (textErr s).2 ≠ 0 then (textErr s).2 else if (atOf s line col).isSome then 0 else 7
def atRes (s : ByteArray) (line col : Int) : Int := if (textErr s).2 ≠ 0 then 0 else (atOf s line col).getD 0
def AtP (s : ByteArray) (line col : Int) (w : World) (e : Ending) (w' : World) : Prop :=
  e = .returned (.tuple #[.int .i64 (atRes s line col), .int .i64 (atErr s line col : Int)]) ∧ Below w.heap.size w w'

theorem cell_old (w : World) (o : Obj) (b i : Nat) (h : b < w.heap.size) : (w.alloc o).cell? ⟨b, i, none⟩ = w.cell? ⟨b, i, none⟩ := ((Below.refl w.heap.size w).alloc (Nat.le_refl _) o).cell (p := ⟨b, i, none⟩) h

theorem startL_succ : ∀ (l : List (List UInt8)) (k : Nat) (x : List UInt8), l[k]? = some x → startL (k + 1) l = startL k l + x.length + 1
  | [], _, _, h => by simp at h
  | y :: r, 0, x, h => by
    simp at h; subst h
    show y.length + 1 + startL 0 r = 0 + y.length + 1
    simp [startL]
  | y :: r, k + 1, x, h => by
    have := startL_succ r k x (by simpa using h)
    show y.length + 1 + startL (k + 1) r = y.length + 1 + startL k r + x.length + 1
    omega

set_option maxRecDepth 100000 in
set_option maxHeartbeats 4000000 in
theorem at_any (s : ByteArray) (line col : Int) (w : World) (hs : s.size ≤ 100000) (hM : Mx w) (hcol : col < 9223372036854775808) :
    Calls Tryz.prog 10 #[.string s, spotVals line col] w (AtP s line col w) := by
  by_cases h0 : (textErr s).2 = 0
  · have H0 := Lib.hid h0
    have hsz : s.size ≤ 2500 := by
      unfold textErr at h0
      split at h0
      · exact absurd h0 (by decide)
      · omega
    have hsp := fun W m hm => Tryz.strings_Split s ⟨#[10]⟩ m W (by omega) hm (by decide)
    rw [splitB_lns, countB_lns] at hsp
    have hcel : ∀ (k : Nat) (x : List UInt8), (lns s.data.toList)[k]? = some x → ((((lns s.data.toList).map fun l => (⟨l.toArray⟩ : ByteArray)).map Value.string).toArray)[k]? = some (.string ⟨x.toArray⟩) := by
      intro k x hk
      rw [List.getElem?_toArray, List.getElem?_map, List.getElem?_map, hk]; rfl
    have htot := fun k hk => lns_total s.data.toList k hk
    have hdl : s.data.toList.length = s.size := by simp
    rw [hdl] at htot
    have hxl : ∀ (k : Nat) (x : List UInt8), (lns s.data.toList)[k]? = some x → x.length ≤ 3000 := by
      intro k x hk
      have h1 := startL_succ _ k x hk
      have h2 := htot (k + 1) (List.getElem?_eq_some_iff.1 hk).1
      omega
    have hlen : (lns s.data.toList).length ≤ 3000 := by
      have h1 := countB_lns s
      have h2 := Lib.countB_le ⟨#[10]⟩ (by decide) _ s (Nat.le_refl _)
      omega
    have hE := Lib.hid (show atErr s line col = if (atFrom line col 0 0 (lns s.data.toList)).isSome then 0 else 7 from if_neg (by simp [h0]))
    have hR := Lib.hid (show atRes s line col = (atFrom line col 0 0 (lns s.data.toList)).getD 0 from if_neg (by simp [h0]))
    have hSu := Lib.hid (startL_succ (lns s.data.toList))
    generalize ((((lns s.data.toList).map fun l => (⟨l.toArray⟩ : ByteArray)).map Value.string).toArray) = cs at *
    generalize lns s.data.toList = L at *
    have Hsp := Lib.hid hsp
    have Hcel := Lib.hid hcel
    have Htot := Lib.hid htot
    have Hxl := Lib.hid hxl
    clear h0 hsp hcel htot hxl hdl hsz
    go_enter Tryz.func10, Tryz.ntmps10
    go_wp2_with (first
      | (go_at_call 28; refine (textError_any s _ hs).mono ?_; rw [H0.out]; rintro e w1 ⟨rfl, hb1⟩; have hMx := (hM.below ((Below.refl _ _).alloc (Nat.le_refl _) _)).below hb1; obtain ⟨hMz, m, hMm⟩ := hMx; obtain ⟨hb0, c0, c1, f0, f1⟩ := spot_cells hb1)
      | (go_at_call 33; refine (Hsp.out _ m hMm).mono ?_; rintro e w2 ⟨rfl, rfl⟩))
    have hlt : w.heap.size < w1.heap.size := by have := hb1.size; rw [alloc_sz] at this; omega
    have d0 : (w1.alloc (.cells cs 9)).cell? ⟨w.heap.size, 0, none⟩ = some (.int .i64 line) := (cell_old w1 _ _ _ hlt).trans c0
    have d1 : (w1.alloc (.cells cs 9)).cell? ⟨w.heap.size, 1, none⟩ = some (.int .i64 col) := (cell_old w1 _ _ _ hlt).trans c1
    have dk : ∀ (k : Nat) (x : List UInt8), L[k]? = some x → (w1.alloc (.cells cs 9)).cell? ⟨w1.heap.size, k, none⟩ = some (.string ⟨x.toArray⟩) := fun k x h => (cell_new w1 _ _ k).trans (Hcel.out k x h)
    have hB : Below w.heap.size w (w1.alloc (.cells cs 9)) := hb0.alloc (Nat.le_of_lt hlt) _
    have Dk := Lib.hid dk
    clear dk hMm hMz hb1 hb0 c0 c1 f0 f1 hlt
    generalize w1.alloc (.cells cs 9) = W2 at *
    generalize w1.heap.size = B at *
    go_loop [8, 22] (fun st i => ∃ k : Nat, k ≤ L.length ∧ i = .int .i64 k ∧ st = .int .i64 (startL k L : Nat) ∧ atFrom line col 0 0 L = atFrom line col k (startL k L) (L.drop k)) (fun _ i => L.length - (intOf i).toNat)
    case atStart => exact ⟨0, Nat.zero_le _, rfl, rfl, rfl⟩
    case round =>
      obtain ⟨k, hk, rfl, rfl, hat⟩ := hrel
      by_cases hlt : k < L.length
      · have hx := List.getElem?_eq_getElem hlt
        have hd : L.drop k = L[k] :: L.drop (k + 1) := List.drop_eq_getElem_cons hlt
        rw [hd] at hat
        have hs1 := hSu.out k _ hx
        have hz := Dk.out k _ hx
        have hl3 := Hxl.out k _ hx
        have ht := Htot.out k hk
        have ht2 := Htot.out (k + 1) hlt
        rw [hs1] at ht2
        generalize L[k] = x at *
        generalize startL k L = st at *
        have hxs : (⟨x.toArray⟩ : ByteArray).size = x.length := by simp [ByteArray.size]
        have hat2 : atFrom line col 0 0 L = if (((k : Nat) : Int) + 1 = line ∧ 1 ≤ col) ∧ col - 1 ≤ x.length then some ((st : Int) + col - 1) else atFrom line col (k + 1) (st + x.length + 1) (L.drop (k + 1)) := hat
        clear hat hx hd
        have next : ¬ ((((k : Nat) : Int) + 1 = line ∧ 1 ≤ col) ∧ col - 1 ≤ x.length) → atFrom line col 0 0 L = atFrom line col (k + 1) (startL (k + 1) L) (L.drop (k + 1)) := fun h => by rw [hat2, if_neg h, hs1]
        have Next := Lib.hid next
        have Hat := Lib.hid hat2
        have Hs1 := Lib.hid hs1
        clear next hat2 hs1
        by_cases h1 : ((k : Nat) : Int) + 1 = line
        · subst h1
          by_cases h2 : 1 ≤ col
          · by_cases h3 : col - 1 ≤ x.length
            · go_wp2
              go_ret2
              exact ⟨by rw [hE.out, hR.out, Hat.out, if_pos (by simp [h2, h3])]; rfl, hB⟩
            · have Nx := Lib.hid (Next.out (fun h => h3 h.2))
              go_wp2
              go_round
              case rel => exact ⟨k + 1, by omega, by go_num, by rw [Hs1.out]; go_num, Nx.out⟩
              case measure => simp [intOf]; omega
          · have Nx := Lib.hid (Next.out (fun h => h2 h.1.2))
            go_wp2
            go_round
            case rel => exact ⟨k + 1, by omega, by go_num, by rw [Hs1.out]; go_num, Nx.out⟩
            case measure => simp [intOf]; omega
        · have Nx := Lib.hid (Next.out (fun h => h1 h.1.1))
          have e1 : (((k : Nat) : Int) + 1 == line) = false := by simp [h1]
          go_wp2
          go_round
          case rel => exact ⟨k + 1, by omega, by go_num, by rw [Hs1.out]; go_num, Nx.out⟩
          case measure => simp [intOf]; omega
      · have hat2 : atFrom line col 0 0 L = none := by rw [hat, List.drop_eq_nil_of_le (by omega)]; rfl
        have Hat := Lib.hid hat2
        clear hat hat2
        go_wp2
        go_ret2
        exact ⟨by rw [hE.out, hR.out, Hat.out]; rfl, hB⟩
  · have Hf := Lib.hid (show atErr s line col = (textErr s).2 from if_pos h0)
    have Hr := Lib.hid (show atRes s line col = 0 from if_pos h0)
    generalize hte : (textErr s).2 = te at h0 Hf
    have Hte := Lib.hid hte
    have ht3 : ((te : Int) != 0) = true := by simp; omega
    have Hne := Lib.hid h0
    clear hte h0
    go_enter Tryz.func10, Tryz.ntmps10
    go_wp2_with (go_at_call 28; refine (textError_any s _ hs).mono ?_; rw [Hte.out]; rintro e w1 ⟨rfl, hb1⟩)
    go_ret2
    exact ⟨by rw [Hf.out, Hr.out]; rfl, ((Below.refl _ _).alloc (Nat.le_refl _) _).trans (hb1.mono (by simp))⟩

end Go.Proofs.YtocogbllhmiefaaGreatDoor.Lx
