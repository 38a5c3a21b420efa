/- The document's own Spot and At. -/
import Derived.Test.YtocogbllhmiefaaGreatDoorWalkAR
import Derived.Test.YtocogbllhmiefaaGreatDoorSpecO
namespace Go.Proofs.YtocogbllhmiefaaGreatDoor.Lx
open Go Go.Proofs Go.RowKit Go.Shelf

theorem spot_bounds (s : ByteArray) (a : Nat) : 1 ≤ lineOf s a ∧ lineOf s a ≤ a + 1 ∧ 1 ≤ colOf s a ∧ colOf s a ≤ a + 1 := by
  have h1 := cutL_le (s.data.toList.take a)
  have h2 : (s.data.toList.take a).count 10 ≤ (s.data.toList.take a).length := List.count_le_length
  have h3 : (s.data.toList.take a).length ≤ a := by rw [List.length_take]; omega
  unfold lineOf colOf
  omega

theorem set_at {w : World} {p : Addr} {u : Value} (v : Value) (h : w.cell? p = some u) : (w.setCell p v).cell? p = some v := World.cell?_setCell_same _ _ _ h
theorem set_off {w : World} {p q : Addr} {u : Value} (v : Value) (hne : p ≠ q) (h : w.cell? q = some u) : (w.setCell p v).cell? q = some u := (World.cell?_setCell_other _ _ _ _ hne).trans h

set_option maxRecDepth 100000 in
set_option maxHeartbeats 4000000 in
theorem refSpotOf_any (s : ByteArray) (a : Nat) (w : World) (ha : a ≤ s.size) (hs : s.size ≤ 100000) :
    Calls Tryz.prog 32 #[.string s, .int .i64 (a : Int)] w fun e w' => e = .returned (.agg #[.int .i64 (lineOf s a), .int .i64 (colOf s a)]) ∧ Below w.heap.size w w' := by
  have hfi := spot_first s
  have hne := spot_next s
  have hbo := spot_bounds s
  have Hne := Lib.hid hne
  have Hbo := Lib.hid hbo
  clear hne hbo
  go_enter Tryz.func32, Tryz.ntmps32
  go_wp2
  have hb2 : Below w.heap.size w ((w.alloc (.cells #[.int .i64 0, .int .i64 0] 23)).alloc (.cells #[.int .i64 1, .int .i64 1] 23)) := ((Below.refl _ _).alloc (Nat.le_refl _) _).alloc (by rw [alloc_sz]; omega) _
  have hz1 : (w.alloc (.cells #[.int .i64 0, .int .i64 0] 23)).heap.size = w.heap.size + 1 := alloc_sz _ _
  have d0 : ((w.alloc (.cells #[.int .i64 0, .int .i64 0] 23)).alloc (.cells #[.int .i64 1, .int .i64 1] 23)).cell? ⟨w.heap.size + 1, 0, none⟩ = some (.int .i64 1) := by rw [← hz1]; exact cell_new _ _ _ 0
  have d1 : ((w.alloc (.cells #[.int .i64 0, .int .i64 0] 23)).alloc (.cells #[.int .i64 1, .int .i64 1] 23)).cell? ⟨w.heap.size + 1, 1, none⟩ = some (.int .i64 1) := by rw [← hz1]; exact cell_new _ _ _ 1
  have f0 : ((w.alloc (.cells #[.int .i64 0, .int .i64 0] 23)).alloc (.cells #[.int .i64 1, .int .i64 1] 23)).frozen? ⟨w.heap.size + 1, 0, none⟩ = false := by rw [← hz1]; exact Lib.frozen_of_heap (heap_alloc_new _ _) 0
  have f1 : ((w.alloc (.cells #[.int .i64 0, .int .i64 0] 23)).alloc (.cells #[.int .i64 1, .int .i64 1] 23)).frozen? ⟨w.heap.size + 1, 1, none⟩ = false := by rw [← hz1]; exact Lib.frozen_of_heap (heap_alloc_new _ _) 1
  have ho : Below (w.heap.size + 1) (w.alloc (.cells #[.int .i64 0, .int .i64 0] 23)) ((w.alloc (.cells #[.int .i64 0, .int .i64 0] 23)).alloc (.cells #[.int .i64 1, .int .i64 1] 23)) := (Below.refl _ _).alloc (by rw [alloc_sz]; omega) _
  have c0 := (ho.cell (p := ⟨w.heap.size, 0, none⟩) (Nat.lt_succ_self _)).trans (cell_new w _ _ 0)
  have c1 := (ho.cell (p := ⟨w.heap.size, 1, none⟩) (Nat.lt_succ_self _)).trans (cell_new w _ _ 1)
  have g0 := (ho.frozen (p := ⟨w.heap.size, 0, none⟩) (Nat.lt_succ_self _)).trans (Lib.frozen_of_heap (heap_alloc_new w _) 0)
  have g1 := (ho.frozen (p := ⟨w.heap.size, 1, none⟩) (Nat.lt_succ_self _)).trans (Lib.frozen_of_heap (heap_alloc_new w _) 1)
  clear ho hz1
  go_loopw [6] (fun i wr => ∃ k : Nat, k ≤ a ∧ i = .int .i64 (k : Int) ∧ Below w.heap.size w wr ∧ wr.cell? ⟨w.heap.size + 1, 0, none⟩ = some (.int .i64 (lineOf s k)) ∧ wr.cell? ⟨w.heap.size + 1, 1, none⟩ = some (.int .i64 (colOf s k)) ∧
      wr.frozen? ⟨w.heap.size + 1, 0, none⟩ = false ∧ wr.frozen? ⟨w.heap.size + 1, 1, none⟩ = false ∧ wr.cell? ⟨w.heap.size, 0, none⟩ = some (.int .i64 0) ∧ wr.cell? ⟨w.heap.size, 1, none⟩ = some (.int .i64 0) ∧
      wr.frozen? ⟨w.heap.size, 0, none⟩ = false ∧ wr.frozen? ⟨w.heap.size, 1, none⟩ = false) (fun i _ => a - (intOf i).toNat)
  case atStart => exact ⟨0, Nat.zero_le _, rfl, hb2, by rw [hfi.1]; exact d0, by rw [hfi.2]; exact d1, f0, f1, c0, c1, g0, g1⟩
  case round =>
    obtain ⟨k, hk, rfl, hbw, m0, m1, q0, q1, n0, n1, r0, r1⟩ := hrel
    clear hb2 d0 d1 f0 f1 c0 c1 g0 g1
    by_cases hlt : k < a
    · have hks : k < s.size := by omega
      obtain ⟨b1, b2, b3, b4⟩ := Hbo.out k
      have hnx := Hne.out k hks
      have hc := bt_eq s k hks
      have HB := Lib.hid hbw
      have R0 := Lib.hid r0
      have R1 := Lib.hid r1
      by_cases hb : bt s k = 10
      · obtain ⟨x1, x2⟩ := hnx.1 hb
        have X1 := Lib.hid x1
        have X2 := Lib.hid x2
        have e1 : ((s[k].toNat : Int) == 10) = true := by rw [hc, hb]; rfl
        clear hnx hc hb x1 x2
        generalize lineOf s k = l at *
        generalize colOf s k = c at *
        go_wp2
        go_roundw
        case rel =>
          exact ⟨k + 1, by omega, by go_num, ((HB.out.setCell (p := ⟨w.heap.size + 1, 1, none⟩) (Nat.le_succ _) _).setCell (p := ⟨w.heap.size + 1, 0, none⟩) (Nat.le_succ _) _).setCell (p := ⟨w.heap.size + 1, 1, none⟩) (Nat.le_succ _) _,
            by rw [X1.out]; exact set_off _ (by simp) (set_at _ (set_off _ (by simp) m0)), by rw [X2.out]; exact set_at _ (set_off _ (by simp) (set_at _ m1)),
            by simpa using q0, by simpa using q1, set_off _ (by simp) (set_off _ (by simp) (set_off _ (by simp) n0)), set_off _ (by simp) (set_off _ (by simp) (set_off _ (by simp) n1)), by simpa using R0.out, by simpa using R1.out⟩
        case measure => simp [intOf]; omega
      · obtain ⟨x1, x2⟩ := hnx.2 hb
        have X1 := Lib.hid x1
        have X2 := Lib.hid x2
        have e1 : ((s[k].toNat : Int) == 10) = false := by rw [hc]; simp; omega
        clear hnx hc hb x1 x2
        generalize lineOf s k = l at *
        generalize colOf s k = c at *
        go_wp2
        go_roundw
        case rel =>
          exact ⟨k + 1, by omega, by go_num, HB.out.setCell (p := ⟨w.heap.size + 1, 1, none⟩) (Nat.le_succ _) _,
            by rw [X1.out]; exact set_off _ (by simp) m0, by rw [X2.out]; exact set_at _ m1,
            by simpa using q0, by simpa using q1, set_off _ (by simp) n0, set_off _ (by simp) n1, by simpa using R0.out, by simpa using R1.out⟩
        case measure => simp [intOf]; omega
    · obtain rfl : k = a := by omega
      have HB := Lib.hid hbw
      go_wp2
      obtain ⟨z0, z1⟩ := spot_read (.int .i64 (lineOf s k)) (.int .i64 (colOf s k)) n0 n1
      refine bodyPost_ret (v := .agg #[.int .i64 (lineOf s k), .int .i64 (colOf s k)]) (by simp [results, Tryz.results32, go_sem, z0, z1]) rfl ⟨rfl, (HB.out.setCell (p := ⟨w.heap.size, 0, none⟩) (Nat.le_refl _) _).setCell (p := ⟨w.heap.size, 1, none⟩) (Nat.le_refl _) _⟩

def spEq (a b c d : Int) : Bool := decide (a = c) && decide (b = d)
theorem spot_fields : Tryz.prog.underlying 23 = some (.struct (Tryz.prog.fieldsOf 23)) := by kernel_rfl
theorem spot_stood : Tryz.prog.stoodInHeld 23 = false := by kernel_rfl
theorem spot_list : (Tryz.prog.fieldsOf 23).toList = [⟨"Line", 3, 0, false, "", "", 0⟩, ⟨"Column", 3, 1, false, "", "", 8⟩] := by kernel_rfl
theorem spot_equal (a b c d : Int) (W : World) : (Op.equalIn 10000 23 (.agg #[.int .i64 a, .int .i64 b]) (.agg #[.int .i64 c, .int .i64 d])).run Tryz.prog W = .ok (spEq a b c d) W := by
  rw [run_equalIn_agg W 9999 _ _ _ spot_fields spot_stood, spot_list]
  have u3 : Tryz.prog.underlying 3 = some (.int .i64) := Tryz.underlying3
  simp [Op.eqFields, go_sem, spEq]
  by_cases h1 : a = c <;> by_cases h2 : b = d <;> simp [h1, h2]

set_option maxRecDepth 100000 in
set_option maxHeartbeats 4000000 in
theorem refSpot_any (s : ByteArray) (p : Int) (w : World) (hs : s.size ≤ 100000) :
    Calls Tryz.prog 9 #[.string s, .int .i64 p] w (SpotP s p w) := by
  have hb0 : Below w.heap.size w (w.alloc (.cells #[.int .i64 0, .int .i64 0] 23)) := (Below.refl _ _).alloc (Nat.le_refl _) _
  have c0 := cell_new w #[.int .i64 0, .int .i64 0] 23 0
  have c1 := cell_new w #[.int .i64 0, .int .i64 0] 23 1
  have Hb0 := Lib.hid hb0
  by_cases h0 : (textErr s).2 = 0
  · have H0 := Lib.hid h0
    by_cases h1 : p < 0
    · have Hf := Lib.hid (show spotErr s p = 3 by unfold spotErr; rw [if_neg (by simp [h0]), if_pos (.inl h1)])
      clear h0 hb0
      go_enter Tryz.func9, Tryz.ntmps9
      go_wp2_with (go_at_call 31; refine (refTextError_any s _ hs).mono ?_; rw [H0.out]; rintro e w1 ⟨rfl, rfl⟩)
      refine bodyPost_ret (v := .tuple #[spotVals 0 0, .int .i64 3]) (by simp [results, Tryz.results9, go_sem, spotVals, c0, c1]) rfl ⟨by rw [Hf.out]; rfl, Hb0.out⟩
    · by_cases h2 : (s.size : Int) < p
      · have Hf := Lib.hid (show spotErr s p = 3 by unfold spotErr; rw [if_neg (by simp [h0]), if_pos (.inr h2)])
        clear h0 hb0
        go_enter Tryz.func9, Tryz.ntmps9
        go_wp2_with (go_at_call 31; refine (refTextError_any s _ hs).mono ?_; rw [H0.out]; rintro e w1 ⟨rfl, rfl⟩)
        refine bodyPost_ret (v := .tuple #[spotVals 0 0, .int .i64 3]) (by simp [results, Tryz.results9, go_sem, spotVals, c0, c1]) rfl ⟨by rw [Hf.out]; rfl, Hb0.out⟩
      · have Hf := Lib.hid (show spotErr s p = 0 by unfold spotErr; rw [if_neg (by simp [h0]), if_neg (by omega)])
        obtain ⟨a, rfl⟩ : ∃ a : Nat, p = a := ⟨p.toNat, by omega⟩
        have ha : a ≤ s.size := by omega
        have Hso := Lib.hid (fun W => refSpotOf_any s a W ha hs)
        clear h0 hb0 c0 c1 h1
        go_enter Tryz.func9, Tryz.ntmps9
        go_wp2_with (first
          | (go_at_call 31; refine (refTextError_any s _ hs).mono ?_; rw [H0.out]; rintro e w1 ⟨rfl, rfl⟩)
          | (go_at_call 32; refine (Hso.out _).mono ?_; rintro e w2 ⟨rfl, hb2⟩; obtain ⟨hb3, c0, c1, f0, f1⟩ := spot_cells hb2))
        obtain ⟨r0, r1⟩ := spot_read (.int .i64 (lineOf s a)) (.int .i64 (colOf s a)) c0 c1
        refine bodyPost_ret (v := .tuple #[spotVals (lineOf s a) (colOf s a), .int .i64 0]) (by simp [results, Tryz.results9, go_sem, spotVals, r0, r1]) rfl ⟨by rw [Hf.out, if_pos rfl, if_pos rfl]; rfl, (hb3.setCell (p := ⟨w.heap.size, 0, none⟩) (Nat.le_refl _) _).setCell (p := ⟨w.heap.size, 1, none⟩) (Nat.le_refl _) _⟩
  · have Hf := Lib.hid (show spotErr s p = (textErr s).2 from if_pos h0)
    generalize hte : (textErr s).2 = te at h0 Hf
    have Hte := Lib.hid hte
    have ht3 : ((te : Int) != 0) = true := by simp; omega
    have Hne := Lib.hid h0
    clear hte h0 hb0
    go_enter Tryz.func9, Tryz.ntmps9
    go_wp2_with (go_at_call 31; refine (refTextError_any s _ hs).mono ?_; rw [Hte.out]; rintro e w1 ⟨rfl, rfl⟩)
    refine bodyPost_ret (v := .tuple #[spotVals 0 0, .int .i64 (te : Int)]) (by simp [results, Tryz.results9, go_sem, spotVals, c0, c1]) rfl ⟨by rw [Hf.out, if_neg Hne.out, if_neg Hne.out], Hb0.out⟩

set_option maxRecDepth 100000 in
set_option maxHeartbeats 4000000 in
theorem refAt_any (s : ByteArray) (line col : Int) (w : World) (hs : s.size ≤ 100000) :
    Calls Tryz.prog 11 #[.string s, .agg #[.int .i64 line, .int .i64 col]] w (AtP s line col w) := by
  have Hb0 := Lib.hid ((Below.refl w.heap.size w).alloc (Nat.le_refl _) (.cells #[.int .i64 line, .int .i64 col] 23))
  by_cases h0 : (textErr s).2 = 0
  · have H0 := Lib.hid h0
    have HE := Lib.hid (show atErr s line col = if (atOf s line col).isSome then 0 else 7 from if_neg (by simp [h0]))
    have HR := Lib.hid (show atRes s line col = (atOf s line col).getD 0 from if_neg (by simp [h0]))
    have Hspt := Lib.hid (atOf_spot s)
    have Hnon := Lib.hid (atOf_none (s := s) (line := line) (col := col))
    have Hso := Lib.hid (fun a W (ha : a ≤ s.size) => refSpotOf_any s a W ha hs)
    clear h0
    have hlt0 : w.heap.size < (w.alloc (.cells #[.int .i64 line, .int .i64 col] 23)).heap.size := by rw [alloc_sz]; exact Nat.lt_succ_self _
    have c0 := cell_new w #[.int .i64 line, .int .i64 col] 23 0
    have c1 := cell_new w #[.int .i64 line, .int .i64 col] 23 1
    go_enter Tryz.func11, Tryz.ntmps11
    go_wp2_with (go_at_call 31; refine (refTextError_any s _ hs).mono ?_; rw [H0.out]; rintro e w1 ⟨rfl, rfl⟩)
    go_loopw [8] (fun i wr => ∃ k : Nat, k ≤ s.size + 1 ∧ i = .int .i64 (k : Int) ∧ Below w.heap.size w wr ∧ w.heap.size < wr.heap.size ∧ wr.cell? ⟨w.heap.size, 0, none⟩ = some (.int .i64 line) ∧ wr.cell? ⟨w.heap.size, 1, none⟩ = some (.int .i64 col) ∧
        ∀ j : Nat, j < k → ¬ (lineOf s j = line ∧ colOf s j = col)) (fun i _ => s.size + 1 - (intOf i).toNat)
    case atStart => exact ⟨0, Nat.zero_le _, rfl, Hb0.out, hlt0, c0, c1, fun j h => absurd h (by omega)⟩
    case round =>
      obtain ⟨k, hk, rfl, hbw, hlw, m0, m1, hno⟩ := hrel
      clear c0 c1 hlt0
      have Hno := Lib.hid hno
      have HB := Lib.hid hbw
      clear hno
      by_cases hlt : k ≤ s.size
      · have Hsk := Lib.hid (fun W => Hso.out k W hlt)
        have Hbx : Hid (∀ W', Below wr.drew.heap.size wr.drew W' → W'.cell? ⟨w.heap.size, 0, none⟩ = some (.int .i64 line) ∧ W'.cell? ⟨w.heap.size, 1, none⟩ = some (.int .i64 col) ∧ w.heap.size < W'.heap.size ∧ Below w.heap.size w W') := fun W' hb =>
          ⟨(hb.cell (p := ⟨w.heap.size, 0, none⟩) hlw).trans m0, (hb.cell (p := ⟨w.heap.size, 1, none⟩) hlw).trans m1, Nat.lt_of_lt_of_le hlw hb.size, HB.out.drew.trans (hb.mono HB.out.size)⟩
        by_cases heq : lineOf s k = line ∧ colOf s k = col
        · have he := fun W => (spot_equal (lineOf s k) (colOf s k) line col W).trans (by rw [show spEq (lineOf s k) (colOf s k) line col = true by unfold spEq; rw [decide_eq_true heq.1, decide_eq_true heq.2]; rfl])
          have Hat := Lib.hid (show atOf s line col = some (k : Int) by rw [← heq.1, ← heq.2]; exact Hspt.out k hlt)
          clear heq
          go_wp2
          go_region_with (go_at_call 32; refine (Hsk.out wr.drew).mono ?_; rintro e w2 ⟨rfl, hb2⟩; obtain ⟨y0, y1, y2, y3⟩ := Hbx.out w2 hb2)
          all_goals (
            go_wp2
            go_ret2
            exact ⟨by rw [HE.out, HR.out, Hat.out]; rfl, y3⟩)
        · have he := fun W => (spot_equal (lineOf s k) (colOf s k) line col W).trans (by rw [show spEq (lineOf s k) (colOf s k) line col = false by
            unfold spEq
            by_cases h1 : lineOf s k = line
            · rw [decide_eq_true h1, decide_eq_false (fun h2 => heq ⟨h1, h2⟩)]; rfl
            · rw [decide_eq_false h1]; rfl])
          have Hno2 := Lib.hid (show ∀ j : Nat, j < k + 1 → ¬ (lineOf s j = line ∧ colOf s j = col) from fun j hj => by
            rcases Nat.lt_succ_iff_lt_or_eq.1 hj with h | rfl
            · exact Hno.out j h
            · exact heq)
          clear heq
          go_wp2
          go_region_with (go_at_call 32; refine (Hsk.out wr.drew).mono ?_; rintro e w2 ⟨rfl, hb2⟩; obtain ⟨y0, y1, y2, y3⟩ := Hbx.out w2 hb2)
          all_goals (
            go_wp2
            go_roundw
            case rel => exact ⟨k + 1, by omega, by go_num, y3, y2, y0, y1, Hno2.out⟩
            case measure => simp [intOf]; omega)
      · have Hat := Lib.hid (show atOf s line col = none from Hnon.out fun j hj => Hno.out j (by omega))
        go_wp2
        go_ret2
        exact ⟨by rw [HE.out, HR.out, Hat.out]; rfl, HB.out⟩
  · have HE := Lib.hid (show atErr s line col = (textErr s).2 from if_pos h0)
    have HR := Lib.hid (show atRes s line col = 0 from if_pos h0)
    generalize hte : (textErr s).2 = te at h0 HE
    have Hte := Lib.hid hte
    have ht3 : ((te : Int) != 0) = true := by simp; omega
    clear hte h0
    go_enter Tryz.func11, Tryz.ntmps11
    go_wp2_with (go_at_call 31; refine (refTextError_any s _ hs).mono ?_; rw [Hte.out]; rintro e w1 ⟨rfl, rfl⟩)
    go_ret2
    exact ⟨by rw [HE.out, HR.out]; rfl, Hb0.out⟩

end Go.Proofs.YtocogbllhmiefaaGreatDoor.Lx
