/- The reference: In, IsBase, IsType. -/
import Derived.Test.YtoncdnelacolaaaGreatDoorAWalkC
import Derived.Test.YtoncdnelacolaaaGreatDoorABlocks
namespace Go.Proofs.YtoncdnelacolaaaGreatDoor.Ar
open Go Go.Proofs Go.RowKit Lx Ps

set_option maxHeartbeats 400000 in
theorem refIn_any (n l m : Int) (w : World) :
    Calls Tryz.prog 90 #[.int .i64 n, .int .i64 l, .int .i64 m] w fun e w' => e = .returned (.bool (decide (l ≤ n) && decide (n ≤ m))) ∧ w' = w := by
  by_cases h1 : l ≤ n
  · by_cases h2 : n ≤ m
    · go_enter Tryz.func90, Tryz.ntmps90
      go_wp2
      go_ret
      exact ⟨ret_bool (by simp [h2]; exact h1), rfl⟩
    · go_enter Tryz.func90, Tryz.ntmps90
      go_wp2
      go_ret
      exact ⟨ret_bool (by simp; omega), rfl⟩
  · go_enter Tryz.func90, Tryz.ntmps90
    go_wp2
    go_ret
    exact ⟨ret_bool (by simp [show ¬ l ≤ n by omega]), rfl⟩

set_option maxHeartbeats 400000 in
theorem refIsBase_any (b : Bs) (w : World) :
    Calls Tryz.prog 68 #[bsV b] w fun e w' => e = .returned (.bool (!badB b)) ∧ Below w.heap.size w w' := by
  unfold bsV
  have HI := Lib.hid (fun V => refIn_any b.n 1 64 V)
  have hb : Below w.heap.size w (w.alloc (.cells #[.bool b.cell, .int .i64 b.n] 24)) := (Below.refl _ _).alloc (Nat.le_refl _) _
  go_enter Tryz.func68, Tryz.ntmps68
  go_wp2_with (go_at_call 90; refine (HI.out _).mono ?_; rintro e _ ⟨rfl, rfl⟩)
  go_ret
  exact ⟨ret_bool (by rw [Bool.eq_iff_iff]; simp [badB]), hb⟩

set_option maxRecDepth 100000 in
set_option maxHeartbeats 1000000 in
theorem refIsType_any (t : Ty) (pv : Value) (w : World) (hp : SlB w pv t.params) (hl : t.params.length ≤ 140737488355328) :
    Calls Tryz.prog 67 #[tyV pv t] w fun e w' => e = .returned (.bool (!badT t)) ∧ Below w.heap.size w w' := by
  obtain ⟨A, cap, rfl, hA⟩ := hp
  have hba : Below w.heap.size w (w.alloc (.cells #[.slice A t.params.length cap, .bool t.result.cell, .int .i64 t.result.n] 64)) := (Below.refl _ _).alloc (Nat.le_refl _) _
  have K := heap_alloc_new w (.cells #[.slice A t.params.length cap, .bool t.result.cell, .int .i64 t.result.n] 64)
  unfold tyV
  go_enter Tryz.func67, Tryz.ntmps67
  go_wp2
  go_loopw [3] (fun i wr => ∃ k : Nat, k ≤ t.params.length ∧ i = .int .i64 k ∧ (t.params.take k).any badB = false ∧ Below w.heap.size w wr ∧ wr.heap[w.heap.size]? = some (.cells #[.slice A t.params.length cap, .bool t.result.cell, .int .i64 t.result.n] 64 (0, 0))) (fun i _ => t.params.length - (intOf i).toNat)
  case atStart => exact ⟨0, Nat.zero_le _, rfl, rfl, hba, K⟩
  case round =>
    obtain ⟨k, hk, rfl, ht, hb, K1⟩ := hrel
    have Ht := Lib.hid ht
    have HK1 := Lib.hid K1
    have r0 := cell_of_row _ _ 0 _ _ _ K1
    have r1 := cell_of_row _ _ 1 _ _ _ K1
    have r2 := cell_of_row _ _ 2 _ _ _ K1
    have hlw := (Array.getElem?_eq_some_iff.1 K1).1
    clear ht K1 K hba
    by_cases hlt : k < t.params.length
    · obtain ⟨b1, o1, rfl, hb1, hc1⟩ := hA (by omega)
      obtain ⟨p1, p2⟩ := hc1 k _ (List.getElem?_eq_getElem hlt)
      have p1' := (hb.cell (p := ⟨b1, o1 + k * 2, none⟩) hb1).trans p1
      have p2' := (hb.cell (p := ⟨b1, o1 + k * 2 + 1, none⟩) hb1).trans p2
      clear p1 p2 hc1 hA
      have Hx := Lib.hid (show (t.params.take (k + 1)).any badB = badB t.params[k] by rw [List.take_succ_eq_append_getElem hlt, List.any_append, Ht.out]; simp)
      have Hm := Lib.hid (List.getElem_mem hlt)
      generalize t.params[k] = x at p1' p2' Hx Hm
      have hcal := fun W => refIsBase_any x W
      unfold bsV at hcal
      cases hx : badB x
      · rw [hx] at Hx hcal
        have Hc := Lib.hid hcal
        clear hcal hx
        go_wp2_with (go_at_call 68; refine (Hc.out _).mono ?_; rintro e w1 ⟨rfl, hb1⟩)
        go_roundw
        case rel => exact ⟨k + 1, by omega, by go_num, Hx.out, hb.trans (hb1.mono hb.size), heap_below hb1 hlw HK1.out⟩
        case measure => simp [intOf]; omega
      · have Hx2 := Lib.hid hx
        rw [hx] at hcal
        have Hc := Lib.hid hcal
        clear hcal hx
        go_wp2_with (go_at_call 68; refine (Hc.out _).mono ?_; rintro e w1 ⟨rfl, hb1⟩)
        go_ret
        exact ⟨ret_bool (by have : t.params.any badB = true := List.any_eq_true.2 ⟨x, Hm.out, Hx2.out⟩
                            simp [badT, this]), hb.trans (hb1.mono hb.size)⟩
    · have hall := Ht.out
      rw [List.take_of_length_le (by omega)] at hall
      have HT := Lib.hid (show badT t = (badB t.result || (t.result.cell && decide (0 < t.params.length))) by unfold badT; rw [hall]; simp)
      have hcal := fun W => refIsBase_any t.result W
      unfold bsV at hcal
      clear hall Ht
      cases h1 : badB t.result
      · rw [h1] at HT hcal
        have Hc := Lib.hid hcal
        clear hcal h1
        by_cases h2 : t.params.length = 0
        · have e2 : ((t.params.length : Int) == 0) = true := by simp [List.eq_nil_of_length_eq_zero h2]
          go_wp2_with (go_at_call 68; refine (Hc.out _).mono ?_; rintro e w1 ⟨rfl, hb1⟩; have hb2 := hb.trans (hb1.mono hb.size); have r0' := (hb1.cell (p := ⟨w.heap.size, 0, none⟩) hlw).trans r0; have r1' := (hb1.cell (p := ⟨w.heap.size, 1, none⟩) hlw).trans r1)
          go_ret
          exact ⟨ret_bool (by rw [HT.out]; simp [h2]), hb2⟩
        · have e2 : ((t.params.length : Int) == 0) = false := by simpa using h2
          go_wp2_with (go_at_call 68; refine (Hc.out _).mono ?_; rintro e w1 ⟨rfl, hb1⟩; have hb2 := hb.trans (hb1.mono hb.size); have r0' := (hb1.cell (p := ⟨w.heap.size, 0, none⟩) hlw).trans r0; have r1' := (hb1.cell (p := ⟨w.heap.size, 1, none⟩) hlw).trans r1)
          go_ret
          exact ⟨ret_bool (by rw [HT.out]; simp [show 0 < t.params.length by omega]), hb2⟩
      · rw [h1] at HT hcal
        have Hc := Lib.hid hcal
        clear hcal h1
        go_wp2_with (go_at_call 68; refine (Hc.out _).mono ?_; rintro e w1 ⟨rfl, hb1⟩; have hb2 := hb.trans (hb1.mono hb.size))
        go_ret
        exact ⟨ret_bool (by rw [HT.out]; simp), hb2⟩

end Go.Proofs.YtoncdnelacolaaaGreatDoor.Ar
