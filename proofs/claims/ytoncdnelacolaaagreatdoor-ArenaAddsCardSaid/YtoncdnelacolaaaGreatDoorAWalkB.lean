/- The error of an arena, second part: types, and the whole. -/
import Derived.Test.YtoncdnelacolaaaGreatDoorAWalkA
namespace Go.Proofs.YtoncdnelacolaaaGreatDoor.Ar
open Go Go.Proofs Go.RowKit Lx

theorem tyV_box (pv : Value) (t : Ty) (w : World) : (w.alloc (.cells #[pv, .bool t.result.cell, .int .i64 t.result.n] 64)).cell? ⟨w.heap.size, 0, none⟩ = some pv := cell_of_row _ w.heap.size 0 _ _ (0, 0) (heap_alloc_new w _)

set_option maxHeartbeats 1000000 in
theorem badT_any (t : Ty) (pv : Value) (w : World) (hp : SlB w pv t.params) (hl : t.params.length ≤ 140737488355328) :
    Calls Tryz.prog 58 #[tyV pv t] w fun e w' => e = .returned (.bool (badT t)) ∧ Below w.heap.size w w' := by
  have hB : ∀ W, Below w.heap.size w W → Calls Tryz.prog 109 #[pv, .func (.func 57) #[] #[]] W fun e w' => e = .returned (.bool (t.params.any badB)) ∧ Below W.heap.size W w' := fun W hb => containsB_any pv t.params W (hp.below hb) hl
  obtain ⟨A, cap, rfl, -⟩ := hp
  have hba : Below w.heap.size w (w.alloc (.cells #[.slice A t.params.length cap, .bool t.result.cell, .int .i64 t.result.n] 64)) := (Below.refl _ _).alloc (Nat.le_refl _) _
  have HB := Lib.hid hB
  clear hB
  have hR := fun W => badB_any t.result W
  unfold bsV at hR
  have hT : badT t = (badB t.result || t.params.any badB || (t.result.cell && decide (0 < t.params.length))) := rfl
  cases h1 : badB t.result
  · rw [h1] at hR hT
    have HR := Lib.hid hR
    have HT := Lib.hid hT
    clear hR hT
    cases h2 : t.params.any badB
    · rw [h2] at HB HT
      cases h3 : t.result.cell
      · have HT2 := Lib.hid (HT.out.trans (by rw [h3]))
        unfold tyV
        rw [h3] at HR hba ⊢
        clear HT h1 h2 h3
        go_enter Tryz.func58, Tryz.ntmps58
        go_wp2_with (first
          | (go_at_call 57; refine (HR.out _).mono ?_; rintro e w1 ⟨rfl, hb1⟩; have hb2 := hba.trans (hb1.mono hba.size); obtain ⟨hc1, hf1⟩ := old_cells hb1; have hz3 : w.heap.size < w1.heap.size := by have := hb1.size; simp at this; omega)
          | (go_at_call 109; refine (HB.out _ hb2).mono ?_; rintro e w2 ⟨rfl, hb3⟩; have hb4 := hb2.trans (hb3.mono hb2.size); obtain ⟨hc3, hf3⟩ := old_cells hb3))
        go_ret
        exact ⟨ret_bool HT2.out.symm, hb4⟩
      · have HT2 := Lib.hid (HT.out.trans (by rw [h3]))
        unfold tyV
        rw [h3] at HR hba ⊢
        clear HT h1 h2 h3
        go_enter Tryz.func58, Tryz.ntmps58
        go_wp2_with (first
          | (go_at_call 57; refine (HR.out _).mono ?_; rintro e w1 ⟨rfl, hb1⟩; have hb2 := hba.trans (hb1.mono hba.size); obtain ⟨hc1, hf1⟩ := old_cells hb1; have hz3 : w.heap.size < w1.heap.size := by have := hb1.size; simp at this; omega)
          | (go_at_call 109; refine (HB.out _ hb2).mono ?_; rintro e w2 ⟨rfl, hb3⟩; have hb4 := hb2.trans (hb3.mono hb2.size); obtain ⟨hc3, hf3⟩ := old_cells hb3))
        go_ret
        exact ⟨ret_bool (HT2.out.trans (by rw [Bool.eq_iff_iff]; simp)).symm, hb4⟩
    · rw [h2] at HB HT
      have HT2 := Lib.hid (HT.out.trans (by rw [Bool.eq_iff_iff]; simp) : badT t = true)
      unfold tyV
      clear HT h1 h2
      go_enter Tryz.func58, Tryz.ntmps58
      go_wp2_with (first
          | (go_at_call 57; refine (HR.out _).mono ?_; rintro e w1 ⟨rfl, hb1⟩; have hb2 := hba.trans (hb1.mono hba.size); obtain ⟨hc1, hf1⟩ := old_cells hb1; have hz3 : w.heap.size < w1.heap.size := by have := hb1.size; simp at this; omega)
          | (go_at_call 109; refine (HB.out _ hb2).mono ?_; rintro e w2 ⟨rfl, hb3⟩; have hb4 := hb2.trans (hb3.mono hb2.size); obtain ⟨hc3, hf3⟩ := old_cells hb3))
      go_ret
      exact ⟨ret_bool HT2.out.symm, hb4⟩
  · rw [h1] at hR hT
    have HR := Lib.hid hR
    have HT := Lib.hid (hT.trans (by simp) : badT t = true)
    clear hR hT h1
    unfold tyV
    go_enter Tryz.func58, Tryz.ntmps58
    go_wp2_with (go_at_call 57; refine (HR.out _).mono ?_; rintro e w1 ⟨rfl, hb1⟩; have hb2 := hba.trans (hb1.mono hba.size))
    go_ret
    exact ⟨ret_bool HT.out.symm, hb2⟩

set_option maxHeartbeats 1000000 in
theorem containsW_any (v : Value) (l : List Ty) (w : World) (hv : SlT w v l) (hl : l.length ≤ 140737488355328) (hls : ∀ x ∈ l, x.params.length ≤ 140737488355328) :
    Calls Tryz.prog 55 #[v, .func (.func 56) #[] #[]] w fun e w' => e = .returned (.bool (l.any wideT)) ∧ Below w.heap.size w w' := by
  have hix : Calls Tryz.prog 108 #[v, .func (.func 56) #[] #[]] w fun e w' => (∃ n : Int, e = .returned (.int .i64 n) ∧ decide (0 ≤ n) = l.any wideT) ∧ Below w.heap.size w w' := by
    obtain ⟨A, cap, rfl, hA⟩ := hv
    go_enter Tryz.func108, Tryz.ntmps108
    go_wp2
    go_loopw [8] (fun i wr => ∃ k : Nat, k ≤ l.length ∧ i = .int .i64 k ∧ (l.take k).any wideT = false ∧ Below w.heap.size w wr) (fun i _ => l.length - (intOf i).toNat)
    case atStart => exact ⟨0, Nat.zero_le _, rfl, rfl, Below.refl _ _⟩
    case round =>
      obtain ⟨k, hk, rfl, ht, hb⟩ := hrel
      have Ht := Lib.hid ht
      clear ht
      by_cases hlt : k < l.length
      · obtain ⟨b1, o1, rfl, hb1, hc1⟩ := hA (by omega)
        obtain ⟨pv, p0, p1, p2, p3⟩ := hc1 k _ (List.getElem?_eq_getElem hlt)
        have p1' := (hb.cell (p := ⟨b1, o1 + k * 3, none⟩) hb1).trans p1
        have p2' := (hb.cell (p := ⟨b1, o1 + k * 3 + 1, none⟩) hb1).trans p2
        have p3' := (hb.cell (p := ⟨b1, o1 + k * 3 + 2, none⟩) hb1).trans p3
        have p0' := p0.below hb
        clear p0 p1 p2 p3 hc1 hA
        have Hx := Lib.hid (show (l.take (k + 1)).any wideT = wideT l[k] by rw [List.take_succ_eq_append_getElem hlt, List.any_append, Ht.out]; simp)
        have Hm := Lib.hid (List.getElem_mem hlt)
        have hxl := hls _ (List.getElem_mem hlt)
        generalize l[k] = x at p0' p1' p2' p3' Hx Hm hxl
        have hcal : Calls Tryz.prog 56 #[tyV pv x] wr fun e w' => e = .returned (.bool (wideT x)) ∧ Below wr.heap.size wr w' := wideT_any x pv wr p0'
        unfold tyV at hcal
        cases hx : wideT x
        · rw [hx] at Hx hcal
          have Hc := Lib.hid hcal
          clear hcal hx
          obtain ⟨A2, c2, rfl, -⟩ := p0'
          go_wp2_with (go_at_call 56; refine Hc.out.mono ?_; rintro e w1 ⟨rfl, hb1⟩)
          go_roundw
          case rel => exact ⟨k + 1, by omega, by go_num, Hx.out, hb.trans (hb1.mono hb.size)⟩
          case measure => simp [intOf]; omega
        · have Hx2 := Lib.hid hx
          rw [hx] at hcal
          have Hc := Lib.hid hcal
          clear hcal hx
          obtain ⟨A2, c2, rfl, -⟩ := p0'
          go_wp2_with (go_at_call 56; refine Hc.out.mono ?_; rintro e w1 ⟨rfl, hb1⟩)
          go_ret
          exact ⟨⟨k, rfl, by rw [List.any_eq_true.2 ⟨x, Hm.out, Hx2.out⟩]; simp⟩, hb.trans (hb1.mono hb.size)⟩
      · go_wp2
        go_ret
        refine ⟨⟨-1, rfl, ?_⟩, hb⟩
        have := Ht.out
        rw [List.take_of_length_le (by omega)] at this
        rw [this]
        rfl
  obtain ⟨A, cap, rfl, hA⟩ := hv
  have Hix := Lib.hid hix
  clear hix
  go_enter Tryz.func55, Tryz.ntmps55
  go_wp2_with (go_at_call 108; refine Hix.out.mono ?_; rintro e w1 ⟨⟨n, rfl, hn⟩, hb1⟩; have Hn := Lib.hid hn; clear hn)
  go_ret
  exact ⟨ret_bool Hn.out, hb1⟩

set_option maxHeartbeats 1000000 in
theorem containsT_any (v : Value) (l : List Ty) (w : World) (hv : SlT w v l) (hl : l.length ≤ 140737488355328) (hls : ∀ x ∈ l, x.params.length ≤ 140737488355328) :
    Calls Tryz.prog 55 #[v, .func (.func 58) #[] #[]] w fun e w' => e = .returned (.bool (l.any badT)) ∧ Below w.heap.size w w' := by
  have hix : Calls Tryz.prog 108 #[v, .func (.func 58) #[] #[]] w fun e w' => (∃ n : Int, e = .returned (.int .i64 n) ∧ decide (0 ≤ n) = l.any badT) ∧ Below w.heap.size w w' := by
    obtain ⟨A, cap, rfl, hA⟩ := hv
    go_enter Tryz.func108, Tryz.ntmps108
    go_wp2
    go_loopw [8] (fun i wr => ∃ k : Nat, k ≤ l.length ∧ i = .int .i64 k ∧ (l.take k).any badT = false ∧ Below w.heap.size w wr) (fun i _ => l.length - (intOf i).toNat)
    case atStart => exact ⟨0, Nat.zero_le _, rfl, rfl, Below.refl _ _⟩
    case round =>
      obtain ⟨k, hk, rfl, ht, hb⟩ := hrel
      have Ht := Lib.hid ht
      clear ht
      by_cases hlt : k < l.length
      · obtain ⟨b1, o1, rfl, hb1, hc1⟩ := hA (by omega)
        obtain ⟨pv, p0, p1, p2, p3⟩ := hc1 k _ (List.getElem?_eq_getElem hlt)
        have p1' := (hb.cell (p := ⟨b1, o1 + k * 3, none⟩) hb1).trans p1
        have p2' := (hb.cell (p := ⟨b1, o1 + k * 3 + 1, none⟩) hb1).trans p2
        have p3' := (hb.cell (p := ⟨b1, o1 + k * 3 + 2, none⟩) hb1).trans p3
        have p0' := p0.below hb
        clear p0 p1 p2 p3 hc1 hA
        have Hx := Lib.hid (show (l.take (k + 1)).any badT = badT l[k] by rw [List.take_succ_eq_append_getElem hlt, List.any_append, Ht.out]; simp)
        have Hm := Lib.hid (List.getElem_mem hlt)
        have hxl := hls _ (List.getElem_mem hlt)
        generalize l[k] = x at p0' p1' p2' p3' Hx Hm hxl
        have hcal : Calls Tryz.prog 58 #[tyV pv x] wr fun e w' => e = .returned (.bool (badT x)) ∧ Below wr.heap.size wr w' := badT_any x pv wr p0' hxl
        unfold tyV at hcal
        cases hx : badT x
        · rw [hx] at Hx hcal
          have Hc := Lib.hid hcal
          clear hcal hx
          obtain ⟨A2, c2, rfl, -⟩ := p0'
          go_wp2_with (go_at_call 58; refine Hc.out.mono ?_; rintro e w1 ⟨rfl, hb1⟩)
          go_roundw
          case rel => exact ⟨k + 1, by omega, by go_num, Hx.out, hb.trans (hb1.mono hb.size)⟩
          case measure => simp [intOf]; omega
        · have Hx2 := Lib.hid hx
          rw [hx] at hcal
          have Hc := Lib.hid hcal
          clear hcal hx
          obtain ⟨A2, c2, rfl, -⟩ := p0'
          go_wp2_with (go_at_call 58; refine Hc.out.mono ?_; rintro e w1 ⟨rfl, hb1⟩)
          go_ret
          exact ⟨⟨k, rfl, by rw [List.any_eq_true.2 ⟨x, Hm.out, Hx2.out⟩]; simp⟩, hb.trans (hb1.mono hb.size)⟩
      · go_wp2
        go_ret
        refine ⟨⟨-1, rfl, ?_⟩, hb⟩
        have := Ht.out
        rw [List.take_of_length_le (by omega)] at this
        rw [this]
        rfl
  obtain ⟨A, cap, rfl, hA⟩ := hv
  have Hix := Lib.hid hix
  clear hix
  go_enter Tryz.func55, Tryz.ntmps55
  go_wp2_with (go_at_call 108; refine Hix.out.mono ?_; rintro e w1 ⟨⟨n, rfl, hn⟩, hb1⟩; have Hn := Lib.hid hn; clear hn)
  go_ret
  exact ⟨ret_bool Hn.out, hb1⟩

end Go.Proofs.YtoncdnelacolaaaGreatDoor.Ar
