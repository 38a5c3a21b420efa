/- Check, rightOf: the error of an arena. -/
import Derived.Test.YtoncdnelacolaaaGreatDoorProg
import Derived.Test.YtoncdnelacolaaaGreatDoorAHead
namespace Go.Proofs.YtoncdnelacolaaaGreatDoor.Ar
open Go Go.Proofs Go.RowKit Lx

set_option maxHeartbeats 400000 in
theorem badB_any (b : Bs) (w : World) :
    Calls Tryz.prog 57 #[bsV b] w fun e w' => e = .returned (.bool (badB b)) ∧ Below w.heap.size w w' := by
  unfold bsV
  have hb : Below w.heap.size w (w.alloc (.cells #[.bool b.cell, .int .i64 b.n] 24)) := (Below.refl _ _).alloc (Nat.le_refl _) _
  by_cases h : b.n < 1
  · go_enter Tryz.func57, Tryz.ntmps57
    go_wp2
    go_ret
    exact ⟨ret_bool (by simp [badB, h]), hb⟩
  · go_enter Tryz.func57, Tryz.ntmps57
    go_wp2
    go_ret
    exact ⟨ret_bool (by rw [Bool.eq_iff_iff]; simp [badB]; omega), hb⟩

set_option maxHeartbeats 400000 in
theorem wideT_any (t : Ty) (pv : Value) (w : World) (hp : SlB w pv t.params) :
    Calls Tryz.prog 56 #[tyV pv t] w fun e w' => e = .returned (.bool (wideT t)) ∧ Below w.heap.size w w' := by
  obtain ⟨A, cap, rfl, -⟩ := hp
  unfold tyV
  have hb : Below w.heap.size w (w.alloc (.cells #[.slice A t.params.length cap, .bool t.result.cell, .int .i64 t.result.n] 64)) := (Below.refl _ _).alloc (Nat.le_refl _) _
  go_enter Tryz.func56, Tryz.ntmps56
  go_wp2
  go_ret
  exact ⟨ret_bool (by rw [Bool.eq_iff_iff]; simp [wideT]; omega), hb⟩

set_option maxHeartbeats 800000 in
theorem containsB_any (v : Value) (l : List Bs) (w : World) (hv : SlB w v l) (hl : l.length ≤ 140737488355328) :
    Calls Tryz.prog 109 #[v, .func (.func 57) #[] #[]] w fun e w' => e = .returned (.bool (l.any badB)) ∧ Below w.heap.size w w' := by
  have hix : Calls Tryz.prog 137 #[v, .func (.func 57) #[] #[]] w fun e w' => (∃ n : Int, e = .returned (.int .i64 n) ∧ decide (0 ≤ n) = l.any badB) ∧ Below w.heap.size w w' := by
    obtain ⟨A, cap, rfl, hA⟩ := hv
    go_enter Tryz.func137, Tryz.ntmps137
    go_wp2
    go_loopw [8] (fun i wr => ∃ k : Nat, k ≤ l.length ∧ i = .int .i64 k ∧ (l.take k).any badB = false ∧ Below w.heap.size w wr) (fun i _ => l.length - (intOf i).toNat)
    case atStart => exact ⟨0, Nat.zero_le _, rfl, rfl, Below.refl _ _⟩
    case round =>
      obtain ⟨k, hk, rfl, ht, hb⟩ := hrel
      have Ht := Lib.hid ht
      clear ht
      by_cases hlt : k < l.length
      · obtain ⟨b1, o1, rfl, hb1, hc1⟩ := hA (by omega)
        obtain ⟨p1, p2⟩ := hc1 k _ (List.getElem?_eq_getElem hlt)
        have p1' := (hb.cell (p := ⟨b1, o1 + k * 2, none⟩) hb1).trans p1
        have p2' := (hb.cell (p := ⟨b1, o1 + k * 2 + 1, none⟩) hb1).trans p2
        clear p1 p2 hc1 hA
        have Hx := Lib.hid (show (l.take (k + 1)).any badB = badB l[k] by rw [List.take_succ_eq_append_getElem hlt, List.any_append, Ht.out]; simp)
        have Hm := Lib.hid (List.getElem_mem hlt)
        generalize l[k] = x at p1' p2' Hx Hm
        cases hx : badB x
        · rw [hx] at Hx
          have hcal := fun W => badB_any x W
          unfold bsV at hcal
          rw [hx] at hcal
          have Hc := Lib.hid hcal
          clear hcal hx
          go_wp2_with (go_at_call 57; refine (Hc.out _).mono ?_; rintro e w1 ⟨rfl, hb1⟩)
          go_roundw
          case rel => exact ⟨k + 1, by omega, by go_num, Hx.out, hb.trans (hb1.mono hb.size)⟩
          case measure => simp [intOf]; omega
        · have Hx2 := Lib.hid hx
          have hcal := fun W => badB_any x W
          unfold bsV at hcal
          rw [hx] at hcal
          have Hc := Lib.hid hcal
          clear hcal hx
          go_wp2_with (go_at_call 57; refine (Hc.out _).mono ?_; rintro e w1 ⟨rfl, hb1⟩)
          go_ret
          exact ⟨⟨k, rfl, by rw [List.any_eq_true.2 ⟨x, Hm.out, Hx2.out⟩]; simp⟩, hb.trans (hb1.mono hb.size)⟩
      · go_wp2
        go_ret
        refine ⟨⟨-1, rfl, ?_⟩, hb⟩
        have := Ht.out
        rw [List.take_of_length_le (by omega)] at this
        rw [this]
        rfl
  obtain ⟨A, cap, rfl, hA⟩ := hv
  have Hix := Lib.hid hix
  clear hix
  go_enter Tryz.func109, Tryz.ntmps109
  go_wp2_with (go_at_call 137; refine Hix.out.mono ?_; rintro e w1 ⟨⟨n, rfl, hn⟩, hb1⟩; have Hn := Lib.hid hn; clear hn)
  go_ret
  exact ⟨ret_bool Hn.out, hb1⟩

end Go.Proofs.YtoncdnelacolaaaGreatDoor.Ar

namespace Go.Proofs.YtoncdnelacolaaaGreatDoor.Ar
open Go Go.Proofs Go.RowKit Lx

theorem tyV_box (pv : Value) (t : Ty) (w : World) : (w.alloc (.cells #[pv, .bool t.result.cell, .int .i64 t.result.n] 64)).cell? ⟨w.heap.size, 0, none⟩ = some pv := cell_of_row _ w.heap.size 0 _ _ (0, 0) (heap_alloc_new w _)

set_option maxHeartbeats 1000000 in
theorem badT_any (t : Ty) (pv : Value) (w : World) (hp : SlB w pv t.params) (hl : t.params.length ≤ 140737488355328) :
    Calls Tryz.prog 58 #[tyV pv t] w fun e w' => e = .returned (.bool (badT t)) ∧ Below w.heap.size w w' := by
  have hB : ∀ W, Below w.heap.size w W → Calls Tryz.prog 109 #[pv, .func (.func 57) #[] #[]] W fun e w' => e = .returned (.bool (t.params.any badB)) ∧ Below W.heap.size W w' := fun W hb => containsB_any pv t.params W (hp.below hb) hl
  obtain ⟨A, cap, rfl, -⟩ := hp
  have hba : Below w.heap.size w (w.alloc (.cells #[.slice A t.params.length cap, .bool t.result.cell, .int .i64 t.result.n] 64)) := (Below.refl _ _).alloc (Nat.le_refl _) _
  have HB := Lib.hid hB
  clear hB
  have hR := fun W => badB_any t.result W
  unfold bsV at hR
  have hT : badT t = (badB t.result || t.params.any badB || (t.result.cell && decide (0 < t.params.length))) := rfl
  cases h1 : badB t.result
  · rw [h1] at hR hT
    have HR := Lib.hid hR
    have HT := Lib.hid hT
    clear hR hT
    cases h2 : t.params.any badB
    · rw [h2] at HB HT
      cases h3 : t.result.cell
      · have HT2 := Lib.hid (HT.out.trans (by rw [h3]))
        unfold tyV
        rw [h3] at HR hba ⊢
        clear HT h1 h2 h3
        go_enter Tryz.func58, Tryz.ntmps58
        go_wp2_with (first
          | (go_at_call 57; refine (HR.out _).mono ?_; rintro e w1 ⟨rfl, hb1⟩; have hb2 := hba.trans (hb1.mono hba.size); obtain ⟨hc1, hf1⟩ := old_cells hb1; have hz3 : w.heap.size < w1.heap.size := by have := hb1.size; simp at this; omega)
          | (go_at_call 109; refine (HB.out _ hb2).mono ?_; rintro e w2 ⟨rfl, hb3⟩; have hb4 := hb2.trans (hb3.mono hb2.size); obtain ⟨hc3, hf3⟩ := old_cells hb3))
        go_ret
        exact ⟨ret_bool HT2.out.symm, hb4⟩
      · have HT2 := Lib.hid (HT.out.trans (by rw [h3]))
        unfold tyV
        rw [h3] at HR hba ⊢
        clear HT h1 h2 h3
        go_enter Tryz.func58, Tryz.ntmps58
        go_wp2_with (first
          | (go_at_call 57; refine (HR.out _).mono ?_; rintro e w1 ⟨rfl, hb1⟩; have hb2 := hba.trans (hb1.mono hba.size); obtain ⟨hc1, hf1⟩ := old_cells hb1; have hz3 : w.heap.size < w1.heap.size := by have := hb1.size; simp at this; omega)
          | (go_at_call 109; refine (HB.out _ hb2).mono ?_; rintro e w2 ⟨rfl, hb3⟩; have hb4 := hb2.trans (hb3.mono hb2.size); obtain ⟨hc3, hf3⟩ := old_cells hb3))
        go_ret
        exact ⟨ret_bool (HT2.out.trans (by rw [Bool.eq_iff_iff]; simp)).symm, hb4⟩
    · rw [h2] at HB HT
      have HT2 := Lib.hid (HT.out.trans (by rw [Bool.eq_iff_iff]; simp) : badT t = true)
      unfold tyV
      clear HT h1 h2
      go_enter Tryz.func58, Tryz.ntmps58
      go_wp2_with (first
          | (go_at_call 57; refine (HR.out _).mono ?_; rintro e w1 ⟨rfl, hb1⟩; have hb2 := hba.trans (hb1.mono hba.size); obtain ⟨hc1, hf1⟩ := old_cells hb1; have hz3 : w.heap.size < w1.heap.size := by have := hb1.size; simp at this; omega)
          | (go_at_call 109; refine (HB.out _ hb2).mono ?_; rintro e w2 ⟨rfl, hb3⟩; have hb4 := hb2.trans (hb3.mono hb2.size); obtain ⟨hc3, hf3⟩ := old_cells hb3))
      go_ret
      exact ⟨ret_bool HT2.out.symm, hb4⟩
  · rw [h1] at hR hT
    have HR := Lib.hid hR
    have HT := Lib.hid (hT.trans (by simp) : badT t = true)
    clear hR hT h1
    unfold tyV
    go_enter Tryz.func58, Tryz.ntmps58
    go_wp2_with (go_at_call 57; refine (HR.out _).mono ?_; rintro e w1 ⟨rfl, hb1⟩; have hb2 := hba.trans (hb1.mono hba.size))
    go_ret
    exact ⟨ret_bool HT.out.symm, hb2⟩

set_option maxHeartbeats 1000000 in
theorem containsW_any (v : Value) (l : List Ty) (w : World) (hv : SlT w v l) (hl : l.length ≤ 140737488355328) (hls : ∀ x ∈ l, x.params.length ≤ 140737488355328) :
    Calls Tryz.prog 55 #[v, .func (.func 56) #[] #[]] w fun e w' => e = .returned (.bool (l.any wideT)) ∧ Below w.heap.size w w' := by
  have hix : Calls Tryz.prog 108 #[v, .func (.func 56) #[] #[]] w fun e w' => (∃ n : Int, e = .returned (.int .i64 n) ∧ decide (0 ≤ n) = l.any wideT) ∧ Below w.heap.size w w' := by
    obtain ⟨A, cap, rfl, hA⟩ := hv
    go_enter Tryz.func108, Tryz.ntmps108
    go_wp2
    go_loopw [8] (fun i wr => ∃ k : Nat, k ≤ l.length ∧ i = .int .i64 k ∧ (l.take k).any wideT = false ∧ Below w.heap.size w wr) (fun i _ => l.length - (intOf i).toNat)
    case atStart => exact ⟨0, Nat.zero_le _, rfl, rfl, Below.refl _ _⟩
    case round =>
      obtain ⟨k, hk, rfl, ht, hb⟩ := hrel
      have Ht := Lib.hid ht
      clear ht
      by_cases hlt : k < l.length
      · obtain ⟨b1, o1, rfl, hb1, hc1⟩ := hA (by omega)
        obtain ⟨pv, p0, p1, p2, p3⟩ := hc1 k _ (List.getElem?_eq_getElem hlt)
        have p1' := (hb.cell (p := ⟨b1, o1 + k * 3, none⟩) hb1).trans p1
        have p2' := (hb.cell (p := ⟨b1, o1 + k * 3 + 1, none⟩) hb1).trans p2
        have p3' := (hb.cell (p := ⟨b1, o1 + k * 3 + 2, none⟩) hb1).trans p3
        have p0' := p0.below hb
        clear p0 p1 p2 p3 hc1 hA
        have Hx := Lib.hid (show (l.take (k + 1)).any wideT = wideT l[k] by rw [List.take_succ_eq_append_getElem hlt, List.any_append, Ht.out]; simp)
        have Hm := Lib.hid (List.getElem_mem hlt)
        have hxl := hls _ (List.getElem_mem hlt)
        generalize l[k] = x at p0' p1' p2' p3' Hx Hm hxl
        have hcal : Calls Tryz.prog 56 #[tyV pv x] wr fun e w' => e = .returned (.bool (wideT x)) ∧ Below wr.heap.size wr w' := wideT_any x pv wr p0'
        unfold tyV at hcal
        cases hx : wideT x
        · rw [hx] at Hx hcal
          have Hc := Lib.hid hcal
          clear hcal hx
          obtain ⟨A2, c2, rfl, -⟩ := p0'
          go_wp2_with (go_at_call 56; refine Hc.out.mono ?_; rintro e w1 ⟨rfl, hb1⟩)
          go_roundw
          case rel => exact ⟨k + 1, by omega, by go_num, Hx.out, hb.trans (hb1.mono hb.size)⟩
          case measure => simp [intOf]; omega
        · have Hx2 := Lib.hid hx
          rw [hx] at hcal
          have Hc := Lib.hid hcal
          clear hcal hx
          obtain ⟨A2, c2, rfl, -⟩ := p0'
          go_wp2_with (go_at_call 56; refine Hc.out.mono ?_; rintro e w1 ⟨rfl, hb1⟩)
          go_ret
          exact ⟨⟨k, rfl, by rw [List.any_eq_true.2 ⟨x, Hm.out, Hx2.out⟩]; simp⟩, hb.trans (hb1.mono hb.size)⟩
      · go_wp2
        go_ret
        refine ⟨⟨-1, rfl, ?_⟩, hb⟩
        have := Ht.out
        rw [List.take_of_length_le (by omega)] at this
        rw [this]
        rfl
  obtain ⟨A, cap, rfl, hA⟩ := hv
  have Hix := Lib.hid hix
  clear hix
  go_enter Tryz.func55, Tryz.ntmps55
  go_wp2_with (go_at_call 108; refine Hix.out.mono ?_; rintro e w1 ⟨⟨n, rfl, hn⟩, hb1⟩; have Hn := Lib.hid hn; clear hn)
  go_ret
  exact ⟨ret_bool Hn.out, hb1⟩

set_option maxHeartbeats 1000000 in
theorem containsT_any (v : Value) (l : List Ty) (w : World) (hv : SlT w v l) (hl : l.length ≤ 140737488355328) (hls : ∀ x ∈ l, x.params.length ≤ 140737488355328) :
    Calls Tryz.prog 55 #[v, .func (.func 58) #[] #[]] w fun e w' => e = .returned (.bool (l.any badT)) ∧ Below w.heap.size w w' := by
  have hix : Calls Tryz.prog 108 #[v, .func (.func 58) #[] #[]] w fun e w' => (∃ n : Int, e = .returned (.int .i64 n) ∧ decide (0 ≤ n) = l.any badT) ∧ Below w.heap.size w w' := by
    obtain ⟨A, cap, rfl, hA⟩ := hv
    go_enter Tryz.func108, Tryz.ntmps108
    go_wp2
    go_loopw [8] (fun i wr => ∃ k : Nat, k ≤ l.length ∧ i = .int .i64 k ∧ (l.take k).any badT = false ∧ Below w.heap.size w wr) (fun i _ => l.length - (intOf i).toNat)
    case atStart => exact ⟨0, Nat.zero_le _, rfl, rfl, Below.refl _ _⟩
    case round =>
      obtain ⟨k, hk, rfl, ht, hb⟩ := hrel
      have Ht := Lib.hid ht
      clear ht
      by_cases hlt : k < l.length
      · obtain ⟨b1, o1, rfl, hb1, hc1⟩ := hA (by omega)
        obtain ⟨pv, p0, p1, p2, p3⟩ := hc1 k _ (List.getElem?_eq_getElem hlt)
        have p1' := (hb.cell (p := ⟨b1, o1 + k * 3, none⟩) hb1).trans p1
        have p2' := (hb.cell (p := ⟨b1, o1 + k * 3 + 1, none⟩) hb1).trans p2
        have p3' := (hb.cell (p := ⟨b1, o1 + k * 3 + 2, none⟩) hb1).trans p3
        have p0' := p0.below hb
        clear p0 p1 p2 p3 hc1 hA
        have Hx := Lib.hid (show (l.take (k + 1)).any badT = badT l[k] by rw [List.take_succ_eq_append_getElem hlt, List.any_append, Ht.out]; simp)
        have Hm := Lib.hid (List.getElem_mem hlt)
        have hxl := hls _ (List.getElem_mem hlt)
        generalize l[k] = x at p0' p1' p2' p3' Hx Hm hxl
        have hcal : Calls Tryz.prog 58 #[tyV pv x] wr fun e w' => e = .returned (.bool (badT x)) ∧ Below wr.heap.size wr w' := badT_any x pv wr p0' hxl
        unfold tyV at hcal
        cases hx : badT x
        · rw [hx] at Hx hcal
          have Hc := Lib.hid hcal
          clear hcal hx
          obtain ⟨A2, c2, rfl, -⟩ := p0'
          go_wp2_with (go_at_call 58; refine Hc.out.mono ?_; rintro e w1 ⟨rfl, hb1⟩)
          go_roundw
          case rel => exact ⟨k + 1, by omega, by go_num, Hx.out, hb.trans (hb1.mono hb.size)⟩
          case measure => simp [intOf]; omega
        · have Hx2 := Lib.hid hx
          rw [hx] at hcal
          have Hc := Lib.hid hcal
          clear hcal hx
          obtain ⟨A2, c2, rfl, -⟩ := p0'
          go_wp2_with (go_at_call 58; refine Hc.out.mono ?_; rintro e w1 ⟨rfl, hb1⟩)
          go_ret
          exact ⟨⟨k, rfl, by rw [List.any_eq_true.2 ⟨x, Hm.out, Hx2.out⟩]; simp⟩, hb.trans (hb1.mono hb.size)⟩
      · go_wp2
        go_ret
        refine ⟨⟨-1, rfl, ?_⟩, hb⟩
        have := Ht.out
        rw [List.take_of_length_le (by omega)] at this
        rw [this]
        rfl
  obtain ⟨A, cap, rfl, hA⟩ := hv
  have Hix := Lib.hid hix
  clear hix
  go_enter Tryz.func55, Tryz.ntmps55
  go_wp2_with (go_at_call 108; refine Hix.out.mono ?_; rintro e w1 ⟨⟨n, rfl, hn⟩, hb1⟩; have Hn := Lib.hid hn; clear hn)
  go_ret
  exact ⟨ret_bool Hn.out, hb1⟩

end Go.Proofs.YtoncdnelacolaaaGreatDoor.Ar

namespace Go.Proofs.YtoncdnelacolaaaGreatDoor.Ar
open Go Go.Proofs Go.RowKit Lx

/-- An arena that lies in memory: its identifiers. -/
structure ArIn (W : World) (ids : Value) (a : Ar) : Prop where
  sl : SlT W ids a.ids
  len : a.ids.length ≤ 140737488355328
  lens : ∀ x ∈ a.ids, x.params.length ≤ 140737488355328
theorem ArIn.below {W W' : World} {ids : Value} {a : Ar} (h : ArIn W ids a) (hb : Below W.heap.size W W') : ArIn W' ids a := ⟨h.sl.below hb, h.len, h.lens⟩

theorem checkE_5a {a : Ar} (h : 8 < a.ids.length) : checkE a = 5 := by simp [checkE, h]
theorem checkE_5b {a : Ar} (h : a.ids.any wideT = true) : checkE a = 5 := by simp [checkE, h]
theorem checkE_4a {a : Ar} (h1 : ¬ 8 < a.ids.length) (h2 : a.ids.any wideT = false) (h : badB a.root = true) : checkE a = 4 := by simp [checkE, h1, h2, h]
theorem checkE_4b {a : Ar} (h1 : ¬ 8 < a.ids.length) (h2 : a.ids.any wideT = false) (h : a.ids.any badT = true) : checkE a = 4 := by simp [checkE, h1, h2, h]
theorem checkE_0 {a : Ar} (h1 : ¬ 8 < a.ids.length) (h2 : a.ids.any wideT = false) (h3 : badB a.root = false) (h4 : a.ids.any badT = false) : checkE a = 0 := by simp [checkE, h1, h2, h3, h4]

set_option maxHeartbeats 2000000 in
theorem check_any (ids : Value) (a : Ar) (w : World) (hin : ArIn w ids a) :
    Calls Tryz.prog 19 #[arV ids a] w fun e w' => e = .returned (.int .i64 (checkE a : Int)) ∧ Below w.heap.size w w' := by
  have hW : ∀ W, Below w.heap.size w W → Calls Tryz.prog 55 #[ids, .func (.func 56) #[] #[]] W fun e w' => e = .returned (.bool (a.ids.any wideT)) ∧ Below W.heap.size W w' := fun W hb => containsW_any ids a.ids W (hin.sl.below hb) hin.len hin.lens
  have hT : ∀ W, Below w.heap.size w W → Calls Tryz.prog 55 #[ids, .func (.func 58) #[] #[]] W fun e w' => e = .returned (.bool (a.ids.any badT)) ∧ Below W.heap.size W w' := fun W hb => containsT_any ids a.ids W (hin.sl.below hb) hin.len hin.lens
  have hR := fun W => badB_any a.root W
  have hlen := hin.len
  obtain ⟨A, cap, rfl, -⟩ := hin.sl
  clear hin
  have hba : Below w.heap.size w (w.alloc (.cells #[.slice A a.ids.length cap, .bool a.root.cell, .int .i64 a.root.n, .bool a.jumps] 26)) := (Below.refl _ _).alloc (Nat.le_refl _) _
  have HB0 := heap_alloc_new w (.cells #[.slice A a.ids.length cap, .bool a.root.cell, .int .i64 a.root.n, .bool a.jumps] 26)
  unfold bsV at hR
  unfold arV
  by_cases h1 : 8 < a.ids.length
  · have HE := Lib.hid (checkE_5a h1)
    clear hW hT hR
    have h1' : (8 : Int) < (a.ids.length : Int) := by omega
    go_enter Tryz.func19, Tryz.ntmps19
    go_wp2
    go_ret
    exact ⟨ret_int (by rw [HE.out]; rfl), hba⟩
  · have h1' : ¬ (8 : Int) < (a.ids.length : Int) := by omega
    cases h2 : a.ids.any wideT
    · rw [h2] at hW
      cases h3 : badB a.root
      · rw [h3] at hR
        cases h4 : a.ids.any badT
        · rw [h4] at hT
          have HE := Lib.hid (checkE_0 h1 h2 h3 h4)
          have HW := Lib.hid hW
          have HT := Lib.hid hT
          have HR := Lib.hid hR
          have HBB := Lib.hid HB0
          clear hW hT hR HB0 h1
          try clear h2
          try clear h3
          try clear h4
          go_enter Tryz.func19, Tryz.ntmps19
          go_wp2_with (first
            | (go_at_call 57; refine (HR.out _).mono ?_; rintro e w2 ⟨rfl, hb3⟩; have hb4 := hb2.trans (hb3.mono hb2.size); obtain ⟨hc3, hf3⟩ := old_cells hb3; have hz3 : w.heap.size < w2.heap.size := by have := hb3.size; omega)
            | (go_at_call 55; refine (HT.out _ hb4).mono ?_; rintro e w3 ⟨rfl, hb5⟩; have hb6 := hb4.trans (hb5.mono hb4.size))
            | (go_at_call 55; refine (HW.out _ hba).mono ?_; rintro e w1 ⟨rfl, hb1⟩; have hb2 := hba.trans (hb1.mono hba.size); obtain ⟨hc1, hf1⟩ := old_cells hb1; have hz2 : w.heap.size < w1.heap.size := by have := hb1.size; simp at this; omega))
          go_ret
          exact ⟨ret_int (by rw [HE.out]; rfl), by assumption⟩
        · rw [h4] at hT
          have HE := Lib.hid (checkE_4b h1 h2 h4)
          have HW := Lib.hid hW
          have HT := Lib.hid hT
          have HR := Lib.hid hR
          have HBB := Lib.hid HB0
          clear hW hT hR HB0 h1
          try clear h2
          try clear h3
          try clear h4
          go_enter Tryz.func19, Tryz.ntmps19
          go_wp2_with (first
            | (go_at_call 57; refine (HR.out _).mono ?_; rintro e w2 ⟨rfl, hb3⟩; have hb4 := hb2.trans (hb3.mono hb2.size); obtain ⟨hc3, hf3⟩ := old_cells hb3; have hz3 : w.heap.size < w2.heap.size := by have := hb3.size; omega)
            | (go_at_call 55; refine (HT.out _ hb4).mono ?_; rintro e w3 ⟨rfl, hb5⟩; have hb6 := hb4.trans (hb5.mono hb4.size))
            | (go_at_call 55; refine (HW.out _ hba).mono ?_; rintro e w1 ⟨rfl, hb1⟩; have hb2 := hba.trans (hb1.mono hba.size); obtain ⟨hc1, hf1⟩ := old_cells hb1; have hz2 : w.heap.size < w1.heap.size := by have := hb1.size; simp at this; omega))
          go_ret
          exact ⟨ret_int (by rw [HE.out]; rfl), by assumption⟩
      · rw [h3] at hR
        have HE := Lib.hid (checkE_4a h1 h2 h3)
        have HW := Lib.hid hW
        have HT := Lib.hid hT
        have HR := Lib.hid hR
        have HBB := Lib.hid HB0
        clear hW hT hR HB0 h1
        try clear h2
        try clear h3
        try clear h4
        go_enter Tryz.func19, Tryz.ntmps19
        go_wp2_with (first
          | (go_at_call 57; refine (HR.out _).mono ?_; rintro e w2 ⟨rfl, hb3⟩; have hb4 := hb2.trans (hb3.mono hb2.size); obtain ⟨hc3, hf3⟩ := old_cells hb3; have hz3 : w.heap.size < w2.heap.size := by have := hb3.size; omega)
          | (go_at_call 55; refine (HT.out _ hb4).mono ?_; rintro e w3 ⟨rfl, hb5⟩; have hb6 := hb4.trans (hb5.mono hb4.size))
          | (go_at_call 55; refine (HW.out _ hba).mono ?_; rintro e w1 ⟨rfl, hb1⟩; have hb2 := hba.trans (hb1.mono hba.size); obtain ⟨hc1, hf1⟩ := old_cells hb1; have hz2 : w.heap.size < w1.heap.size := by have := hb1.size; simp at this; omega))
        go_ret
        exact ⟨ret_int (by rw [HE.out]; rfl), by assumption⟩
    · rw [h2] at hW
      have HE := Lib.hid (checkE_5b h2)
      have HW := Lib.hid hW
      have HT := Lib.hid hT
      have HR := Lib.hid hR
      have HBB := Lib.hid HB0
      clear hW hT hR HB0 h1
      try clear h2
      try clear h3
      try clear h4
      go_enter Tryz.func19, Tryz.ntmps19
      go_wp2_with (first
        | (go_at_call 57; refine (HR.out _).mono ?_; rintro e w2 ⟨rfl, hb3⟩; have hb4 := hb2.trans (hb3.mono hb2.size); obtain ⟨hc3, hf3⟩ := old_cells hb3; have hz3 : w.heap.size < w2.heap.size := by have := hb3.size; omega)
        | (go_at_call 55; refine (HT.out _ hb4).mono ?_; rintro e w3 ⟨rfl, hb5⟩; have hb6 := hb4.trans (hb5.mono hb4.size))
        | (go_at_call 55; refine (HW.out _ hba).mono ?_; rintro e w1 ⟨rfl, hb1⟩; have hb2 := hba.trans (hb1.mono hba.size); obtain ⟨hc1, hf1⟩ := old_cells hb1; have hz2 : w.heap.size < w1.heap.size := by have := hb1.size; simp at this; omega))
      go_ret
      exact ⟨ret_int (by rw [HE.out]; rfl), by assumption⟩

set_option maxHeartbeats 2000000 in
/-- An arena that must be right. -/
theorem rightOf_any (ids : Value) (a : Ar) (w : World) (hin : ArIn w ids a) (e : Nat) (he : checkE a = e) :
    Calls Tryz.prog 59 #[arV ids a] w fun r w' => r = .returned (.tuple #[if e = 0 then arV ids a else .agg #[.slice none 0 0, .bool false, .int .i64 0, .bool false], .int .i64 (e : Int)]) ∧ Below w.heap.size w w' := by
  have hC : ∀ W, Below w.heap.size w W → Calls Tryz.prog 19 #[arV ids a] W fun r w' => r = .returned (.int .i64 (e : Int)) ∧ Below W.heap.size W w' := fun W hb => he ▸ check_any ids a W (hin.below hb)
  obtain ⟨A, cap, rfl, -⟩ := hin.sl
  clear hin he
  have hba : Below w.heap.size w ((w.alloc (.cells #[.slice A a.ids.length cap, .bool a.root.cell, .int .i64 a.root.n, .bool a.jumps] 26)).alloc (.cells #[.slice none 0 0, .bool false, .int .i64 0, .bool false] 80)) := ((Below.refl _ _).alloc (Nat.le_refl _) _).alloc (by simp) _
  unfold arV at hC ⊢
  by_cases h0 : e = 0
  · subst h0
    have HC := Lib.hid hC
    clear hC
    go_enter Tryz.func59, Tryz.ntmps59
    go_wp2_with (go_at_call 19; refine (HC.out _ hba).mono ?_; rintro r w1 ⟨rfl, hb1⟩; have hb2 := hba.trans (hb1.mono hba.size); obtain ⟨hc1, hf1⟩ := old_cells hb1; have hz2 : w.heap.size + 1 < w1.heap.size := by have := hb1.size; simp at this; omega)
    refine bodyPost_ret (v := .tuple #[.agg #[.slice A a.ids.length cap, .bool a.root.cell, .int .i64 a.root.n, .bool a.jumps], .int .i64 0]) (by simp [results, Tryz.results59, go_sem, hc1]) rfl ⟨rfl, ?_⟩
    exact (((hb2.setCell (by simp) _).setCell (by simp) _).setCell (by simp) _).setCell (by simp) _
  · have h0' : ((e : Int) != 0) = true := by simp; omega
    have H0 := Lib.hid h0
    have HC := Lib.hid hC
    clear hC h0
    go_enter Tryz.func59, Tryz.ntmps59
    go_wp2_with (go_at_call 19; refine (HC.out _ hba).mono ?_; rintro r w1 ⟨rfl, hb1⟩; have hb2 := hba.trans (hb1.mono hba.size); obtain ⟨hc1, hf1⟩ := old_cells hb1; have hz2 : w.heap.size + 1 < w1.heap.size := by have := hb1.size; simp at this; omega)
    refine bodyPost_ret (v := .tuple #[.agg #[.slice none 0 0, .bool false, .int .i64 0, .bool false], .int .i64 (e : Int)]) (by simp [results, Tryz.results59, go_sem, hc1]) rfl ⟨rfl, ?_⟩
    exact (((hb2.setCell (by simp) _).setCell (by simp) _).setCell (by simp) _).setCell (by simp) _

theorem rightOf_ok (ids : Value) (a : Ar) (w : World) (hin : ArIn w ids a) (he : checkE a = 0) :
    Calls Tryz.prog 59 #[arV ids a] w fun r w' => r = .returned (.tuple #[arV ids a, .int .i64 0]) ∧ Below w.heap.size w w' :=
  (rightOf_any ids a w hin 0 he).mono fun _ _ ⟨h1, h2⟩ => ⟨h1.trans (by rw [if_pos rfl]; rfl), h2⟩
theorem rightOf_bad (ids : Value) (a : Ar) (w : World) (hin : ArIn w ids a) (he : checkE a ≠ 0) :
    Calls Tryz.prog 59 #[arV ids a] w fun r w' => r = .returned (.tuple #[.agg #[.slice none 0 0, .bool false, .int .i64 0, .bool false], .int .i64 (checkE a : Int)]) ∧ Below w.heap.size w w' :=
  (rightOf_any ids a w hin _ rfl).mono fun _ _ ⟨h1, h2⟩ => ⟨h1.trans (by rw [if_neg he]), h2⟩

end Go.Proofs.YtoncdnelacolaaaGreatDoor.Ar
