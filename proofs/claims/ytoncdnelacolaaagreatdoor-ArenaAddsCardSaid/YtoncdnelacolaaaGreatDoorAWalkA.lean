/- The error of an arena, as package arena says it. -/
import Derived.Test.YtoncdnelacolaaaGreatDoorProg
import Derived.Test.YtoncdnelacolaaaGreatDoorAHead
namespace Go.Proofs.YtoncdnelacolaaaGreatDoor.Ar
open Go Go.Proofs Go.RowKit Lx

set_option maxHeartbeats 400000 in
theorem badB_any (b : Bs) (w : World) :
    Calls Tryz.prog 57 #[bsV b] w fun e w' => e = .returned (.bool (badB b)) ∧ Below w.heap.size w w' := by
  unfold bsV
  have hb : Below w.heap.size w (w.alloc (.cells #[.bool b.cell, .int .i64 b.n] 24)) := (Below.refl _ _).alloc (Nat.le_refl _) _
  by_cases h : b.n < 1
  · go_enter Tryz.func57, Tryz.ntmps57
    go_wp2
    go_ret
    exact ⟨ret_bool (by simp [badB, h]), hb⟩
  · go_enter Tryz.func57, Tryz.ntmps57
    go_wp2
    go_ret
    exact ⟨ret_bool (by rw [Bool.eq_iff_iff]; simp [badB]; omega), hb⟩

set_option maxHeartbeats 400000 in
theorem wideT_any (t : Ty) (pv : Value) (w : World) (hp : SlB w pv t.params) :
    Calls Tryz.prog 56 #[tyV pv t] w fun e w' => e = .returned (.bool (wideT t)) ∧ Below w.heap.size w w' := by
  obtain ⟨A, cap, rfl, -⟩ := hp
  unfold tyV
  have hb : Below w.heap.size w (w.alloc (.cells #[.slice A t.params.length cap, .bool t.result.cell, .int .i64 t.result.n] 64)) := (Below.refl _ _).alloc (Nat.le_refl _) _
  go_enter Tryz.func56, Tryz.ntmps56
  go_wp2
  go_ret
  exact ⟨ret_bool (by rw [Bool.eq_iff_iff]; simp [wideT]; omega), hb⟩

set_option maxHeartbeats 800000 in
theorem containsB_any (v : Value) (l : List Bs) (w : World) (hv : SlB w v l) (hl : l.length ≤ 140737488355328) :
    Calls Tryz.prog 109 #[v, .func (.func 57) #[] #[]] w fun e w' => e = .returned (.bool (l.any badB)) ∧ Below w.heap.size w w' := by
  have hix : Calls Tryz.prog 137 #[v, .func (.func 57) #[] #[]] w fun e w' => (∃ n : Int, e = .returned (.int .i64 n) ∧ decide (0 ≤ n) = l.any badB) ∧ Below w.heap.size w w' := by
    obtain ⟨A, cap, rfl, hA⟩ := hv
    go_enter Tryz.func137, Tryz.ntmps137
    go_wp2
    go_loopw [8] (fun i wr => ∃ k : Nat, k ≤ l.length ∧ i = .int .i64 k ∧ (l.take k).any badB = false ∧ Below w.heap.size w wr) (fun i _ => l.length - (intOf i).toNat)
    case atStart => exact ⟨0, Nat.zero_le _, rfl, rfl, Below.refl _ _⟩
    case round =>
      obtain ⟨k, hk, rfl, ht, hb⟩ := hrel
      have Ht := Lib.hid ht
      clear ht
      by_cases hlt : k < l.length
      · obtain ⟨b1, o1, rfl, hb1, hc1⟩ := hA (by omega)
        obtain ⟨p1, p2⟩ := hc1 k _ (List.getElem?_eq_getElem hlt)
        have p1' := (hb.cell (p := ⟨b1, o1 + k * 2, none⟩) hb1).trans p1
        have p2' := (hb.cell (p := ⟨b1, o1 + k * 2 + 1, none⟩) hb1).trans p2
        clear p1 p2 hc1 hA
        have Hx := Lib.hid (show (l.take (k + 1)).any badB = badB l[k] by rw [List.take_succ_eq_append_getElem hlt, List.any_append, Ht.out]; simp)
        have Hm := Lib.hid (List.getElem_mem hlt)
        generalize l[k] = x at p1' p2' Hx Hm
        cases hx : badB x
        · rw [hx] at Hx
          have hcal := fun W => badB_any x W
          unfold bsV at hcal
          rw [hx] at hcal
          have Hc := Lib.hid hcal
          clear hcal hx
          go_wp2_with (go_at_call 57; refine (Hc.out _).mono ?_; rintro e w1 ⟨rfl, hb1⟩)
          go_roundw
          case rel => exact ⟨k + 1, by omega, by go_num, Hx.out, hb.trans (hb1.mono hb.size)⟩
          case measure => simp [intOf]; omega
        · have Hx2 := Lib.hid hx
          have hcal := fun W => badB_any x W
          unfold bsV at hcal
          rw [hx] at hcal
          have Hc := Lib.hid hcal
          clear hcal hx
          go_wp2_with (go_at_call 57; refine (Hc.out _).mono ?_; rintro e w1 ⟨rfl, hb1⟩)
          go_ret
          exact ⟨⟨k, rfl, by rw [List.any_eq_true.2 ⟨x, Hm.out, Hx2.out⟩]; simp⟩, hb.trans (hb1.mono hb.size)⟩
      · go_wp2
        go_ret
        refine ⟨⟨-1, rfl, ?_⟩, hb⟩
        have := Ht.out
        rw [List.take_of_length_le (by omega)] at this
        rw [this]
        rfl
  obtain ⟨A, cap, rfl, hA⟩ := hv
  have Hix := Lib.hid hix
  clear hix
  go_enter Tryz.func109, Tryz.ntmps109
  go_wp2_with (go_at_call 137; refine Hix.out.mono ?_; rintro e w1 ⟨⟨n, rfl, hn⟩, hb1⟩; have Hn := Lib.hid hn; clear hn)
  go_ret
  exact ⟨ret_bool Hn.out, hb1⟩

end Go.Proofs.YtoncdnelacolaaaGreatDoor.Ar
