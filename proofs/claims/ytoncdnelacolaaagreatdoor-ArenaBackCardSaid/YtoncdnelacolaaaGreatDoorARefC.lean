/- Found of the reference, and Place: the base type of a place, or the error. -/
import Derived.Test.YtoncdnelacolaaaGreatDoorARefB
import Derived.RegionTactic
import Derived.BigRegion
import Derived.Deep.Cut
namespace Go.Proofs.YtoncdnelacolaaaGreatDoor.Ar
open Go Go.Proofs Go.RowKit Lx Ps

/-- What Place and Found return. -/
def foR (a : Ar) (id arg : Int) : Value :=
  if checkE a ≠ 0 then .tuple #[.agg #[.bool false, .int .i64 0], .int .i64 (checkE a : Int)] else match plAt a id arg with
  | none => .tuple #[.agg #[.bool false, .int .i64 0], .int .i64 7]
  | some p => .tuple #[bsV p.base, .int .i64 0]
theorem foR_err {a : Ar} {id arg : Int} {e : Nat} (h : checkE a = e) (h0 : e ≠ 0) : foR a id arg = .tuple #[.agg #[.bool false, .int .i64 0], .int .i64 (e : Int)] := by
  unfold foR; rw [h, if_pos h0]
theorem foR_none {a : Ar} {id arg : Int} (h : checkE a = 0) (hp : plAt a id arg = none) : foR a id arg = .tuple #[.agg #[.bool false, .int .i64 0], .int .i64 7] := by
  unfold foR; rw [h, if_neg (by simp), hp]
theorem foR_some {a : Ar} {id arg : Int} {p : Pl} (h : checkE a = 0) (hp : plAt a id arg = some p) : foR a id arg = .tuple #[.agg #[.bool p.base.cell, .int .i64 p.base.n], .int .i64 0] := by
  unfold foR; rw [h, if_neg (by simp), hp]; rfl
theorem below2s {B b : Nat} {W V : World} {x y : Value} (h : Below B W V) (hb : B ≤ b) : Below B W ((V.setCell ⟨b, 0, none⟩ x).setCell ⟨b, 1, none⟩ y) :=
  (h.setCell (by exact hb) _).setCell (by exact hb) _

set_option maxRecDepth 100000 in
set_option maxHeartbeats 1000000 in
theorem refFound_any (ids : Value) (a : Ar) (id arg : Int) (w : World) (hin : ArIn w ids a) :
    Calls Tryz.prog 37 #[arV ids a, .int .i64 id, .int .i64 arg] w fun r w' => r = .returned (foR a id arg) ∧ Below w.heap.size w w' := by
  have hC : ∀ W, Below w.heap.size w W → Calls Tryz.prog 24 #[arV ids a] W fun r w' => r = .returned (.int .i64 (checkE a : Int)) ∧ Below W.heap.size W w' := fun W hb => refCheck_any ids a W (hin.below hb)
  have hP : ∀ W, Below w.heap.size w W → Calls Tryz.prog 89 #[arV ids a, .int .i64 id, .int .i64 arg] W fun r w' => r = .returned (plBs (plAt a id arg)) ∧ Below W.heap.size W w' := fun W hb => refPlace_any ids a id arg W (hin.below hb)
  obtain ⟨A, cap, rfl, -⟩ := hin.sl
  clear hin
  obtain ⟨k0, k1⟩ := blocks2 w (.cells #[.slice A a.ids.length cap, .bool a.root.cell, .int .i64 a.root.n, .bool a.jumps] 26) (.cells #[.bool false, .int .i64 0] 24)
  have hb0 : Below w.heap.size w ((w.alloc (.cells #[.slice A a.ids.length cap, .bool a.root.cell, .int .i64 a.root.n, .bool a.jumps] 26)).alloc (.cells #[.bool false, .int .i64 0] 24)) := below_two
  unfold arV at *
  go_enter Tryz.func37, Tryz.ntmps37
  go_upto_region 1 with (fail)
  generalize (w.alloc (.cells #[.slice A a.ids.length cap, .bool a.root.cell, .int .i64 a.root.n, .bool a.jumps] 26)).alloc (.cells #[.bool false, .int .i64 0] 24) = V at k0 k1 hb0 ⊢
  obtain ⟨⟨c0, c1, c2, c3⟩, -, hl0⟩ := four_c k0
  have HK0 := Lib.hid k0
  have HK1 := Lib.hid k1
  have hl1 := (Array.getElem?_eq_some_iff.1 k1).1
  clear k0 k1
  by_cases he : checkE a = 0
  · rw [he] at hC
    have HC := Lib.hid hC
    clear hC
    go_upto_region 4 with (go_at_call 24; refine (HC.out _ hb0).mono ?_; rintro r w1 ⟨rfl, hb1⟩)
    have hb2 := hb0.trans (hb1.mono hb0.size)
    obtain ⟨⟨r0, r1, r2, r3⟩, -, x1⟩ := four_c (heap_below hb1 hl0 HK0.out)
    have M1 := heap_below hb1 hl1 HK1.out
    have HM1 := Lib.hid M1
    have m1 := (Array.getElem?_eq_some_iff.1 M1).1
    have hPU := hP w1 hb2
    clear hb1 c0 c1 c2 c3 HC HK0 HK1 M1 hP hb0
    cases hp : plAt a id arg with
    | none =>
      have HF := Lib.hid (foR_none he hp)
      rw [hp] at hPU
      unfold plBs at hPU
      have HP := Lib.hid hPU
      clear hPU hp he
      go_upto_region 6 with (go_at_call 89; refine HP.out.mono ?_; rintro r w2 ⟨rfl, hb3⟩)
      have hb4 := hb2.trans (hb3.mono hb2.size)
      have N1 := (Below.heap_alloc w2 (.cells #[.bool false, .int .i64 0] 24) _ (Nat.lt_of_lt_of_le m1 hb3.size)).trans (heap_below hb3 m1 HM1.out)
      have hbX := hb4.alloc hb4.size (.cells #[.bool false, .int .i64 0] 24)
      clear r0 r1 r2 r3 HP HM1 hb3 hb4
      generalize w2.alloc (.cells #[.bool false, .int .i64 0] 24) = X at N1 hbX ⊢
      have q0 := cell_of_row _ _ 0 _ _ _ N1
      have q1 := cell_of_row _ _ 1 _ _ _ N1
      have f0 := frozen_of_row _ _ 0 _ _ N1
      have f1 := frozen_of_row _ _ 1 _ _ N1
      have x2 := (Array.getElem?_eq_some_iff.1 N1).1
      clear N1
      go_wp2
      refine bodyPost_ret (v := .tuple #[.agg #[.bool false, .int .i64 0], .int .i64 7]) (by simp [results, Tryz.results37, go_sem, q0, q1]) rfl ⟨by rw [HF.out], ?_⟩
      exact below2s hbX (by omega)
    | some p =>
      have HF := Lib.hid (foR_some he hp)
      rw [hp] at hPU
      unfold plBs bsV at hPU
      have HP := Lib.hid hPU
      clear hPU hp he
      go_upto_region 5 with (go_at_call 89; refine HP.out.mono ?_; rintro r w2 ⟨rfl, hb3⟩)
      have hb4 := hb2.trans (hb3.mono hb2.size)
      have N1 := (Below.heap_alloc w2 (.cells #[.bool p.base.cell, .int .i64 p.base.n] 24) _ (Nat.lt_of_lt_of_le m1 hb3.size)).trans (heap_below hb3 m1 HM1.out)
      have N2 := heap_alloc_new w2 (.cells #[.bool p.base.cell, .int .i64 p.base.n] 24)
      have hbX := hb4.alloc hb4.size (.cells #[.bool p.base.cell, .int .i64 p.base.n] 24)
      clear r0 r1 r2 r3 HP HM1 hb3 hb4
      generalize w2.alloc (.cells #[.bool p.base.cell, .int .i64 p.base.n] 24) = X at N1 N2 hbX ⊢
      have q0 := cell_of_row _ _ 0 _ _ _ N1
      have q1 := cell_of_row _ _ 1 _ _ _ N1
      have f0 := frozen_of_row _ _ 0 _ _ N1
      have f1 := frozen_of_row _ _ 1 _ _ N1
      have x2 := (Array.getElem?_eq_some_iff.1 N1).1
      have s0 := cell_of_row _ _ 0 _ _ _ N2
      have s1 := cell_of_row _ _ 1 _ _ _ N2
      clear N1 N2
      go_wp2
      refine bodyPost_ret (v := .tuple #[.agg #[.bool p.base.cell, .int .i64 p.base.n], .int .i64 0]) (by simp [results, Tryz.results37, go_sem, q0, q1]) rfl ⟨by rw [HF.out], ?_⟩
      exact below2s hbX (by omega)
  · have HF := Lib.hid (foR_err (id := id) (arg := arg) (rfl : checkE a = checkE a) he)
    generalize checkE a = e at *
    have hne : ((e : Int) != 0) = true := by simp; omega
    have HC := Lib.hid hC
    clear hC hP he
    go_upto_region 2 with (go_at_call 24; refine (HC.out _ hb0).mono ?_; rintro r w1 ⟨rfl, hb1⟩)
    have hb2 := hb0.trans (hb1.mono hb0.size)
    have N1 := heap_below hb1 hl1 HK1.out
    have q0 := cell_of_row _ _ 0 _ _ _ N1
    have q1 := cell_of_row _ _ 1 _ _ _ N1
    have f0 := frozen_of_row _ _ 0 _ _ N1
    have f1 := frozen_of_row _ _ 1 _ _ N1
    have x2 := (Array.getElem?_eq_some_iff.1 N1).1
    clear N1 HC HK0 HK1 c0 c1 c2 c3 hb1
    go_wp2
    refine bodyPost_ret (v := .tuple #[.agg #[.bool false, .int .i64 0], .int .i64 (e : Int)]) (by simp [results, Tryz.results37, go_sem, q0, q1]) rfl ⟨by rw [HF.out], ?_⟩
    exact below2s hb2 (by omega)

set_option maxRecDepth 100000 in
set_option maxHeartbeats 1000000 in
/-- The base type of a place. -/
theorem apPlace_any (ids : Value) (a : Ar) (id arg : Int) (w : World) (hin : ArIn w ids a) :
    Calls Tryz.prog 35 #[arV ids a, .int .i64 id, .int .i64 arg] w fun r w' => r = .returned (foR a id arg) ∧ Below w.heap.size w w' := by
  have hP : ∀ W, Below w.heap.size w W → Calls Tryz.prog 70 #[arV ids a, .int .i64 id, .int .i64 arg] W fun r w' => r = .returned (plR (plAt a id arg)) ∧ Below W.heap.size W w' := fun W hb => place_any ids a id arg W (hin.below hb)
  have hR0 : ∀ W, Below w.heap.size w W → checkE a = 0 → Calls Tryz.prog 59 #[arV ids a] W fun r w' => r = .returned (.tuple #[arV ids a, .int .i64 0]) ∧ Below W.heap.size W w' := fun W hb h => rightOf_ok ids a W (hin.below hb) h
  have hR1 : ∀ W, Below w.heap.size w W → checkE a ≠ 0 → Calls Tryz.prog 59 #[arV ids a] W fun r w' => r = .returned (.tuple #[.agg #[.slice none 0 0, .bool false, .int .i64 0, .bool false], .int .i64 (checkE a : Int)]) ∧ Below W.heap.size W w' := fun W hb h => rightOf_bad ids a W (hin.below hb) h
  obtain ⟨A, cap, rfl, -⟩ := hin.sl
  clear hin
  obtain ⟨k0, k1⟩ := blocks2 w (.cells #[.slice A a.ids.length cap, .bool a.root.cell, .int .i64 a.root.n, .bool a.jumps] 26) (.cells #[.bool false, .int .i64 0] 24)
  have hb0 : Below w.heap.size w ((w.alloc (.cells #[.slice A a.ids.length cap, .bool a.root.cell, .int .i64 a.root.n, .bool a.jumps] 26)).alloc (.cells #[.bool false, .int .i64 0] 24)) := below_two
  unfold arV at *
  go_enter Tryz.func35, Tryz.ntmps35
  go_upto_region 1 with (fail)
  generalize (w.alloc (.cells #[.slice A a.ids.length cap, .bool a.root.cell, .int .i64 a.root.n, .bool a.jumps] 26)).alloc (.cells #[.bool false, .int .i64 0] 24) = V at k0 k1 hb0 ⊢
  obtain ⟨⟨c0, c1, c2, c3⟩, -, hl0⟩ := four_c k0
  have HK1 := Lib.hid k1
  have hl1 := (Array.getElem?_eq_some_iff.1 k1).1
  clear k0 k1
  by_cases he : checkE a = 0
  · have HC := Lib.hid (fun W hb => hR0 W hb he)
    clear hR0 hR1
    go_upto_region 4 with (go_at_call 59; refine (HC.out _ hb0).mono ?_; rintro r w1 ⟨rfl, hb1⟩)
    have J2 := heap_alloc_new w1 (.cells #[.slice A a.ids.length cap, .bool a.root.cell, .int .i64 a.root.n, .bool a.jumps] 80)
    have J1 := (Below.heap_alloc w1 (.cells #[.slice A a.ids.length cap, .bool a.root.cell, .int .i64 a.root.n, .bool a.jumps] 80) _ (Nat.lt_of_lt_of_le hl1 hb1.size)).trans (heap_below hb1 hl1 HK1.out)
    have hb2 := hb0.trans (hb1.mono hb0.size)
    have hbU := hb2.alloc hb2.size (.cells #[.slice A a.ids.length cap, .bool a.root.cell, .int .i64 a.root.n, .bool a.jumps] 80)
    generalize w1.alloc (.cells #[.slice A a.ids.length cap, .bool a.root.cell, .int .i64 a.root.n, .bool a.jumps] 80) = U at J1 J2 hbU ⊢
    obtain ⟨⟨r0, r1, r2, r3⟩, -, x1⟩ := four_c J2
    have HM1 := Lib.hid J1
    have m1 := (Array.getElem?_eq_some_iff.1 J1).1
    have hPU := hP U hbU
    clear hb1 hb2 c0 c1 c2 c3 HC HK1 J1 J2 hP hb0
    cases hp : plAt a id arg with
    | none =>
      have HF := Lib.hid (foR_none he hp)
      rw [hp] at hPU
      unfold plR zPl at hPU
      have HP := Lib.hid hPU
      clear hPU hp he
      go_upto_region 6 with (go_at_call 70; refine HP.out.mono ?_; rintro r w2 ⟨rfl, hb3⟩)
      have hb4 := hbU.trans (hb3.mono hbU.size)
      have N1 := (Below.heap_alloc w2 (.cells #[.bool false, .int .i64 0, .int .i64 0, .int .i64 0, .bool false] 85) _ (Nat.lt_of_lt_of_le m1 hb3.size)).trans (heap_below hb3 m1 HM1.out)
      have hbX := hb4.alloc hb4.size (.cells #[.bool false, .int .i64 0, .int .i64 0, .int .i64 0, .bool false] 85)
      clear r0 r1 r2 r3 HP HM1 hb3 hb4
      generalize w2.alloc (.cells #[.bool false, .int .i64 0, .int .i64 0, .int .i64 0, .bool false] 85) = X at N1 hbX ⊢
      have q0 := cell_of_row _ _ 0 _ _ _ N1
      have q1 := cell_of_row _ _ 1 _ _ _ N1
      have f0 := frozen_of_row _ _ 0 _ _ N1
      have f1 := frozen_of_row _ _ 1 _ _ N1
      have x2 := (Array.getElem?_eq_some_iff.1 N1).1
      clear N1
      go_wp2
      refine bodyPost_ret (v := .tuple #[.agg #[.bool false, .int .i64 0], .int .i64 7]) (by simp [results, Tryz.results35, go_sem, q0, q1]) rfl ⟨by rw [HF.out], ?_⟩
      exact below2s hbX (by omega)
    | some p =>
      have HF := Lib.hid (foR_some he hp)
      rw [hp] at hPU
      unfold plR plV at hPU
      have HP := Lib.hid hPU
      clear hPU hp he
      go_upto_region 5 with (go_at_call 70; refine HP.out.mono ?_; rintro r w2 ⟨rfl, hb3⟩)
      have hb4 := hbU.trans (hb3.mono hbU.size)
      have N1 := (Below.heap_alloc w2 (.cells #[.bool p.base.cell, .int .i64 p.base.n, .int .i64 (p.id : Int), .int .i64 (p.arg : Int), .bool p.jumps] 85) _ (Nat.lt_of_lt_of_le m1 hb3.size)).trans (heap_below hb3 m1 HM1.out)
      have N2 := heap_alloc_new w2 (.cells #[.bool p.base.cell, .int .i64 p.base.n, .int .i64 (p.id : Int), .int .i64 (p.arg : Int), .bool p.jumps] 85)
      have hbX := hb4.alloc hb4.size (.cells #[.bool p.base.cell, .int .i64 p.base.n, .int .i64 (p.id : Int), .int .i64 (p.arg : Int), .bool p.jumps] 85)
      clear r0 r1 r2 r3 HP HM1 hb3 hb4
      generalize w2.alloc (.cells #[.bool p.base.cell, .int .i64 p.base.n, .int .i64 (p.id : Int), .int .i64 (p.arg : Int), .bool p.jumps] 85) = X at N1 N2 hbX ⊢
      have q0 := cell_of_row _ _ 0 _ _ _ N1
      have q1 := cell_of_row _ _ 1 _ _ _ N1
      have f0 := frozen_of_row _ _ 0 _ _ N1
      have f1 := frozen_of_row _ _ 1 _ _ N1
      have x2 := (Array.getElem?_eq_some_iff.1 N1).1
      have s0 := cell_of_row _ _ 0 _ _ _ N2
      have s1 := cell_of_row _ _ 1 _ _ _ N2
      clear N1 N2
      go_wp2
      refine bodyPost_ret (v := .tuple #[.agg #[.bool p.base.cell, .int .i64 p.base.n], .int .i64 0]) (by simp [results, Tryz.results35, go_sem, q0, q1]) rfl ⟨by rw [HF.out], ?_⟩
      exact below2s hbX (by omega)
  · have HF := Lib.hid (foR_err (id := id) (arg := arg) (rfl : checkE a = checkE a) he)
    have hC := fun W hb => hR1 W hb he
    clear hR0 hR1 hP
    generalize checkE a = e at *
    have hne : ((e : Int) != 0) = true := by simp; omega
    have HC := Lib.hid hC
    clear hC he
    go_upto_region 2 with (go_at_call 59; refine (HC.out _ hb0).mono ?_; rintro r w1 ⟨rfl, hb1⟩)
    have hb2 := hb0.trans (hb1.mono hb0.size)
    have N1 := (Below.heap_alloc w1 (.cells #[.slice none 0 0, .bool false, .int .i64 0, .bool false] 80) _ (Nat.lt_of_lt_of_le hl1 hb1.size)).trans (heap_below hb1 hl1 HK1.out)
    have hbX := hb2.alloc hb2.size (.cells #[.slice none 0 0, .bool false, .int .i64 0, .bool false] 80)
    clear HC HK1 c0 c1 c2 c3 hb1 hb2
    generalize w1.alloc (.cells #[.slice none 0 0, .bool false, .int .i64 0, .bool false] 80) = X at N1 hbX ⊢
    have q0 := cell_of_row _ _ 0 _ _ _ N1
    have q1 := cell_of_row _ _ 1 _ _ _ N1
    have f0 := frozen_of_row _ _ 0 _ _ N1
    have f1 := frozen_of_row _ _ 1 _ _ N1
    have x2 := (Array.getElem?_eq_some_iff.1 N1).1
    clear N1
    go_wp2
    refine bodyPost_ret (v := .tuple #[.agg #[.bool false, .int .i64 0], .int .i64 (e : Int)]) (by simp [results, Tryz.results35, go_sem, q0, q1]) rfl ⟨by rw [HF.out], ?_⟩
    exact below2s hbX (by omega)

end Go.Proofs.YtoncdnelacolaaaGreatDoor.Ar
