/- Inner: the arena of what stands for an identifier. -/
import Derived.Test.YtoncdnelacolaaaGreatDoorALists
import Derived.Test.YtoncdnelacolaaaGreatDoorAWalkG
namespace Go.Proofs.YtoncdnelacolaaaGreatDoor.Ar
open Go Go.Proofs Go.RowKit Lx Ps

set_option maxRecDepth 100000 in
set_option maxHeartbeats 1000000 in
theorem inner1_any (b : Bs) (w : World) :
    Calls Tryz.prog 88 #[bsV b] w fun e w' => e = .returned (.agg #[.slice none 0 0, .bool b.cell, .int .i64 b.n]) ∧ Below w.heap.size w w' := by
  unfold bsV
  go_enter Tryz.func88, Tryz.ntmps88
  go_wp2
  refine bodyPost_ret (v := .agg #[.slice none 0 0, .bool b.cell, .int .i64 b.n]) (by simp [results, Tryz.results88, go_sem]) rfl ⟨rfl, ?_⟩
  exact ((Below.refl _ _).alloc (Nat.le_refl _) _).alloc (by simp) _

set_option maxRecDepth 100000 in
set_option maxHeartbeats 1000000 in
theorem inner_bad (ids : Value) (a : Ar) (id : Int) (w : World) (hin : ArIn w ids a) (h0 : checkE a ≠ 0) :
    Calls Tryz.prog 36 #[arV ids a, .int .i64 id] w fun e w' => e = .returned (.tuple #[zAr, .int .i64 (checkE a : Int)]) ∧ Below w.heap.size w w' := by
  have hR : ∀ W, Below w.heap.size w W → Calls Tryz.prog 59 #[arV ids a] W fun r w' => r = .returned (.tuple #[.agg #[.slice none 0 0, .bool false, .int .i64 0, .bool false], .int .i64 (checkE a : Int)]) ∧ Below W.heap.size W w' := fun W hb => rightOf_bad ids a W (hin.below hb) h0
  have hne : ((checkE a : Int) != 0) = true := by simp; omega
  obtain ⟨A, cap, rfl, -⟩ := hin.sl
  obtain ⟨k0, k1⟩ := blocks2 w (.cells #[.slice A a.ids.length cap, .bool a.root.cell, .int .i64 a.root.n, .bool a.jumps] 26) (.cells #[.slice none 0 0, .bool false, .int .i64 0, .bool false] 26)
  have hb0 : Below w.heap.size w ((w.alloc (.cells #[.slice A a.ids.length cap, .bool a.root.cell, .int .i64 a.root.n, .bool a.jumps] 26)).alloc (.cells #[.slice none 0 0, .bool false, .int .i64 0, .bool false] 26)) := below_two
  have HR := Lib.hid hR
  clear hR hin h0
  generalize checkE a = e at *
  unfold arV at *
  go_enter Tryz.func36, Tryz.ntmps36
  go_upto_region 1 with (fail)
  generalize (w.alloc (.cells #[.slice A a.ids.length cap, .bool a.root.cell, .int .i64 a.root.n, .bool a.jumps] 26)).alloc (.cells #[.slice none 0 0, .bool false, .int .i64 0, .bool false] 26) = V at k0 k1 hb0 ⊢
  obtain ⟨⟨c0, c1, c2, c3⟩, -, hl0⟩ := four_c k0
  have HK1 := Lib.hid k1
  have hl1 := (Array.getElem?_eq_some_iff.1 k1).1
  clear k0 k1
  go_upto_region 3 with (go_at_call 59; refine (HR.out _ hb0).mono ?_; rintro r w1 ⟨rfl, hb1⟩)
  have J1 := (Below.heap_alloc w1 (.cells #[.slice none 0 0, .bool false, .int .i64 0, .bool false] 80) _ (Nat.lt_of_lt_of_le hl1 hb1.size)).trans (heap_below hb1 hl1 HK1.out)
  have hb2 := hb0.trans (hb1.mono hb0.size)
  have hbU := hb2.alloc hb2.size (.cells #[.slice none 0 0, .bool false, .int .i64 0, .bool false] 80)
  generalize w1.alloc (.cells #[.slice none 0 0, .bool false, .int .i64 0, .bool false] 80) = U at J1 hbU ⊢
  obtain ⟨⟨q0, q1, q2, q3⟩, ⟨f0, f1, f2, f3⟩, x2⟩ := four_c J1
  clear J1 HK1 hb1 hb2 c0 c1 c2 c3 HR
  go_wp2
  refine bodyPost_ret (v := .tuple #[.agg #[.slice none 0 0, .bool false, .int .i64 0, .bool false], .int .i64 (e : Int)]) (by simp [results, Tryz.results36, go_sem, q0, q1, q2, q3]) rfl ⟨rfl, ?_⟩
  exact below4s hbU (by omega)

set_option maxRecDepth 100000 in
set_option maxHeartbeats 1000000 in
theorem inner_none (ids : Value) (a : Ar) (id : Int) (w : World) (hin : ArIn w ids a) (h0 : checkE a = 0) (h1 : ∀ p, plAt a id 0 = some p → isId p = false) :
    Calls Tryz.prog 36 #[arV ids a, .int .i64 id] w fun e w' => e = .returned (.tuple #[zAr, .int .i64 7]) ∧ Below w.heap.size w w' := by
  have hR : ∀ W, Below w.heap.size w W → Calls Tryz.prog 59 #[arV ids a] W fun r w' => r = .returned (.tuple #[arV ids a, .int .i64 0]) ∧ Below W.heap.size W w' := fun W hb => rightOf_ok ids a W (hin.below hb) h0
  have hP : ∀ W, Below w.heap.size w W → Calls Tryz.prog 70 #[arV ids a, .int .i64 id, .int .i64 0] W fun r w' => r = .returned (plR (plAt a id 0)) ∧ Below W.heap.size W w' := fun W hb => place_any ids a id 0 W (hin.below hb)
  obtain ⟨A, cap, rfl, -⟩ := hin.sl
  obtain ⟨k0, k1⟩ := blocks2 w (.cells #[.slice A a.ids.length cap, .bool a.root.cell, .int .i64 a.root.n, .bool a.jumps] 26) (.cells #[.slice none 0 0, .bool false, .int .i64 0, .bool false] 26)
  have hb0 : Below w.heap.size w ((w.alloc (.cells #[.slice A a.ids.length cap, .bool a.root.cell, .int .i64 a.root.n, .bool a.jumps] 26)).alloc (.cells #[.slice none 0 0, .bool false, .int .i64 0, .bool false] 26)) := below_two
  have HR := Lib.hid hR
  clear hR hin h0
  unfold arV at *
  go_enter Tryz.func36, Tryz.ntmps36
  go_upto_region 1 with (fail)
  generalize (w.alloc (.cells #[.slice A a.ids.length cap, .bool a.root.cell, .int .i64 a.root.n, .bool a.jumps] 26)).alloc (.cells #[.slice none 0 0, .bool false, .int .i64 0, .bool false] 26) = V at k0 k1 hb0 ⊢
  obtain ⟨⟨c0, c1, c2, c3⟩, -, hl0⟩ := four_c k0
  have HK1 := Lib.hid k1
  have hl1 := (Array.getElem?_eq_some_iff.1 k1).1
  clear k0 k1
  go_upto_region 4 with (go_at_call 59; refine (HR.out _ hb0).mono ?_; rintro r w1 ⟨rfl, hb1⟩)
  have J2 := heap_alloc_new w1 (.cells #[.slice A a.ids.length cap, .bool a.root.cell, .int .i64 a.root.n, .bool a.jumps] 80)
  have J1 := (Below.heap_alloc w1 (.cells #[.slice A a.ids.length cap, .bool a.root.cell, .int .i64 a.root.n, .bool a.jumps] 80) _ (Nat.lt_of_lt_of_le hl1 hb1.size)).trans (heap_below hb1 hl1 HK1.out)
  have hb2 := hb0.trans (hb1.mono hb0.size)
  have hbU := hb2.alloc hb2.size (.cells #[.slice A a.ids.length cap, .bool a.root.cell, .int .i64 a.root.n, .bool a.jumps] 80)
  generalize w1.alloc (.cells #[.slice A a.ids.length cap, .bool a.root.cell, .int .i64 a.root.n, .bool a.jumps] 80) = U at J1 J2 hbU ⊢
  obtain ⟨⟨r0, r1, r2, r3⟩, -, x1⟩ := four_c J2
  have HJ1 := Lib.hid J1
  have hlU := (Array.getElem?_eq_some_iff.1 J1).1
  have hPU := hP U hbU
  clear HK1 hb1 hb2 c0 c1 c2 c3 HR J1 J2 hP
  cases hp : plAt a id 0 with
  | none =>
    rw [hp] at hPU
    unfold plR zPl at hPU
    have HP := Lib.hid hPU
    clear hPU hp h1
    go_upto_region 6 with (go_at_call 70; refine HP.out.mono ?_; rintro r w2 ⟨rfl, hb3⟩)
    have M1 := (Below.heap_alloc w2 (.cells #[.bool false, .int .i64 0, .int .i64 0, .int .i64 0, .bool false] 85) _ (Nat.lt_of_lt_of_le hlU hb3.size)).trans (heap_below hb3 hlU HJ1.out)
    have hb4 := hbU.trans (hb3.mono hbU.size)
    have hbX := hb4.alloc hb4.size (.cells #[.bool false, .int .i64 0, .int .i64 0, .int .i64 0, .bool false] 85)
    clear r0 r1 r2 r3 HP
    generalize w2.alloc (.cells #[.bool false, .int .i64 0, .int .i64 0, .int .i64 0, .bool false] 85) = X at M1 hbX ⊢
    obtain ⟨⟨q0, q1, q2, q3⟩, ⟨f0, f1, f2, f3⟩, x2⟩ := four_c M1
    clear M1 HJ1
    go_wp2
    refine bodyPost_ret (v := .tuple #[.agg #[.slice none 0 0, .bool false, .int .i64 0, .bool false], .int .i64 7]) (by simp [results, Tryz.results36, go_sem, q0, q1, q2, q3]) rfl ⟨rfl, ?_⟩
    exact below4s hbX (by omega)
  | some p =>
    have hi := h1 p hp
    rw [hp] at hPU
    unfold plR plV at hPU
    have HP := Lib.hid hPU
    have hI := fun W => isId_any p W
    rw [hi] at hI
    have HI := Lib.hid hI
    clear hPU hp h1 hI hi
    unfold plV at HI
    go_upto_region 6 with (first | (go_at_call 70; refine HP.out.mono ?_; rintro r w2 ⟨rfl, hb3⟩) | (go_at_call 73; refine (HI.out _).mono ?_; rintro r w3 ⟨rfl, hb4⟩))
    have M0 := (Below.heap_alloc w2 (.cells #[.bool p.base.cell, .int .i64 p.base.n, .int .i64 (p.id : Int), .int .i64 (p.arg : Int), .bool p.jumps] 85) _ (Nat.lt_of_lt_of_le hlU hb3.size)).trans (heap_below hb3 hlU HJ1.out)
    have M1 := heap_below hb4 (Array.getElem?_eq_some_iff.1 M0).1 M0
    have hb5 := hbU.trans (hb3.mono hbU.size)
    have hb6 := hb5.alloc hb5.size (.cells #[.bool p.base.cell, .int .i64 p.base.n, .int .i64 (p.id : Int), .int .i64 (p.arg : Int), .bool p.jumps] 85)
    have hbX := hb6.trans (hb4.mono hb6.size)
    clear r0 r1 r2 r3 HP HI M0
    obtain ⟨⟨q0, q1, q2, q3⟩, ⟨f0, f1, f2, f3⟩, x2⟩ := four_c M1
    clear M1 HJ1
    go_wp2
    refine bodyPost_ret (v := .tuple #[.agg #[.slice none 0 0, .bool false, .int .i64 0, .bool false], .int .i64 7]) (by simp [results, Tryz.results36, go_sem, q0, q1, q2, q3]) rfl ⟨rfl, ?_⟩
    exact below4s hbX (by omega)

set_option maxRecDepth 100000 in
set_option maxHeartbeats 1000000 in
theorem inner_ok (ids : Value) (a : Ar) (k : Nat) (t : Ty) (w : World) (hin : ArIn w ids a) (h0 : checkE a = 0) (ht : a.ids[k]? = some t) (hpl : t.params.length ≤ 1000) (hk : k < 1000) :
    Calls Tryz.prog 36 #[arV ids a, .int .i64 ((k : Int) + 1)] w fun e w' => ∃ v, e = .returned (.tuple #[.agg #[v, .bool t.result.cell, .int .i64 t.result.n, .bool (a.jumps || decide (0 < t.params.length))], .int .i64 0]) ∧
      w'.ownsRow w.heap.size 64 3 v t.params.length (t.params.flatMap tyCells) ∧ Below w.heap.size w w' := by
  have hR : ∀ W, Below w.heap.size w W → Calls Tryz.prog 59 #[arV ids a] W fun r w' => r = .returned (.tuple #[arV ids a, .int .i64 0]) ∧ Below W.heap.size W w' := fun W hb => rightOf_ok ids a W (hin.below hb) h0
  have hp : plAt a ((k : Int) + 1) 0 = some ⟨t.result, k + 1, 0, a.jumps || decide (0 < t.params.length)⟩ := by
    have := plAt_id (a := a) (id := k + 1) (t := t) (by omega) (by simpa using ht)
    rw [← this]; congr 1
  have hi : isId (⟨t.result, k + 1, 0, a.jumps || decide (0 < t.params.length)⟩ : Pl) = true := by simp [isId]
  have hP : ∀ W, Below w.heap.size w W → Calls Tryz.prog 70 #[arV ids a, .int .i64 ((k : Int) + 1), .int .i64 0] W fun r w' => r = .returned (plR (plAt a ((k : Int) + 1) 0)) ∧ Below W.heap.size W w' := fun W hb => place_any ids a _ 0 W (hin.below hb)
  obtain ⟨A, cap, rfl, hA⟩ := hin.sl
  have hkl := (List.getElem?_eq_some_iff.1 ht).1
  obtain ⟨b1, o1, rfl, hb1, hc1⟩ := hA (by omega)
  obtain ⟨pv, p0, p1, -, -⟩ := hc1 k t ht
  have hlen := hin.len
  clear hc1 hA
  rw [hp] at hP
  have hbase : (⟨t.result, k + 1, 0, a.jumps || decide (0 < t.params.length)⟩ : Pl).base = t.result := rfl
  have hjmp : (⟨t.result, k + 1, 0, a.jumps || decide (0 < t.params.length)⟩ : Pl).jumps = (a.jumps || decide (0 < t.params.length)) := rfl
  clear hp
  generalize (⟨t.result, k + 1, 0, a.jumps || decide (0 < t.params.length)⟩ : Pl) = p at *
  have hI := fun W => isId_any p W
  rw [hi] at hI
  rw [← hbase, ← hjmp]
  have hL : ∀ W, Below w.heap.size w W → Calls Tryz.prog 87 #[pv, .func (.func 88) #[] #[]] W fun e w' => ∃ u, e = .returned u ∧ w'.ownsRow W.heap.size 64 3 u t.params.length (t.params.flatMap tyCells) ∧ Below W.heap.size W w' := fun W hb => listBT pv t.params W (p0.below hb) (by omega) (fun x V _ _ => inner1_any x V)
  obtain ⟨A2, c2, rfl, -⟩ := p0
  obtain ⟨k0, k1⟩ := blocks2 w (.cells #[.slice (some ⟨b1, o1, none⟩) a.ids.length cap, .bool a.root.cell, .int .i64 a.root.n, .bool a.jumps] 26) (.cells #[.slice none 0 0, .bool false, .int .i64 0, .bool false] 26)
  have hbz : Below w.heap.size w ((w.alloc (.cells #[.slice (some ⟨b1, o1, none⟩) a.ids.length cap, .bool a.root.cell, .int .i64 a.root.n, .bool a.jumps] 26)).alloc (.cells #[.slice none 0 0, .bool false, .int .i64 0, .bool false] 26)) := below_two
  have HR := Lib.hid hR
  have HP1 := Lib.hid hP
  have HI := Lib.hid hI
  have HL := Lib.hid hL
  have HP0 := Lib.hid p1
  have Hb1 := Lib.hid hb1
  clear hR hin h0 hi hP hI hL hbase hjmp p1 hb1
  unfold plR plV at HP1
  unfold plV at HI
  unfold arV at *
  go_enter Tryz.func36, Tryz.ntmps36
  go_upto_region 1 with (fail)
  generalize (w.alloc (.cells #[.slice (some ⟨b1, o1, none⟩) a.ids.length cap, .bool a.root.cell, .int .i64 a.root.n, .bool a.jumps] 26)).alloc (.cells #[.slice none 0 0, .bool false, .int .i64 0, .bool false] 26) = V at k0 k1 hbz ⊢
  obtain ⟨⟨c0, c1, c2', c3⟩, -, hl0⟩ := four_c k0
  have HK1 := Lib.hid k1
  have hl1 := (Array.getElem?_eq_some_iff.1 k1).1
  clear k0 k1
  go_upto_region 4 with (go_at_call 59; refine (HR.out _ hbz).mono ?_; rintro r w1 ⟨rfl, hb1⟩)
  have J2 := heap_alloc_new w1 (.cells #[.slice (some ⟨b1, o1, none⟩) a.ids.length cap, .bool a.root.cell, .int .i64 a.root.n, .bool a.jumps] 80)
  have J1 := (Below.heap_alloc w1 (.cells #[.slice (some ⟨b1, o1, none⟩) a.ids.length cap, .bool a.root.cell, .int .i64 a.root.n, .bool a.jumps] 80) _ (Nat.lt_of_lt_of_le hl1 hb1.size)).trans (heap_below hb1 hl1 HK1.out)
  have hb2 := hbz.trans (hb1.mono hbz.size)
  have hbU := hb2.alloc hb2.size (.cells #[.slice (some ⟨b1, o1, none⟩) a.ids.length cap, .bool a.root.cell, .int .i64 a.root.n, .bool a.jumps] 80)
  generalize w1.alloc (.cells #[.slice (some ⟨b1, o1, none⟩) a.ids.length cap, .bool a.root.cell, .int .i64 a.root.n, .bool a.jumps] 80) = U at J1 J2 hbU ⊢
  obtain ⟨⟨r0, r1, r2, r3⟩, -, x1⟩ := four_c J2
  have HJ1 := Lib.hid J1
  have HJ2 := Lib.hid J2
  have hlU := (Array.getElem?_eq_some_iff.1 J1).1
  have hPU := HP1.out U hbU
  have HP := Lib.hid hPU
  clear HK1 hb1 hb2 c0 c1 c2' c3 HR J1 J2 HP1 hPU
  go_upto_region 5 with (go_at_call 70; refine HP.out.mono ?_; rintro r w2 ⟨rfl, hb3⟩)
  have M5 := heap_alloc_new w2 (.cells #[.bool p.base.cell, .int .i64 p.base.n, .int .i64 (p.id : Int), .int .i64 (p.arg : Int), .bool p.jumps] 85)
  have M1 := (Below.heap_alloc w2 (.cells #[.bool p.base.cell, .int .i64 p.base.n, .int .i64 (p.id : Int), .int .i64 (p.arg : Int), .bool p.jumps] 85) _ (Nat.lt_of_lt_of_le hlU hb3.size)).trans (heap_below hb3 hlU HJ1.out)
  have M2 := (Below.heap_alloc w2 (.cells #[.bool p.base.cell, .int .i64 p.base.n, .int .i64 (p.id : Int), .int .i64 (p.arg : Int), .bool p.jumps] 85) _ (Nat.lt_of_lt_of_le x1 hb3.size)).trans (heap_below hb3 x1 HJ2.out)
  have hb5 := hbU.trans (hb3.mono hbU.size)
  have hbX := hb5.alloc hb5.size (.cells #[.bool p.base.cell, .int .i64 p.base.n, .int .i64 (p.id : Int), .int .i64 (p.arg : Int), .bool p.jumps] 85)
  clear r0 r1 r2 r3 HP HJ1 HJ2 hb3 hb5
  generalize w2.alloc (.cells #[.bool p.base.cell, .int .i64 p.base.n, .int .i64 (p.id : Int), .int .i64 (p.arg : Int), .bool p.jumps] 85) = X at M1 M2 M5 hbX ⊢
  generalize w1.heap.size = B1 at *
  generalize w2.heap.size = B2 at *
  obtain ⟨⟨s0, s1, s2, s3, s4⟩, -, x2⟩ := five_c M5
  have HM1 := Lib.hid M1
  have HM2 := Lib.hid M2
  have HM5 := Lib.hid M5
  have y1 := (Array.getElem?_eq_some_iff.1 M1).1
  have y2 := (Array.getElem?_eq_some_iff.1 M2).1
  clear M1 M2 M5
  go_upto_region 7 with (go_at_call 73; refine (HI.out X).mono ?_; rintro r w3 ⟨rfl, hb4⟩)
  have hb6 := hbX.trans (hb4.mono hbX.size)
  obtain ⟨⟨r0, r1, r2, r3⟩, -, z1⟩ := four_c (heap_below hb4 y2 HM2.out)
  have pc := (hb6.cell (p := ⟨b1, o1 + k * 3, none⟩) Hb1.out).trans HP0.out
  have e1 : IntKind.i64.wrap (((k : Int) + 1) - 1) = (k : Int) := by rw [IntWalk.i64_in _ (by omega)]; omega
  have hl3 := HL.out w3 hb6
  have HL3 := Lib.hid hl3
  have Z1 := Lib.hid (heap_below hb4 y1 HM1.out)
  have Z5 := Lib.hid (heap_below hb4 x2 HM5.out)
  clear hl3 HL s0 s1 s2 s3 s4
  go_upto_region 8 with (go_at_call 87; refine HL3.out.mono ?_; rintro e w4 ⟨u, rfl, hown, hb7⟩; obtain ⟨Ao, co, rfl⟩ := own_slice hown)
  obtain ⟨⟨t0, t1, t2, t3, t4⟩, -, z5⟩ := five_c (heap_below hb7 (Array.getElem?_eq_some_iff.1 Z5.out).1 Z5.out)
  have hlw := (Array.getElem?_eq_some_iff.1 Z1.out).1
  obtain ⟨⟨q0, q1, q2, q3⟩, ⟨f0, f1, f2, f3⟩, x9⟩ := four_c (heap_below hb7 hlw Z1.out)
  have hbW := hb6.trans (hb7.mono hb6.size)
  clear r0 r1 r2 r3 pc HL3 hb7 hb6 hb4 Z1 Z5 HM1 HM2 HM5 HI
  go_wp2
  refine bodyPost_ret (v := .tuple #[.agg #[.slice Ao t.params.length co, .bool p.base.cell, .int .i64 p.base.n, .bool p.jumps], .int .i64 0]) (by simp [results, Tryz.results36, go_sem, q0, q1, q2, q3]) rfl ⟨_, rfl, ?_, ?_⟩
  · exact World.ownsRow.mono (ownsRow_setCell_below (ownsRow_setCell_below (ownsRow_setCell_below (ownsRow_setCell_below hown hlw _) hlw _) hlw _) hlw _) (by omega)
  · exact below4s hbW (by omega)

theorem SlT.of_own {W : World} {base : Nat} {v : Value} {l : List Bs} (h : W.ownsRow base 64 3 v l.length (l.flatMap tyCells)) : SlT W v (l.map fun b => ⟨[], b⟩) := by
  have hown := h
  rcases h.2 with ⟨rfl, h0⟩ | ⟨g, cap, cur, rfl, _, hgb, _⟩
  · exact ⟨none, 0, by rw [List.length_map, h0], fun h1 => absurd h1 (by rw [List.length_map]; omega)⟩
  refine ⟨_, cap, by rw [List.length_map], fun h0 => ⟨g, 0, rfl, (Array.getElem?_eq_some_iff.1 hgb).1, fun i x hx => ?_⟩⟩
  have hcells := fun j hj => World.ownsRow.cellAt hown j hj
  rw [List.getElem?_map] at hx
  obtain ⟨y, hy, rfl⟩ := Option.map_eq_some_iff.1 hx
  have hil : i < l.length := (List.getElem?_eq_some_iff.1 hy).1
  have hi : ∀ (l : List Bs) (i : Nat) (x : Bs), l[i]? = some x → (l.flatMap tyCells)[i * 3]? = some (.slice none 0 0) ∧ (l.flatMap tyCells)[i * 3 + 1]? = some (.bool x.cell) ∧ (l.flatMap tyCells)[i * 3 + 2]? = some (.int .i64 x.n) := by
    intro l
    induction l with
    | nil => intro i t h; simp at h
    | cons y r ih =>
      intro i t h
      cases i with
      | zero =>
        simp at h
        subst h
        exact ⟨rfl, rfl, rfl⟩
      | succ i =>
        rw [List.getElem?_cons_succ] at h
        have := ih i t h
        have e : ∀ d, ((y :: r).flatMap tyCells)[(i + 1) * 3 + d]? = (r.flatMap tyCells)[i * 3 + d]? := fun d => by
          show (tyCells y ++ r.flatMap tyCells)[(i + 1) * 3 + d]? = _
          rw [List.getElem?_append_right (by show 3 ≤ _; omega)]
          congr 1
          show (i + 1) * 3 + d - 3 = _
          omega
        exact ⟨(e 0).trans this.1, (e 1).trans this.2.1, (e 2).trans this.2.2⟩
  obtain ⟨p0, p1, p2⟩ := hi l i y hy
  refine ⟨.slice none 0 0, ⟨none, 0, rfl, fun h => absurd h (by simp)⟩, ?_, ?_, ?_⟩
  · have := hcells (i * 3) (by omega); rw [p0] at this; simpa using this
  · have := hcells (i * 3 + 1) (by omega); rw [p1] at this; simpa using this
  · have := hcells (i * 3 + 2) (by omega); rw [p2] at this; simpa using this

end Go.Proofs.YtoncdnelacolaaaGreatDoor.Ar
