/- The place of a move; whose a move is. -/
import Derived.Test.YtoncdnelacolaaaGreatDoorAWalkF
import Derived.Test.YtoncdnelacolaaaGreatDoorABlocks
import Derived.RegionTactic
import Derived.BigRegion
import Derived.Deep.Cut
namespace Go.Proofs.YtoncdnelacolaaaGreatDoor.Ar
open Go Go.Proofs Go.RowKit Lx Ps

theorem plAt_int {a : Ar} {id arg : Int} {p : Pl} (h : plAt a id arg = some p) : id = p.id ∧ arg = p.arg := by
  have h0 : ¬ (id < 0 ∨ arg < 0) := fun hn => by unfold plAt at h; rw [if_pos hn] at h; cases h
  obtain ⟨i, rfl⟩ : ∃ i : Nat, id = i := ⟨id.toNat, by omega⟩
  obtain ⟨j, rfl⟩ : ∃ j : Nat, arg = j := ⟨arg.toNat, by omega⟩
  obtain ⟨h1, h2⟩ := plAt_nums h
  exact ⟨by rw [h1], by rw [h2]⟩
/-- What the function placeOf returns. -/
def zAr : Value := .agg #[.slice none 0 0, .bool false, .int .i64 0, .bool false]
def pmR (ids : Value) (a : Ar) (m : Mv) : Value :=
  if checkE a ≠ 0 then .tuple #[zAr, zPl, .int .i64 (checkE a : Int)] else match placeM a m with
  | none => .tuple #[zAr, zPl, .int .i64 7]
  | some p => .tuple #[arV ids a, plV p, .int .i64 0]
theorem below_six {w : World} {o1 o2 o3 o4 : Obj} : Below w.heap.size w ((((w.alloc o1).alloc o2).alloc o3).alloc o4) := below_four

set_option maxRecDepth 100000 in
set_option maxHeartbeats 1000000 in
theorem placeOf_any (ids : Value) (a : Ar) (m : Mv) (w : World) (hin : ArIn w ids a) :
    Calls Tryz.prog 72 #[arV ids a, mvV m] w fun r w' => r = .returned (pmR ids a m) ∧ Below w.heap.size w w' := by
  have hP : ∀ W, Below w.heap.size w W → Calls Tryz.prog 70 #[arV ids a, .int .i64 m.id, .int .i64 m.arg] W fun r w' => r = .returned (plR (plAt a m.id m.arg)) ∧ Below W.heap.size W w' := fun W hb => place_any ids a m.id m.arg W (hin.below hb)
  have hR0 : checkE a = 0 → ∀ W, Below w.heap.size w W → Calls Tryz.prog 59 #[arV ids a] W fun r w' => r = .returned (.tuple #[arV ids a, .int .i64 0]) ∧ Below W.heap.size W w' := fun he W hb => rightOf_ok ids a W (hin.below hb) he
  have hR1 : checkE a ≠ 0 → ∀ W, Below w.heap.size w W → Calls Tryz.prog 59 #[arV ids a] W fun r w' => r = .returned (.tuple #[.agg #[.slice none 0 0, .bool false, .int .i64 0, .bool false], .int .i64 (checkE a : Int)]) ∧ Below W.heap.size W w' := fun he W hb => rightOf_bad ids a W (hin.below hb) he
  obtain ⟨A, cap, rfl, -⟩ := hin.sl
  clear hin
  unfold pmR
  have hba : Below w.heap.size w ((((w.alloc (.cells #[.slice A a.ids.length cap, .bool a.root.cell, .int .i64 a.root.n, .bool a.jumps] 26)).alloc (.cells #[.int .i64 m.id, .int .i64 m.arg, .int .u8 (m.kind : Int), .int .i64 m.n] 40)).alloc (.cells #[.slice none 0 0, .bool false, .int .i64 0, .bool false] 80)).alloc (.cells #[.bool false, .int .i64 0, .int .i64 0, .int .i64 0, .bool false] 85)) := below_four
  obtain ⟨-, G1, G2, G3⟩ := blocks4 w (.cells #[.slice A a.ids.length cap, .bool a.root.cell, .int .i64 a.root.n, .bool a.jumps] 26) (.cells #[.int .i64 m.id, .int .i64 m.arg, .int .u8 (m.kind : Int), .int .i64 m.n] 40) (.cells #[.slice none 0 0, .bool false, .int .i64 0, .bool false] 80) (.cells #[.bool false, .int .i64 0, .int .i64 0, .int .i64 0, .bool false] 85)
  have hsz : ((((w.alloc (.cells #[.slice A a.ids.length cap, .bool a.root.cell, .int .i64 a.root.n, .bool a.jumps] 26)).alloc (.cells #[.int .i64 m.id, .int .i64 m.arg, .int .u8 (m.kind : Int), .int .i64 m.n] 40)).alloc (.cells #[.slice none 0 0, .bool false, .int .i64 0, .bool false] 80)).alloc (.cells #[.bool false, .int .i64 0, .int .i64 0, .int .i64 0, .bool false] 85)).heap.size = w.heap.size + 4 := by simp
  have HG := Lib.hid (And.intro G1 (And.intro G2 (And.intro G3 hsz)))
  clear G1 G2 G3 hsz
  by_cases h0 : checkE a = 0
  · have hR := hR0 h0
    rw [if_neg (by omega)]
    clear hR0 hR1 h0
    unfold placeM
    cases hpl : plAt a m.id m.arg with
    | none =>
      rw [hpl] at hP
      have HP := Lib.hid hP
      have HR := Lib.hid hR
      clear hP hR hpl
      dsimp only
      unfold arV mvV plR zPl at *
      go_enter Tryz.func72, Tryz.ntmps72
      go_upto_region 6 with (first | (go_at_call 59; refine (HR.out _ hba).mono ?_; rintro r w1 ⟨rfl, hb1⟩; obtain ⟨G1, G2, G3, hsz⟩ := HG.out; have hb2 := hba.trans (hb1.mono hba.size); have y4 : w.heap.size + 4 ≤ w1.heap.size := (by have := hb1.size; omega); have HG1 := Lib.hid (And.intro (heap_below hb1 (by omega) G2) (heap_below hb1 (by omega) G3)); obtain ⟨⟨m0, m1, m2, m3⟩, -, y1⟩ := four_c (heap_below hb1 (by omega) G1); have hbx := Lib.hid (fun o => hb2.alloc hb2.size o); have Gm := Lib.hid (heap_below hb1 (by omega) G1); clear G1 G2 G3 hsz) | (go_at_call 70; refine (HP.out _ (hbx.out _)).mono ?_; rintro r w2 ⟨rfl, hb3⟩; have hb4 : Below w.heap.size w w2 := Below.trans (hbx.out _) (hb3.mono (by rw [alloc_sz2]; omega)); have z4 : w1.heap.size + 1 ≤ w2.heap.size := (by have := hb3.size; rw [alloc_sz2] at this; omega)))
      have K1 := (Below.heap_alloc w2 (.cells #[.bool false, .int .i64 0, .int .i64 0, .int .i64 0, .bool false] 85) _ (by omega)).trans (heap_below hb3 (by rw [alloc_sz2]; omega) ((Below.heap_alloc _ _ _ (by omega)).trans HG1.out.1))
      have K2 := (Below.heap_alloc w2 (.cells #[.bool false, .int .i64 0, .int .i64 0, .int .i64 0, .bool false] 85) _ (by omega)).trans (heap_below hb3 (by rw [alloc_sz2]; omega) ((Below.heap_alloc _ _ _ (by omega)).trans HG1.out.2))
      have K3 := hb4.alloc hb4.size (.cells #[.bool false, .int .i64 0, .int .i64 0, .int .i64 0, .bool false] 85)
      clear m0 m1 m2 m3 hb1 hb3
      generalize w2.alloc (.cells #[.bool false, .int .i64 0, .int .i64 0, .int .i64 0, .bool false] 85) = V at K1 K2 K3 ⊢
      clear hb4 hb2 z4 y4 HG1 hbx Gm HG hba HP HR y1
      obtain ⟨⟨q00, q01, q02, q03⟩, ⟨p00, p01, p02, p03⟩, x2⟩ := four_c K1
      obtain ⟨⟨q10, q11, q12, q13, q14⟩, ⟨p10, p11, p12, p13, p14⟩, x3⟩ := five_c K2
      clear K1 K2
      go_wp2
      refine bodyPost_ret (v := .tuple #[.agg #[.slice none 0 0, .bool false, .int .i64 0, .bool false], .agg #[.bool false, .int .i64 0, .int .i64 0, .int .i64 0, .bool false], .int .i64 7]) (by simp [results, Tryz.results72, go_sem, q00, q01, q02, q03, q10, q11, q12, q13, q14]) rfl ⟨rfl, ?_⟩
      exact below5s (below4s K3 (by omega)) (by omega)
    | some p =>
      obtain ⟨hid, harg⟩ := plAt_int hpl
      have hH := fun W => has_any p m W hid harg
      clear hid harg
      rw [hpl] at hP
      dsimp only
      cases hh : hasP p m
      · rw [hh] at hH
        have HP := Lib.hid hP
        have HR := Lib.hid hR
        have HH := Lib.hid hH
        clear hP hR hpl hH hh
        rw [if_neg (by simp)]
        unfold arV mvV plR zPl plV at *
        go_enter Tryz.func72, Tryz.ntmps72
        go_upto_region 6 with (first | (go_at_call 59; refine (HR.out _ hba).mono ?_; rintro r w1 ⟨rfl, hb1⟩; obtain ⟨G1, G2, G3, hsz⟩ := HG.out; have hb2 := hba.trans (hb1.mono hba.size); have y4 : w.heap.size + 4 ≤ w1.heap.size := (by have := hb1.size; omega); have HG1 := Lib.hid (And.intro (heap_below hb1 (by omega) G2) (heap_below hb1 (by omega) G3)); obtain ⟨⟨m0, m1, m2, m3⟩, -, y1⟩ := four_c (heap_below hb1 (by omega) G1); have hbx := Lib.hid (fun o => hb2.alloc hb2.size o); have Gm := Lib.hid (heap_below hb1 (by omega) G1); clear G1 G2 G3 hsz) | (go_at_call 70; refine (HP.out _ (hbx.out _)).mono ?_; rintro r w2 ⟨rfl, hb3⟩; have hb4 : Below w.heap.size w w2 := Below.trans (hbx.out _) (hb3.mono (by rw [alloc_sz2]; omega)); have z4 : w1.heap.size + 1 ≤ w2.heap.size := (by have := hb3.size; rw [alloc_sz2] at this; omega); have HG2 := Lib.hid (And.intro (heap_below hb3 (by rw [alloc_sz2]; omega) ((Below.heap_alloc _ _ _ (by omega)).trans HG1.out.1)) (And.intro (heap_below hb3 (by rw [alloc_sz2]; omega) ((Below.heap_alloc _ _ _ (by omega)).trans HG1.out.2)) (And.intro (heap_below hb3 (by rw [alloc_sz2]; omega) (heap_alloc_new w1 _)) (heap_below hb3 (by rw [alloc_sz2]; omega) ((Below.heap_alloc _ _ _ (by omega)).trans Gm.out))))); obtain ⟨⟨n0, n1, n2, n3⟩, -, x1⟩ := four_c HG2.out.2.2.2; have hby := Lib.hid (fun o => hb4.alloc hb4.size o)) | (go_at_call 71; refine (HH.out _).mono ?_; rintro r w3 ⟨rfl, hb5⟩; have hb6 : Below w.heap.size w w3 := Below.trans (hby.out _) (hb5.mono (by rw [alloc_sz2]; omega)); have HG3 := Lib.hid (And.intro (heap_below hb5 (by rw [alloc_sz2]; omega) ((Below.heap_alloc _ _ _ (by omega)).trans HG2.out.1)) (And.intro (heap_below hb5 (by rw [alloc_sz2]; omega) ((Below.heap_alloc _ _ _ (by omega)).trans HG2.out.2.1)) (And.intro (heap_below hb5 (by rw [alloc_sz2]; omega) ((Below.heap_alloc _ _ _ (by omega)).trans HG2.out.2.2.1)) (heap_below hb5 (by rw [alloc_sz2]; omega) (heap_alloc_new w2 _)))))))
        have K1 := HG3.out.1
        have K2 := HG3.out.2.1
        have K4 := HG3.out.2.2.1
        have K5 := HG3.out.2.2.2
        generalize w3 = V at K1 K2 K4 K5 hb6 ⊢
        clear hb5 hb4 hb2 z4 y4 HG1 HG2 HG3 hbx hby Gm HG hba HP HR HH y1 hb1 hb3
        try clear n0 n1 n2 n3
        try clear m0 m1 m2 m3
        obtain ⟨⟨q00, q01, q02, q03⟩, ⟨p00, p01, p02, p03⟩, x2⟩ := four_c K1
        obtain ⟨⟨q10, q11, q12, q13, q14⟩, ⟨p10, p11, p12, p13, p14⟩, x3⟩ := five_c K2
        clear K1 K2 K4 K5
        go_wp2
        refine bodyPost_ret (v := .tuple #[.agg #[.slice none 0 0, .bool false, .int .i64 0, .bool false], .agg #[.bool false, .int .i64 0, .int .i64 0, .int .i64 0, .bool false], .int .i64 7]) (by simp [results, Tryz.results72, go_sem, q00, q01, q02, q03, q10, q11, q12, q13, q14]) rfl ⟨rfl, ?_⟩
        exact below5s (below4s hb6 (by omega)) (by omega)
      · rw [hh] at hH
        have HP := Lib.hid hP
        have HR := Lib.hid hR
        have HH := Lib.hid hH
        clear hP hR hpl hH hh
        rw [if_pos rfl]
        unfold arV mvV plR plV at *
        go_enter Tryz.func72, Tryz.ntmps72
        go_upto_region 7 with (first | (go_at_call 59; refine (HR.out _ hba).mono ?_; rintro r w1 ⟨rfl, hb1⟩; obtain ⟨G1, G2, G3, hsz⟩ := HG.out; have hb2 := hba.trans (hb1.mono hba.size); have y4 : w.heap.size + 4 ≤ w1.heap.size := (by have := hb1.size; omega); have HG1 := Lib.hid (And.intro (heap_below hb1 (by omega) G2) (heap_below hb1 (by omega) G3)); obtain ⟨⟨m0, m1, m2, m3⟩, -, y1⟩ := four_c (heap_below hb1 (by omega) G1); have hbx := Lib.hid (fun o => hb2.alloc hb2.size o); have Gm := Lib.hid (heap_below hb1 (by omega) G1); clear G1 G2 G3 hsz) | (go_at_call 70; refine (HP.out _ (hbx.out _)).mono ?_; rintro r w2 ⟨rfl, hb3⟩; have hb4 : Below w.heap.size w w2 := Below.trans (hbx.out _) (hb3.mono (by rw [alloc_sz2]; omega)); have z4 : w1.heap.size + 1 ≤ w2.heap.size := (by have := hb3.size; rw [alloc_sz2] at this; omega); have HG2 := Lib.hid (And.intro (heap_below hb3 (by rw [alloc_sz2]; omega) ((Below.heap_alloc _ _ _ (by omega)).trans HG1.out.1)) (And.intro (heap_below hb3 (by rw [alloc_sz2]; omega) ((Below.heap_alloc _ _ _ (by omega)).trans HG1.out.2)) (And.intro (heap_below hb3 (by rw [alloc_sz2]; omega) (heap_alloc_new w1 _)) (heap_below hb3 (by rw [alloc_sz2]; omega) ((Below.heap_alloc _ _ _ (by omega)).trans Gm.out))))); obtain ⟨⟨n0, n1, n2, n3⟩, -, x1⟩ := four_c HG2.out.2.2.2; have hby := Lib.hid (fun o => hb4.alloc hb4.size o)) | (go_at_call 71; refine (HH.out _).mono ?_; rintro r w3 ⟨rfl, hb5⟩; have hb6 : Below w.heap.size w w3 := Below.trans (hby.out _) (hb5.mono (by rw [alloc_sz2]; omega)); have HG3 := Lib.hid (And.intro (heap_below hb5 (by rw [alloc_sz2]; omega) ((Below.heap_alloc _ _ _ (by omega)).trans HG2.out.1)) (And.intro (heap_below hb5 (by rw [alloc_sz2]; omega) ((Below.heap_alloc _ _ _ (by omega)).trans HG2.out.2.1)) (And.intro (heap_below hb5 (by rw [alloc_sz2]; omega) ((Below.heap_alloc _ _ _ (by omega)).trans HG2.out.2.2.1)) (heap_below hb5 (by rw [alloc_sz2]; omega) (heap_alloc_new w2 _)))))))
        have K1 := HG3.out.1
        have K2 := HG3.out.2.1
        have K4 := HG3.out.2.2.1
        have K5 := HG3.out.2.2.2
        generalize w3 = V at K1 K2 K4 K5 hb6 ⊢
        have d1 : ¬ w.heap.size + 1 + 1 = w1.heap.size := by omega
        have e1 : ¬ w1.heap.size = w.heap.size + 1 + 1 := by omega
        have d2 : ¬ w.heap.size + 1 + 1 = w2.heap.size := by omega
        have e2 : ¬ w2.heap.size = w.heap.size + 1 + 1 := by omega
        have d3 : ¬ w.heap.size + 1 + 1 + 1 = w1.heap.size := by omega
        have e3 : ¬ w1.heap.size = w.heap.size + 1 + 1 + 1 := by omega
        have d4 : ¬ w.heap.size + 1 + 1 + 1 = w2.heap.size := by omega
        have e4 : ¬ w2.heap.size = w.heap.size + 1 + 1 + 1 := by omega
        clear hb5 hb4 hb2 z4 y4 HG1 HG2 HG3 hbx hby Gm HG hba HP HR HH y1 hb1 hb3
        try clear n0 n1 n2 n3
        try clear m0 m1 m2 m3
        obtain ⟨⟨q00, q01, q02, q03⟩, ⟨p00, p01, p02, p03⟩, x2⟩ := four_c K1
        obtain ⟨⟨q10, q11, q12, q13, q14⟩, ⟨p10, p11, p12, p13, p14⟩, x3⟩ := five_c K2
        obtain ⟨⟨r00, r01, r02, r03⟩, -, x4⟩ := four_c K4
        obtain ⟨⟨r10, r11, r12, r13, r14⟩, -, x5⟩ := five_c K5
        clear K1 K2 K4 K5
        go_region
        all_goals go_wp2
        refine bodyPost_ret (v := .tuple #[.agg #[.slice A a.ids.length cap, .bool a.root.cell, .int .i64 a.root.n, .bool a.jumps], .agg #[.bool p.base.cell, .int .i64 p.base.n, .int .i64 (p.id : Int), .int .i64 (p.arg : Int), .bool p.jumps], .int .i64 0]) (by simp [results, Tryz.results72, go_sem, q00, q01, q02, q03, q10, q11, q12, q13, q14]) rfl ⟨rfl, ?_⟩
        exact (below5s (below4s hb6 (by omega)) (by omega)).drew
  · have hR := hR1 h0
    rw [if_pos h0]
    have hne : ((checkE a : Int) != 0) = true := by simp; omega
    generalize checkE a = e at *
    have HR := Lib.hid hR
    clear hR0 hR1 hR hP h0
    unfold arV mvV at *
    go_enter Tryz.func72, Tryz.ntmps72
    go_upto_region 3 with (go_at_call 59; refine (HR.out _ hba).mono ?_; rintro r w1 ⟨rfl, hb1⟩; obtain ⟨G1, G2, G3, hsz⟩ := HG.out; have hb2 := hba.trans (hb1.mono hba.size); have HG1 := Lib.hid (And.intro (heap_below hb1 (by omega) G2) (heap_below hb1 (by omega) G3)); have y4 : w.heap.size + 4 ≤ w1.heap.size := (by have := hb1.size; omega); clear G1 G2 G3 hsz)
    have K1 := (Below.heap_alloc w1 (.cells #[.slice none 0 0, .bool false, .int .i64 0, .bool false] 80) _ (by omega)).trans HG1.out.1
    have K2 := (Below.heap_alloc w1 (.cells #[.slice none 0 0, .bool false, .int .i64 0, .bool false] 80) _ (by omega)).trans HG1.out.2
    have K3 := hb2.alloc hb2.size (.cells #[.slice none 0 0, .bool false, .int .i64 0, .bool false] 80)
    generalize w1.alloc (.cells #[.slice none 0 0, .bool false, .int .i64 0, .bool false] 80) = V at K1 K2 K3 ⊢
    clear hb1 hb2 HG1 HG hba HR y4
    obtain ⟨⟨q00, q01, q02, q03⟩, ⟨p00, p01, p02, p03⟩, x2⟩ := four_c K1
    obtain ⟨⟨q10, q11, q12, q13, q14⟩, ⟨p10, p11, p12, p13, p14⟩, x3⟩ := five_c K2
    clear K1 K2
    go_wp2
    refine bodyPost_ret (v := .tuple #[.agg #[.slice none 0 0, .bool false, .int .i64 0, .bool false], .agg #[.bool false, .int .i64 0, .int .i64 0, .int .i64 0, .bool false], .int .i64 (e : Int)]) (by simp [results, Tryz.results72, go_sem, q00, q01, q02, q03, q10, q11, q12, q13, q14]) rfl ⟨rfl, ?_⟩
    exact below5s (below4s K3 (by omega)) (by omega)

end Go.Proofs.YtoncdnelacolaaaGreatDoor.Ar
