/- The place of a question; whose a move is. -/
import Derived.Test.YtoncdnelacolaaaGreatDoorAWalkG
namespace Go.Proofs.YtoncdnelacolaaaGreatDoor.Ar
open Go Go.Proofs Go.RowKit Lx Ps

/-- How the place of a move comes out: an error, none, or a place. -/
inductive PmCase (a : Ar) (m : Mv) : Prop where
  | err (e : Nat) (h : checkE a = e) (h0 : e ≠ 0)
  | none (h : checkE a = 0) (hp : placeM a m = none)
  | some (p : Pl) (h : checkE a = 0) (hp : placeM a m = some p)
theorem pmCase (a : Ar) (m : Mv) : PmCase a m := by
  by_cases h : checkE a = 0
  · cases hp : placeM a m with
    | none => exact .none h hp
    | some p => exact .some p h hp
  · exact .err _ rfl h
theorem pmR_err {ids : Value} {a : Ar} {m : Mv} {e : Nat} (h : checkE a = e) (h0 : e ≠ 0) : pmR ids a m = .tuple #[.agg #[.slice none 0 0, .bool false, .int .i64 0, .bool false], .agg #[.bool false, .int .i64 0, .int .i64 0, .int .i64 0, .bool false], .int .i64 (e : Int)] := by
  unfold pmR
  rw [h, if_pos h0]; rfl
theorem pmR_none {ids : Value} {a : Ar} {m : Mv} (h : checkE a = 0) (hp : placeM a m = none) : pmR ids a m = .tuple #[.agg #[.slice none 0 0, .bool false, .int .i64 0, .bool false], .agg #[.bool false, .int .i64 0, .int .i64 0, .int .i64 0, .bool false], .int .i64 7] := by
  unfold pmR
  rw [h, if_neg (by simp), hp]; rfl
theorem pmR_some {ids : Value} {a : Ar} {m : Mv} {p : Pl} (h : checkE a = 0) (hp : placeM a m = some p) : pmR ids a m = .tuple #[arV ids a, plV p, .int .i64 0] := by
  unfold pmR
  rw [h, if_neg (by simp), hp]

/-- What the function askedPlace returns. -/
def apR (ids : Value) (a : Ar) (m : Mv) : Value :=
  if checkE a = 0 ∧ placeM a m ≠ none ∧ m.kind = 3 then .tuple #[zAr, zPl, .int .i64 2] else pmR ids a m
theorem apR_err {ids : Value} {a : Ar} {m : Mv} {e : Nat} (h : checkE a = e) (h0 : e ≠ 0) : apR ids a m = .tuple #[.agg #[.slice none 0 0, .bool false, .int .i64 0, .bool false], .agg #[.bool false, .int .i64 0, .int .i64 0, .int .i64 0, .bool false], .int .i64 (e : Int)] := by
  unfold apR
  rw [if_neg (fun hn => h0 (h ▸ hn.1)), pmR_err h h0]
theorem apR_none {ids : Value} {a : Ar} {m : Mv} (h : checkE a = 0) (hp : placeM a m = none) : apR ids a m = .tuple #[.agg #[.slice none 0 0, .bool false, .int .i64 0, .bool false], .agg #[.bool false, .int .i64 0, .int .i64 0, .int .i64 0, .bool false], .int .i64 7] := by
  unfold apR
  rw [if_neg (fun hn => hn.2.1 hp), pmR_none h hp]
theorem apR_tell {ids : Value} {a : Ar} {m : Mv} {p : Pl} (h : checkE a = 0) (hp : placeM a m = some p) (hk : m.kind = 3) : apR ids a m = .tuple #[.agg #[.slice none 0 0, .bool false, .int .i64 0, .bool false], .agg #[.bool false, .int .i64 0, .int .i64 0, .int .i64 0, .bool false], .int .i64 2] := by
  unfold apR
  rw [if_pos ⟨h, by rw [hp]; simp, hk⟩]; rfl
theorem apR_some {ids : Value} {a : Ar} {m : Mv} {p : Pl} (h : checkE a = 0) (hp : placeM a m = some p) (hk : m.kind ≠ 3) : apR ids a m = .tuple #[arV ids a, plV p, .int .i64 0] := by
  unfold apR
  rw [if_neg (fun hn => hk hn.2.2), pmR_some h hp]

set_option maxRecDepth 100000 in
set_option maxHeartbeats 1000000 in
theorem askedPlace_any (ids : Value) (a : Ar) (m : Mv) (w : World) (hin : ArIn w ids a) :
    Calls Tryz.prog 74 #[arV ids a, mvV m] w fun r w' => r = .returned (apR ids a m) ∧ Below w.heap.size w w' := by
  have hP : ∀ W, Below w.heap.size w W → Calls Tryz.prog 72 #[arV ids a, mvV m] W fun r w' => r = .returned (pmR ids a m) ∧ Below W.heap.size W w' := fun W hb => placeOf_any ids a m W (hin.below hb)
  obtain ⟨A, cap, rfl, -⟩ := hin.sl
  clear hin
  have hba : Below w.heap.size w ((((w.alloc (.cells #[.slice A a.ids.length cap, .bool a.root.cell, .int .i64 a.root.n, .bool a.jumps] 26)).alloc (.cells #[.int .i64 m.id, .int .i64 m.arg, .int .u8 (m.kind : Int), .int .i64 m.n] 40)).alloc (.cells #[.slice none 0 0, .bool false, .int .i64 0, .bool false] 80)).alloc (.cells #[.bool false, .int .i64 0, .int .i64 0, .int .i64 0, .bool false] 85)) := below_four
  have HG := Lib.hid (And.intro (blocks4 w (.cells #[.slice A a.ids.length cap, .bool a.root.cell, .int .i64 a.root.n, .bool a.jumps] 26) (.cells #[.int .i64 m.id, .int .i64 m.arg, .int .u8 (m.kind : Int), .int .i64 m.n] 40) (.cells #[.slice none 0 0, .bool false, .int .i64 0, .bool false] 80) (.cells #[.bool false, .int .i64 0, .int .i64 0, .int .i64 0, .bool false] 85)) (show ((((w.alloc (.cells #[.slice A a.ids.length cap, .bool a.root.cell, .int .i64 a.root.n, .bool a.jumps] 26)).alloc (.cells #[.int .i64 m.id, .int .i64 m.arg, .int .u8 (m.kind : Int), .int .i64 m.n] 40)).alloc (.cells #[.slice none 0 0, .bool false, .int .i64 0, .bool false] 80)).alloc (.cells #[.bool false, .int .i64 0, .int .i64 0, .int .i64 0, .bool false] 85)).heap.size = w.heap.size + 4 by simp))
  have hcs := pmCase a m
  cases hcs
  · -- err
    rename_i e h h0
    have hne : ((e : Int) == 0) = false := by simp; omega
    rw [apR_err h h0]
    rw [pmR_err h h0] at hP
    have H0 := Lib.hid h0
    clear h h0
    have HP := Lib.hid hP
    clear hP
    unfold arV mvV at *
    go_enter Tryz.func74, Tryz.ntmps74
    go_upto_region 4 with (go_at_call 72; refine (HP.out _ hba).mono ?_; rintro r w1 ⟨rfl, hb1⟩; obtain ⟨⟨G0, G1, G2, G3⟩, hsz⟩ := HG.out; have hb2 := hba.trans (hb1.mono hba.size); have y4 : w.heap.size + 4 ≤ w1.heap.size := (by have := hb1.size; omega); have HG1 := Lib.hid (And.intro (heap_below hb1 (by omega) G2) (And.intro (heap_below hb1 (by omega) G3) (heap_below hb1 (by omega) G1))); obtain ⟨⟨m0, m1, m2, m3⟩, -, y1⟩ := four_c HG1.out.2.2; have y0 : w.heap.size < w1.heap.size := (by omega); clear G0 G1 G2 G3 hsz)
    have hsz1 : w1.heap.size < (w1.alloc (.cells #[.slice none 0 0, .bool false, .int .i64 0, .bool false] 80)).heap.size := by simp
    have K1 := (Below.heap_alloc (w1.alloc (.cells #[.slice none 0 0, .bool false, .int .i64 0, .bool false] 80)) (.cells #[.bool false, .int .i64 0, .int .i64 0, .int .i64 0, .bool false] 85) _ (by omega)).trans ((Below.heap_alloc w1 (.cells #[.slice none 0 0, .bool false, .int .i64 0, .bool false] 80) _ (by omega)).trans HG1.out.1)
    have K2 := (Below.heap_alloc (w1.alloc (.cells #[.slice none 0 0, .bool false, .int .i64 0, .bool false] 80)) (.cells #[.bool false, .int .i64 0, .int .i64 0, .int .i64 0, .bool false] 85) _ (by omega)).trans ((Below.heap_alloc w1 (.cells #[.slice none 0 0, .bool false, .int .i64 0, .bool false] 80) _ (by omega)).trans HG1.out.2.1)
    have K3 := Below.alloc (hb2.alloc hb2.size (.cells #[.slice none 0 0, .bool false, .int .i64 0, .bool false] 80)) (by omega) (.cells #[.bool false, .int .i64 0, .int .i64 0, .int .i64 0, .bool false] 85)
    obtain ⟨K4, K5⟩ := blocks2 w1 (.cells #[.slice none 0 0, .bool false, .int .i64 0, .bool false] 80) (.cells #[.bool false, .int .i64 0, .int .i64 0, .int .i64 0, .bool false] 85)
    generalize ((w1.alloc (.cells #[.slice none 0 0, .bool false, .int .i64 0, .bool false] 80)).alloc (.cells #[.bool false, .int .i64 0, .int .i64 0, .int .i64 0, .bool false] 85)) = V at K1 K2 K3 K4 K5 ⊢
    have d0 : ¬ w.heap.size + 1 + 1 = w1.heap.size := by omega
    have e0 : ¬ w1.heap.size = w.heap.size + 1 + 1 := by omega
    have d1 : ¬ w.heap.size + 1 + 1 = w1.heap.size + 1 := by omega
    have e1 : ¬ w1.heap.size + 1 = w.heap.size + 1 + 1 := by omega
    have d2 : ¬ w.heap.size + 1 + 1 + 1 = w1.heap.size := by omega
    have e2 : ¬ w1.heap.size = w.heap.size + 1 + 1 + 1 := by omega
    have d3 : ¬ w.heap.size + 1 + 1 + 1 = w1.heap.size + 1 := by omega
    have e3 : ¬ w1.heap.size + 1 = w.heap.size + 1 + 1 + 1 := by omega
    clear hb1 hb2 HG1 HG hba HP y4 hsz1 m0 m1 m2 m3 y1 y0
    obtain ⟨⟨q00, q01, q02, q03⟩, ⟨p00, p01, p02, p03⟩, x2⟩ := four_c K1
    obtain ⟨⟨q10, q11, q12, q13, q14⟩, ⟨p10, p11, p12, p13, p14⟩, x3⟩ := five_c K2
    obtain ⟨⟨r00, r01, r02, r03⟩, -, x4⟩ := four_c K4
    obtain ⟨⟨r10, r11, r12, r13, r14⟩, -, x5⟩ := five_c K5
    clear K1 K2 K4 K5
    go_region
    all_goals go_wp2
    refine bodyPost_ret (v := .tuple #[.agg #[.slice none 0 0, .bool false, .int .i64 0, .bool false], .agg #[.bool false, .int .i64 0, .int .i64 0, .int .i64 0, .bool false], .int .i64 (e : Int)]) (by simp [results, Tryz.results74, go_sem, q00, q01, q02, q03, q10, q11, q12, q13, q14]) rfl ⟨rfl, ?_⟩
    exact (below5s (below4s K3 (by omega)) (by omega)).drew
  · -- none
    rename_i h hp
    rw [apR_none h hp]
    rw [pmR_none h hp] at hP
    clear h hp
    have HP := Lib.hid hP
    clear hP
    unfold arV mvV at *
    go_enter Tryz.func74, Tryz.ntmps74
    go_upto_region 4 with (go_at_call 72; refine (HP.out _ hba).mono ?_; rintro r w1 ⟨rfl, hb1⟩; obtain ⟨⟨G0, G1, G2, G3⟩, hsz⟩ := HG.out; have hb2 := hba.trans (hb1.mono hba.size); have y4 : w.heap.size + 4 ≤ w1.heap.size := (by have := hb1.size; omega); have HG1 := Lib.hid (And.intro (heap_below hb1 (by omega) G2) (And.intro (heap_below hb1 (by omega) G3) (heap_below hb1 (by omega) G1))); obtain ⟨⟨m0, m1, m2, m3⟩, -, y1⟩ := four_c HG1.out.2.2; have y0 : w.heap.size < w1.heap.size := (by omega); clear G0 G1 G2 G3 hsz)
    have hsz1 : w1.heap.size < (w1.alloc (.cells #[.slice none 0 0, .bool false, .int .i64 0, .bool false] 80)).heap.size := by simp
    have K1 := (Below.heap_alloc (w1.alloc (.cells #[.slice none 0 0, .bool false, .int .i64 0, .bool false] 80)) (.cells #[.bool false, .int .i64 0, .int .i64 0, .int .i64 0, .bool false] 85) _ (by omega)).trans ((Below.heap_alloc w1 (.cells #[.slice none 0 0, .bool false, .int .i64 0, .bool false] 80) _ (by omega)).trans HG1.out.1)
    have K2 := (Below.heap_alloc (w1.alloc (.cells #[.slice none 0 0, .bool false, .int .i64 0, .bool false] 80)) (.cells #[.bool false, .int .i64 0, .int .i64 0, .int .i64 0, .bool false] 85) _ (by omega)).trans ((Below.heap_alloc w1 (.cells #[.slice none 0 0, .bool false, .int .i64 0, .bool false] 80) _ (by omega)).trans HG1.out.2.1)
    have K3 := Below.alloc (hb2.alloc hb2.size (.cells #[.slice none 0 0, .bool false, .int .i64 0, .bool false] 80)) (by omega) (.cells #[.bool false, .int .i64 0, .int .i64 0, .int .i64 0, .bool false] 85)
    obtain ⟨K4, K5⟩ := blocks2 w1 (.cells #[.slice none 0 0, .bool false, .int .i64 0, .bool false] 80) (.cells #[.bool false, .int .i64 0, .int .i64 0, .int .i64 0, .bool false] 85)
    generalize ((w1.alloc (.cells #[.slice none 0 0, .bool false, .int .i64 0, .bool false] 80)).alloc (.cells #[.bool false, .int .i64 0, .int .i64 0, .int .i64 0, .bool false] 85)) = V at K1 K2 K3 K4 K5 ⊢
    have d0 : ¬ w.heap.size + 1 + 1 = w1.heap.size := by omega
    have e0 : ¬ w1.heap.size = w.heap.size + 1 + 1 := by omega
    have d1 : ¬ w.heap.size + 1 + 1 = w1.heap.size + 1 := by omega
    have e1 : ¬ w1.heap.size + 1 = w.heap.size + 1 + 1 := by omega
    have d2 : ¬ w.heap.size + 1 + 1 + 1 = w1.heap.size := by omega
    have e2 : ¬ w1.heap.size = w.heap.size + 1 + 1 + 1 := by omega
    have d3 : ¬ w.heap.size + 1 + 1 + 1 = w1.heap.size + 1 := by omega
    have e3 : ¬ w1.heap.size + 1 = w.heap.size + 1 + 1 + 1 := by omega
    clear hb1 hb2 HG1 HG hba HP y4 hsz1 m0 m1 m2 m3 y1 y0
    obtain ⟨⟨q00, q01, q02, q03⟩, ⟨p00, p01, p02, p03⟩, x2⟩ := four_c K1
    obtain ⟨⟨q10, q11, q12, q13, q14⟩, ⟨p10, p11, p12, p13, p14⟩, x3⟩ := five_c K2
    obtain ⟨⟨r00, r01, r02, r03⟩, -, x4⟩ := four_c K4
    obtain ⟨⟨r10, r11, r12, r13, r14⟩, -, x5⟩ := five_c K5
    clear K1 K2 K4 K5
    go_region
    all_goals go_wp2
    refine bodyPost_ret (v := .tuple #[.agg #[.slice none 0 0, .bool false, .int .i64 0, .bool false], .agg #[.bool false, .int .i64 0, .int .i64 0, .int .i64 0, .bool false], .int .i64 7]) (by simp [results, Tryz.results74, go_sem, q00, q01, q02, q03, q10, q11, q12, q13, q14]) rfl ⟨rfl, ?_⟩
    exact (below5s (below4s K3 (by omega)) (by omega)).drew
  · rename_i p h hp
    rw [pmR_some h hp] at hP
    by_cases hk : m.kind = 3
    · rw [apR_tell h hp hk]
      have hk1 : ((m.kind : Int) == 3) = true := by simp; omega
      have HP := Lib.hid hP
      clear hP h hp
      unfold arV mvV plV at *
      clear hk
      go_enter Tryz.func74, Tryz.ntmps74
      go_upto_region 3 with (go_at_call 72; refine (HP.out _ hba).mono ?_; rintro r w1 ⟨rfl, hb1⟩; obtain ⟨⟨G0, G1, G2, G3⟩, hsz⟩ := HG.out; have hb2 := hba.trans (hb1.mono hba.size); have y4 : w.heap.size + 4 ≤ w1.heap.size := (by have := hb1.size; omega); have HG1 := Lib.hid (And.intro (heap_below hb1 (by omega) G2) (And.intro (heap_below hb1 (by omega) G3) (heap_below hb1 (by omega) G1))); obtain ⟨⟨m0, m1, m2, m3⟩, -, y1⟩ := four_c HG1.out.2.2; have y0 : w.heap.size < w1.heap.size := (by omega); clear G0 G1 G2 G3 hsz)
      have hsz1 : w1.heap.size < (w1.alloc (.cells #[.slice A a.ids.length cap, .bool a.root.cell, .int .i64 a.root.n, .bool a.jumps] 80)).heap.size := by simp
      have K1 := (Below.heap_alloc (w1.alloc (.cells #[.slice A a.ids.length cap, .bool a.root.cell, .int .i64 a.root.n, .bool a.jumps] 80)) (.cells #[.bool p.base.cell, .int .i64 p.base.n, .int .i64 (p.id : Int), .int .i64 (p.arg : Int), .bool p.jumps] 85) _ (by omega)).trans ((Below.heap_alloc w1 (.cells #[.slice A a.ids.length cap, .bool a.root.cell, .int .i64 a.root.n, .bool a.jumps] 80) _ (by omega)).trans HG1.out.1)
      have K2 := (Below.heap_alloc (w1.alloc (.cells #[.slice A a.ids.length cap, .bool a.root.cell, .int .i64 a.root.n, .bool a.jumps] 80)) (.cells #[.bool p.base.cell, .int .i64 p.base.n, .int .i64 (p.id : Int), .int .i64 (p.arg : Int), .bool p.jumps] 85) _ (by omega)).trans ((Below.heap_alloc w1 (.cells #[.slice A a.ids.length cap, .bool a.root.cell, .int .i64 a.root.n, .bool a.jumps] 80) _ (by omega)).trans HG1.out.2.1)
      have K3 := Below.alloc (hb2.alloc hb2.size (.cells #[.slice A a.ids.length cap, .bool a.root.cell, .int .i64 a.root.n, .bool a.jumps] 80)) (by omega) (.cells #[.bool p.base.cell, .int .i64 p.base.n, .int .i64 (p.id : Int), .int .i64 (p.arg : Int), .bool p.jumps] 85)
      obtain ⟨K4, K5⟩ := blocks2 w1 (.cells #[.slice A a.ids.length cap, .bool a.root.cell, .int .i64 a.root.n, .bool a.jumps] 80) (.cells #[.bool p.base.cell, .int .i64 p.base.n, .int .i64 (p.id : Int), .int .i64 (p.arg : Int), .bool p.jumps] 85)
      generalize ((w1.alloc (.cells #[.slice A a.ids.length cap, .bool a.root.cell, .int .i64 a.root.n, .bool a.jumps] 80)).alloc (.cells #[.bool p.base.cell, .int .i64 p.base.n, .int .i64 (p.id : Int), .int .i64 (p.arg : Int), .bool p.jumps] 85)) = V at K1 K2 K3 K4 K5 ⊢
      clear hb1 hb2 HG1 HG hba HP y4 hsz1 m0 m1 m2 m3 y1 y0
      obtain ⟨⟨q00, q01, q02, q03⟩, ⟨p00, p01, p02, p03⟩, x2⟩ := four_c K1
      obtain ⟨⟨q10, q11, q12, q13, q14⟩, ⟨p10, p11, p12, p13, p14⟩, x3⟩ := five_c K2
      obtain ⟨⟨r00, r01, r02, r03⟩, -, x4⟩ := four_c K4
      obtain ⟨⟨r10, r11, r12, r13, r14⟩, -, x5⟩ := five_c K5
      clear K1 K2 K4 K5
      go_wp2
      refine bodyPost_ret (v := .tuple #[.agg #[.slice none 0 0, .bool false, .int .i64 0, .bool false], .agg #[.bool false, .int .i64 0, .int .i64 0, .int .i64 0, .bool false], .int .i64 2]) (by simp [results, Tryz.results74, go_sem, q00, q01, q02, q03, q10, q11, q12, q13, q14]) rfl ⟨rfl, ?_⟩
      exact below5s (below4s K3 (by omega)) (by omega)
    · rw [apR_some h hp hk]
      have hk1 : ((m.kind : Int) == 3) = false := by simp; omega
      have HP := Lib.hid hP
      clear hP h hp
      unfold arV mvV plV at *
      have HK := Lib.hid hk
      clear hk
      go_enter Tryz.func74, Tryz.ntmps74
      go_upto_region 4 with (go_at_call 72; refine (HP.out _ hba).mono ?_; rintro r w1 ⟨rfl, hb1⟩; obtain ⟨⟨G0, G1, G2, G3⟩, hsz⟩ := HG.out; have hb2 := hba.trans (hb1.mono hba.size); have y4 : w.heap.size + 4 ≤ w1.heap.size := (by have := hb1.size; omega); have HG1 := Lib.hid (And.intro (heap_below hb1 (by omega) G2) (And.intro (heap_below hb1 (by omega) G3) (heap_below hb1 (by omega) G1))); obtain ⟨⟨m0, m1, m2, m3⟩, -, y1⟩ := four_c HG1.out.2.2; have y0 : w.heap.size < w1.heap.size := (by omega); clear G0 G1 G2 G3 hsz)
      have hsz1 : w1.heap.size < (w1.alloc (.cells #[.slice A a.ids.length cap, .bool a.root.cell, .int .i64 a.root.n, .bool a.jumps] 80)).heap.size := by simp
      have K1 := (Below.heap_alloc (w1.alloc (.cells #[.slice A a.ids.length cap, .bool a.root.cell, .int .i64 a.root.n, .bool a.jumps] 80)) (.cells #[.bool p.base.cell, .int .i64 p.base.n, .int .i64 (p.id : Int), .int .i64 (p.arg : Int), .bool p.jumps] 85) _ (by omega)).trans ((Below.heap_alloc w1 (.cells #[.slice A a.ids.length cap, .bool a.root.cell, .int .i64 a.root.n, .bool a.jumps] 80) _ (by omega)).trans HG1.out.1)
      have K2 := (Below.heap_alloc (w1.alloc (.cells #[.slice A a.ids.length cap, .bool a.root.cell, .int .i64 a.root.n, .bool a.jumps] 80)) (.cells #[.bool p.base.cell, .int .i64 p.base.n, .int .i64 (p.id : Int), .int .i64 (p.arg : Int), .bool p.jumps] 85) _ (by omega)).trans ((Below.heap_alloc w1 (.cells #[.slice A a.ids.length cap, .bool a.root.cell, .int .i64 a.root.n, .bool a.jumps] 80) _ (by omega)).trans HG1.out.2.1)
      have K3 := Below.alloc (hb2.alloc hb2.size (.cells #[.slice A a.ids.length cap, .bool a.root.cell, .int .i64 a.root.n, .bool a.jumps] 80)) (by omega) (.cells #[.bool p.base.cell, .int .i64 p.base.n, .int .i64 (p.id : Int), .int .i64 (p.arg : Int), .bool p.jumps] 85)
      obtain ⟨K4, K5⟩ := blocks2 w1 (.cells #[.slice A a.ids.length cap, .bool a.root.cell, .int .i64 a.root.n, .bool a.jumps] 80) (.cells #[.bool p.base.cell, .int .i64 p.base.n, .int .i64 (p.id : Int), .int .i64 (p.arg : Int), .bool p.jumps] 85)
      generalize ((w1.alloc (.cells #[.slice A a.ids.length cap, .bool a.root.cell, .int .i64 a.root.n, .bool a.jumps] 80)).alloc (.cells #[.bool p.base.cell, .int .i64 p.base.n, .int .i64 (p.id : Int), .int .i64 (p.arg : Int), .bool p.jumps] 85)) = V at K1 K2 K3 K4 K5 ⊢
      have d0 : ¬ w.heap.size + 1 + 1 = w1.heap.size := by omega
      have e0 : ¬ w1.heap.size = w.heap.size + 1 + 1 := by omega
      have d1 : ¬ w.heap.size + 1 + 1 = w1.heap.size + 1 := by omega
      have e1 : ¬ w1.heap.size + 1 = w.heap.size + 1 + 1 := by omega
      have d2 : ¬ w.heap.size + 1 + 1 + 1 = w1.heap.size := by omega
      have e2 : ¬ w1.heap.size = w.heap.size + 1 + 1 + 1 := by omega
      have d3 : ¬ w.heap.size + 1 + 1 + 1 = w1.heap.size + 1 := by omega
      have e3 : ¬ w1.heap.size + 1 = w.heap.size + 1 + 1 + 1 := by omega
      clear hb1 hb2 HG1 HG hba HP y4 hsz1 m0 m1 m2 m3 y1 y0
      obtain ⟨⟨q00, q01, q02, q03⟩, ⟨p00, p01, p02, p03⟩, x2⟩ := four_c K1
      obtain ⟨⟨q10, q11, q12, q13, q14⟩, ⟨p10, p11, p12, p13, p14⟩, x3⟩ := five_c K2
      obtain ⟨⟨r00, r01, r02, r03⟩, -, x4⟩ := four_c K4
      obtain ⟨⟨r10, r11, r12, r13, r14⟩, -, x5⟩ := five_c K5
      clear K1 K2 K4 K5
      go_region
      all_goals go_wp2
      refine bodyPost_ret (v := .tuple #[.agg #[.slice A a.ids.length cap, .bool a.root.cell, .int .i64 a.root.n, .bool a.jumps], .agg #[.bool p.base.cell, .int .i64 p.base.n, .int .i64 (p.id : Int), .int .i64 (p.arg : Int), .bool p.jumps], .int .i64 0]) (by simp [results, Tryz.results74, go_sem, q00, q01, q02, q03, q10, q11, q12, q13, q14]) rfl ⟨rfl, ?_⟩
      exact (below5s (below4s K3 (by omega)) (by omega)).drew

end Go.Proofs.YtoncdnelacolaaaGreatDoor.Ar
