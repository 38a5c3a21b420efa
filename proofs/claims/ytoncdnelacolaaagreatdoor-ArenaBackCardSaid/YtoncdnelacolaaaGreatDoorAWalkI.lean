/- Whose a move is. -/
import Derived.Test.YtoncdnelacolaaaGreatDoorAWalkH
namespace Go.Proofs.YtoncdnelacolaaaGreatDoor.Ar
open Go Go.Proofs Go.RowKit Go.Sort Lx Ps

/-- What the function IsOther returns. -/
def ioR (a : Ar) (m : Mv) : Value :=
  if checkE a ≠ 0 then .tuple #[.bool false, .int .i64 (checkE a : Int)] else match placeM a m with
  | none => .tuple #[.bool false, .int .i64 7]
  | some p => .tuple #[.bool (isId p == (m.kind == 3)), .int .i64 0]
theorem ioR_err {a : Ar} {m : Mv} {e : Nat} (h : checkE a = e) (h0 : e ≠ 0) : ioR a m = .tuple #[.bool false, .int .i64 (e : Int)] := by
  unfold ioR
  rw [h, if_pos h0]
theorem ioR_none {a : Ar} {m : Mv} (h : checkE a = 0) (hp : placeM a m = none) : ioR a m = .tuple #[.bool false, .int .i64 7] := by
  unfold ioR
  rw [h, if_neg (by simp), hp]
theorem ioR_some {a : Ar} {m : Mv} {p : Pl} (h : checkE a = 0) (hp : placeM a m = some p) : ioR a m = .tuple #[.bool (isId p == (m.kind == 3)), .int .i64 0] := by
  unfold ioR
  rw [h, if_neg (by simp), hp]

set_option maxRecDepth 100000 in
set_option maxHeartbeats 1000000 in
theorem isOther_any (ids : Value) (a : Ar) (m : Mv) (w : World) (hin : ArIn w ids a) :
    Calls Tryz.prog 28 #[arV ids a, mvV m] w fun r w' => r = .returned (ioR a m) ∧ Below w.heap.size w w' := by
  have hP : ∀ W, Below w.heap.size w W → Calls Tryz.prog 72 #[arV ids a, mvV m] W fun r w' => r = .returned (pmR ids a m) ∧ Below W.heap.size W w' := fun W hb => placeOf_any ids a m W (hin.below hb)
  obtain ⟨A, cap, rfl, -⟩ := hin.sl
  clear hin
  have hba : Below w.heap.size w ((w.alloc (.cells #[.slice A a.ids.length cap, .bool a.root.cell, .int .i64 a.root.n, .bool a.jumps] 26)).alloc (.cells #[.int .i64 m.id, .int .i64 m.arg, .int .u8 (m.kind : Int), .int .i64 m.n] 40)) := below_two
  have HG := Lib.hid (And.intro (blocks2 w (.cells #[.slice A a.ids.length cap, .bool a.root.cell, .int .i64 a.root.n, .bool a.jumps] 26) (.cells #[.int .i64 m.id, .int .i64 m.arg, .int .u8 (m.kind : Int), .int .i64 m.n] 40)) (show ((w.alloc (.cells #[.slice A a.ids.length cap, .bool a.root.cell, .int .i64 a.root.n, .bool a.jumps] 26)).alloc (.cells #[.int .i64 m.id, .int .i64 m.arg, .int .u8 (m.kind : Int), .int .i64 m.n] 40)).heap.size = w.heap.size + 2 by simp))
  have hcs := pmCase a m
  cases hcs
  · rename_i e h h0
    have hne : ((e : Int) != 0) = true := by simp; omega
    rw [ioR_err h h0]
    rw [pmR_err h h0] at hP
    have H0 := Lib.hid h0
    clear h h0
    have HP := Lib.hid hP
    clear hP
    unfold arV mvV at *
    go_enter Tryz.func28, Tryz.ntmps28
    go_wp2_with (go_at_call 72; refine (HP.out _ hba).mono ?_; rintro r w1 ⟨rfl, hb1⟩; obtain ⟨⟨G0, G1⟩, hsz⟩ := HG.out; have hb2 := hba.trans (hb1.mono hba.size); have y4 : w.heap.size + 2 ≤ w1.heap.size := (by have := hb1.size; omega); have HG1 := Lib.hid (heap_below hb1 (by omega) G1); clear G0 G1 hsz)
    go_ret2
    exact ⟨rfl, Below.alloc (hb2.alloc hb2.size _) (by rw [alloc_sz2]; omega) _⟩
  · rename_i h hp
    rw [ioR_none h hp]
    rw [pmR_none h hp] at hP
    clear h hp
    have HP := Lib.hid hP
    clear hP
    unfold arV mvV at *
    go_enter Tryz.func28, Tryz.ntmps28
    go_wp2_with (go_at_call 72; refine (HP.out _ hba).mono ?_; rintro r w1 ⟨rfl, hb1⟩; obtain ⟨⟨G0, G1⟩, hsz⟩ := HG.out; have hb2 := hba.trans (hb1.mono hba.size); have y4 : w.heap.size + 2 ≤ w1.heap.size := (by have := hb1.size; omega); have HG1 := Lib.hid (heap_below hb1 (by omega) G1); clear G0 G1 hsz)
    go_ret2
    exact ⟨rfl, Below.alloc (hb2.alloc hb2.size _) (by rw [alloc_sz2]; omega) _⟩
  · rename_i p h hp
    rw [ioR_some h hp]
    rw [pmR_some h hp] at hP
    have HP := Lib.hid hP
    have hI := fun W => isId_any p W
    generalize isId p = b at *
    have hk : ((m.kind : Int) == 3) = (m.kind == 3) := by rw [Bool.eq_iff_iff]; simp; omega
    have HK := Lib.hid hk
    have HI := Lib.hid hI
    clear hP h hp hk hI
    unfold arV mvV plV at *
    go_enter Tryz.func28, Tryz.ntmps28
    go_upto_region 4 with (go_at_call 72; refine (HP.out _ hba).mono ?_; rintro r w1 ⟨rfl, hb1⟩; obtain ⟨⟨G0, G1⟩, hsz⟩ := HG.out; have hb2 := hba.trans (hb1.mono hba.size); have y4 : w.heap.size + 2 ≤ w1.heap.size := (by have := hb1.size; omega); have HG1 := Lib.hid (heap_below hb1 (by omega) G1); clear G0 G1 hsz)
    have hsz1 : w1.heap.size < (w1.alloc (.cells #[.slice A a.ids.length cap, .bool a.root.cell, .int .i64 a.root.n, .bool a.jumps] 80)).heap.size := by simp
    have K1 := (Below.heap_alloc (w1.alloc (.cells #[.slice A a.ids.length cap, .bool a.root.cell, .int .i64 a.root.n, .bool a.jumps] 80)) (.cells #[.bool p.base.cell, .int .i64 p.base.n, .int .i64 (p.id : Int), .int .i64 (p.arg : Int), .bool p.jumps] 85) _ (by omega)).trans ((Below.heap_alloc w1 (.cells #[.slice A a.ids.length cap, .bool a.root.cell, .int .i64 a.root.n, .bool a.jumps] 80) _ (by omega)).trans HG1.out)
    have K3 := Below.alloc (hb2.alloc hb2.size (.cells #[.slice A a.ids.length cap, .bool a.root.cell, .int .i64 a.root.n, .bool a.jumps] 80)) (by omega) (.cells #[.bool p.base.cell, .int .i64 p.base.n, .int .i64 (p.id : Int), .int .i64 (p.arg : Int), .bool p.jumps] 85)
    obtain ⟨-, K5⟩ := blocks2 w1 (.cells #[.slice A a.ids.length cap, .bool a.root.cell, .int .i64 a.root.n, .bool a.jumps] 80) (.cells #[.bool p.base.cell, .int .i64 p.base.n, .int .i64 (p.id : Int), .int .i64 (p.arg : Int), .bool p.jumps] 85)
    generalize ((w1.alloc (.cells #[.slice A a.ids.length cap, .bool a.root.cell, .int .i64 a.root.n, .bool a.jumps] 80)).alloc (.cells #[.bool p.base.cell, .int .i64 p.base.n, .int .i64 (p.id : Int), .int .i64 (p.arg : Int), .bool p.jumps] 85)) = V at K1 K3 K5 ⊢
    clear hb1 hb2 HG1 HG hba HP y4 hsz1
    have k0 := cell_regrown (cell_of_row _ _ 0 _ _ _ K5)
    have k1 := cell_regrown (cell_of_row _ _ 1 _ _ _ K5)
    have k2 := cell_regrown (cell_of_row _ _ 2 _ _ _ K5)
    have k3 := cell_regrown (cell_of_row _ _ 3 _ _ _ K5)
    have k4 := cell_regrown (cell_of_row _ _ 4 _ _ _ K5)
    have m2 := cell_regrown (cell_of_row _ _ 2 _ _ _ K1)
    have cI := fun d os => Calls.regrown_of (HI.out (grow (redrawn V d) os))
    refine wp_region_quiet_below (by kernel_rfl) (by kernel_rfl) ?_
    repeat (go_big_quiet_step ((exact cI _ _)))
    refine wpQuiet_nil ?_
    intro _ hw'
    obtain ⟨⟨dq, osq⟩, hw''⟩ := hw'
    subst hw''
    go_wp2
    go_ret2
    exact ⟨by simp [HK.out], K3.trans ((below_regrown V dq osq).mono K3.size)⟩

end Go.Proofs.YtoncdnelacolaaaGreatDoor.Ar
