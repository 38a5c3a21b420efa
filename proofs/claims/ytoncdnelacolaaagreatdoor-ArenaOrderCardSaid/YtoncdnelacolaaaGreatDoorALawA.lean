/- ArenaLess: the order of moves is the document's. -/
import Derived.Test.YtoncdnelacolaaaGreatDoorAAwake
import Derived.Test.YtoncdnelacolaaaGreatDoorALessD
import Derived.Lib.QuietBelow
namespace Go.Proofs.YtoncdnelacolaaaGreatDoor.Ar
open Go Go.Proofs Go.RowKit Go.Sort Lx Ps

theorem lessM_irr (x : Mv) : lessM x x = false := by simp [lessM]

set_option maxRecDepth 100000 in
set_option maxHeartbeats 1000000 in
theorem arenaLess_any (x y : Mv) (w : World) (hG : Ga w) :
    Calls Tryz.prog 9 #[mvV x, mvV y] w fun e w' => e = .returned (.bool true) ∧ Below w.heap.size w w' := by
  obtain ⟨k0, k1⟩ := blocks2 w (.cells #[.int .i64 x.id, .int .i64 x.arg, .int .u8 (x.kind : Int), .int .i64 x.n] 40) (.cells #[.int .i64 y.id, .int .i64 y.arg, .int .u8 (y.kind : Int), .int .i64 y.n] 40)
  have hba : Below w.heap.size w ((w.alloc (.cells #[.int .i64 x.id, .int .i64 x.arg, .int .u8 (x.kind : Int), .int .i64 x.n] 40)).alloc (.cells #[.int .i64 y.id, .int .i64 y.arg, .int .u8 (y.kind : Int), .int .i64 y.n] 40)) := below_two
  have hL := fun a b V => less_any a b V
  have hR := fun a b V => refLess_any a b V
  have hI := lessM_irr x
  unfold mvV at *
  go_enter Tryz.func9, Tryz.ntmps9
  go_upto_region 1 with (fail)
  generalize (w.alloc (.cells #[.int .i64 x.id, .int .i64 x.arg, .int .u8 (x.kind : Int), .int .i64 x.n] 40)).alloc (.cells #[.int .i64 y.id, .int .i64 y.arg, .int .u8 (y.kind : Int), .int .i64 y.n] 40) = V at k0 k1 hba ⊢
  have m0 := cell_regrown (v := .int .i64 x.id) (cell_of_row _ _ 0 _ _ _ k0)
  have m1 := cell_regrown (v := .int .i64 x.arg) (cell_of_row _ _ 1 _ _ _ k0)
  have m2 := cell_regrown (v := .int .u8 (x.kind : Int)) (cell_of_row _ _ 2 _ _ _ k0)
  have m3 := cell_regrown (v := .int .i64 x.n) (cell_of_row _ _ 3 _ _ _ k0)
  have n0 := cell_regrown (v := .int .i64 y.id) (cell_of_row _ _ 0 _ _ _ k1)
  have n1 := cell_regrown (v := .int .i64 y.arg) (cell_of_row _ _ 1 _ _ _ k1)
  have n2 := cell_regrown (v := .int .u8 (y.kind : Int)) (cell_of_row _ _ 2 _ _ _ k1)
  have n3 := cell_regrown (v := .int .i64 y.n) (cell_of_row _ _ 3 _ _ _ k1)
  have cL := fun a b d os => Calls.regrown_of (hL a b («Sort».grow (redrawn V d) os))
  have cR := fun a b d os => Calls.regrown_of (hR a b («Sort».grow (redrawn V d) os))
  have cA := fun d os => Calls.regrown_of (awake_any («Sort».grow (redrawn V d) os) (hG.next (hba.trans ((below_regrown V d os).mono hba.size))))
  clear k0 k1 hL hR
  refine wp_region_quiet_below (by kernel_rfl) (by kernel_rfl) ?_
  repeat (go_big_quiet_step ((first | exact cL _ _ _ _ | exact cR _ _ _ _ | exact cA _ _)))
  refine wpQuiet_nil ?_
  intro _ hw'
  obtain ⟨⟨dq, osq⟩, hw''⟩ := hw'
  subst hw''
  go_wp2
  go_ret
  exact ⟨rfl, hba.trans ((below_regrown V dq osq).mono hba.size)⟩

end Go.Proofs.YtoncdnelacolaaaGreatDoor.Ar
