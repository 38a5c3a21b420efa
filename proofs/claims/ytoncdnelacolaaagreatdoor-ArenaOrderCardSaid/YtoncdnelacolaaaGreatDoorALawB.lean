/- ArenaOrder: of two different moves just one comes before the other one, and so with three. -/
import Derived.Test.YtoncdnelacolaaaGreatDoorALawA
import Derived.Test.YtoncdnelacolaaaGreatDoorAWalkF
namespace Go.Proofs.YtoncdnelacolaaaGreatDoor.Ar
open Go Go.Proofs Go.RowKit Go.Sort Lx Ps

theorem lessM_iff (x y : Mv) : lessM x y = true ↔ x.id < y.id ∨ (x.id = y.id ∧ (x.arg < y.arg ∨ (x.arg = y.arg ∧ (x.kind < y.kind ∨ (x.kind = y.kind ∧ x.n < y.n))))) := by
  unfold lessM
  split
  · rw [decide_eq_true_eq]; omega
  · split
    · rw [decide_eq_true_eq]; omega
    · split
      · rw [decide_eq_true_eq]; omega
      · rw [decide_eq_true_eq]; omega
theorem lessM_asymm (x y : Mv) : (lessM x y && lessM y x) = false := by
  rw [Bool.eq_false_iff]
  intro h
  rw [Bool.and_eq_true, lessM_iff, lessM_iff] at h
  omega
theorem sameMv_and (x y : Mv) : sameMv x y = true ↔ x.id = y.id ∧ x.arg = y.arg ∧ x.kind = y.kind ∧ x.n = y.n := by
  unfold sameMv
  simp only [Bool.and_eq_true, beq_iff_eq]
theorem lessM_same (x y : Mv) : sameMv x y = (!lessM x y && !lessM y x) := by
  rw [Bool.eq_iff_iff, Bool.and_eq_true, Bool.not_eq_true', Bool.not_eq_true', Bool.eq_false_iff, Bool.eq_false_iff, Ne, Ne, lessM_iff, lessM_iff, sameMv_and]
  omega
theorem lessM_trans (x y z : Mv) (h1 : lessM x y = true) (h2 : lessM y z = true) : lessM x z = true := by
  rw [lessM_iff] at *
  omega

set_option maxRecDepth 100000 in
set_option maxHeartbeats 1000000 in
theorem arenaOrder_any (x y z : Mv) (w : World) (hG : Ga w) :
    Calls Tryz.prog 13 #[.agg #[.int .i64 x.id, .int .i64 x.arg, .int .u8 (x.kind : Int), .int .i64 x.n, .int .i64 y.id, .int .i64 y.arg, .int .u8 (y.kind : Int), .int .i64 y.n, .int .i64 z.id, .int .i64 z.arg, .int .u8 (z.kind : Int), .int .i64 z.n]] w fun e w' => e = .returned (.bool true) ∧ Below w.heap.size w w' := by
  have k0 := heap_alloc_new w (.cells #[.int .i64 x.id, .int .i64 x.arg, .int .u8 (x.kind : Int), .int .i64 x.n, .int .i64 y.id, .int .i64 y.arg, .int .u8 (y.kind : Int), .int .i64 y.n, .int .i64 z.id, .int .i64 z.arg, .int .u8 (z.kind : Int), .int .i64 z.n] 72)
  have hba : Below w.heap.size w (w.alloc (.cells #[.int .i64 x.id, .int .i64 x.arg, .int .u8 (x.kind : Int), .int .i64 x.n, .int .i64 y.id, .int .i64 y.arg, .int .u8 (y.kind : Int), .int .i64 y.n, .int .i64 z.id, .int .i64 z.arg, .int .u8 (z.kind : Int), .int .i64 z.n] 72)) := (Below.refl _ _).alloc (Nat.le_refl _) _
  have hL := fun a b V => less_any a b V
  unfold mvV at *
  go_enter Tryz.func13, Tryz.ntmps13
  go_upto_region 1 with (fail)
  generalize w.alloc (.cells #[.int .i64 x.id, .int .i64 x.arg, .int .u8 (x.kind : Int), .int .i64 x.n, .int .i64 y.id, .int .i64 y.arg, .int .u8 (y.kind : Int), .int .i64 y.n, .int .i64 z.id, .int .i64 z.arg, .int .u8 (z.kind : Int), .int .i64 z.n] 72) = V at k0 hba ⊢
  have m0 := cell_regrown (v := .int .i64 x.id) (cell_of_row _ _ 0 _ _ _ k0)
  have m1 := cell_regrown (v := .int .i64 x.arg) (cell_of_row _ _ 1 _ _ _ k0)
  have m2 := cell_regrown (v := .int .u8 (x.kind : Int)) (cell_of_row _ _ 2 _ _ _ k0)
  have m3 := cell_regrown (v := .int .i64 x.n) (cell_of_row _ _ 3 _ _ _ k0)
  have m4 := cell_regrown (v := .int .i64 y.id) (cell_of_row _ _ 4 _ _ _ k0)
  have m5 := cell_regrown (v := .int .i64 y.arg) (cell_of_row _ _ 5 _ _ _ k0)
  have m6 := cell_regrown (v := .int .u8 (y.kind : Int)) (cell_of_row _ _ 6 _ _ _ k0)
  have m7 := cell_regrown (v := .int .i64 y.n) (cell_of_row _ _ 7 _ _ _ k0)
  have m8 := cell_regrown (v := .int .i64 z.id) (cell_of_row _ _ 8 _ _ _ k0)
  have m9 := cell_regrown (v := .int .i64 z.arg) (cell_of_row _ _ 9 _ _ _ k0)
  have m10 := cell_regrown (v := .int .u8 (z.kind : Int)) (cell_of_row _ _ 10 _ _ _ k0)
  have m11 := cell_regrown (v := .int .i64 z.n) (cell_of_row _ _ 11 _ _ _ k0)
  have cL := fun a b d os => Calls.regrown_of (hL a b («Sort».grow (redrawn V d) os))
  clear k0 hL
  refine wp_region_quiet_below (by kernel_rfl) (by kernel_rfl) ?_
  repeat (go_big_quiet_step ((first | exact cL _ _ _ _)))
  refine wpQuiet_nil ?_
  intro _ hw'
  obtain ⟨⟨dq, osq⟩, hw''⟩ := hw'
  subst hw''
  have hbq := hba.trans ((below_regrown V dq osq).mono hba.size)
  have p0 := m0 dq osq
  have p1 := m1 dq osq
  have p2 := m2 dq osq
  have p3 := m3 dq osq
  have p4 := m4 dq osq
  have p5 := m5 dq osq
  have p6 := m6 dq osq
  have p7 := m7 dq osq
  generalize «Sort».grow (redrawn V dq) osq = U at *
  clear m0 m1 m2 m3 m4 m5 m6 m7 m8 m9 m10 m11 cL
  have hE : ∀ U : World, (Op.equalIn 10000 40 (.agg #[.int .i64 x.id, .int .i64 x.arg, .int .u8 (x.kind : Int), .int .i64 x.n]) (.agg #[.int .i64 y.id, .int .i64 y.arg, .int .u8 (y.kind : Int), .int .i64 y.n])).run Tryz.prog U = .ok (!lessM x y && !lessM y x) U := fun U => by rw [← lessM_same]; exact mv_equal x y U
  have hAW := awake_any U (hG.next hbq)
  have HAW := Lib.hid hAW
  have HAS := Lib.hid (lessM_asymm x y)
  have HTR := Lib.hid (lessM_trans x y z)
  clear hAW
  generalize lessM x y = ab at *
  generalize lessM y x = ba at *
  generalize lessM y z = bc at *
  generalize lessM x z = ac at *
  cases ab <;> cases ba <;> cases bc <;> cases ac
  all_goals first
    | (exfalso; have h := HAS.out; revert h; decide)
    | (exfalso; exact absurd (HTR.out rfl rfl) Bool.false_ne_true)
    | skip
  all_goals simp only [Bool.not_false, Bool.not_true, Bool.and_true, Bool.and_false] at hE
  all_goals (go_wp2_with (go_at_call 17; refine HAW.out.mono ?_; rintro e w9 ⟨rfl, hb9⟩))
  all_goals go_ret
  all_goals exact ⟨rfl, hbq.trans (hb9.mono hbq.size)⟩

end Go.Proofs.YtoncdnelacolaaaGreatDoor.Ar
