/- Is a move one of a place? -/
import Derived.Test.YtoncdnelacolaaaGreatDoorAWalkE
import Derived.Lib.QuietBelow
namespace Go.Proofs.YtoncdnelacolaaaGreatDoor.Ar
open Go Go.Proofs Go.RowKit Go.Sort Lx Ps

/-- Two moves are the same, as the model reckons it. -/
def sameMv (x y : Mv) : Bool := (x.id == y.id) && ((x.arg == y.arg) && ((x.kind == y.kind) && (x.n == y.n)))
theorem sameMv_iff (x y : Mv) : sameMv x y = true ↔ x = y := by
  obtain ⟨a, b, c, d⟩ := x
  obtain ⟨a', b', c', d'⟩ := y
  simp [sameMv]
theorem mv_fields : Tryz.prog.underlying 40 = some (.struct (Tryz.prog.fieldsOf 40)) := by kernel_rfl
theorem mv_stood : Tryz.prog.stoodInHeld 40 = false := by kernel_rfl
theorem mv_list : (Tryz.prog.fieldsOf 40).toList = [⟨"Id", 3, 0, false, "", "", 0⟩, ⟨"Arg", 3, 1, false, "", "", 8⟩, ⟨"Kind", 5, 2, false, "", "", 16⟩, ⟨"N", 3, 3, false, "", "", 24⟩] := by kernel_rfl
theorem mv_equal (x y : Mv) (W : World) : (Op.equalIn 10000 40 (.agg #[.int .i64 x.id, .int .i64 x.arg, .int .u8 (x.kind : Int), .int .i64 x.n]) (.agg #[.int .i64 y.id, .int .i64 y.arg, .int .u8 (y.kind : Int), .int .i64 y.n])).run Tryz.prog W = .ok (sameMv x y) W := by
  rw [run_equalIn_agg W 9999 _ _ _ mv_fields mv_stood, mv_list]
  have u5 : Tryz.prog.underlying 5 = some (.int .u8) := Tryz.underlying5
  have u3 : Tryz.prog.underlying 3 = some (.int .i64) := Tryz.underlying3
  simp [Op.eqFields, go_sem, sameMv]
  by_cases h1 : x.id = y.id <;> by_cases h2 : x.arg = y.arg <;> by_cases h3 : x.kind = y.kind <;> by_cases h4 : x.n = y.n <;> simp [h1, h2, h3, h4]
  all_goals first | done | (simp [show ¬ ((x.kind : Int) = (y.kind : Int)) from by omega]; first | assumption | omega)

/-- The test, decided: m == ask, m == put, m == tell; a cell, a value, jumps, Esc. -/
inductive HasCase (A Pu T c v j s : Bool) : Bool → Prop where
  | ask (h1 : A = true) : HasCase A Pu T c v j s true
  | put (h1 : A = false) (h2 : Pu = true) (h3 : c = true) (h4 : v = true) : HasCase A Pu T c v j s true
  | putNo (h1 : A = false) (h2 : Pu = true) (h3 : c = true) (h4 : v = false) (h5 : T = false) : HasCase A Pu T c v j s false
  | putNone (h1 : A = false) (h2 : Pu = true) (h3 : c = false) (h5 : T = false) : HasCase A Pu T c v j s false
  | none (h1 : A = false) (h2 : Pu = false) (h5 : T = false) : HasCase A Pu T c v j s false
  | tell (h1 : A = false) (h2 : Pu = false) (h5 : T = true) (h4 : v = true) : HasCase A Pu T c v j s true
  | tellNo (h1 : A = false) (h2 : Pu = false) (h5 : T = true) (h4 : v = false) (h6 : j = false) : HasCase A Pu T c v j s false
  | esc (h1 : A = false) (h2 : Pu = false) (h5 : T = true) (h4 : v = false) (h6 : j = true) : HasCase A Pu T c v j s s
theorem hasCase (p : Pl) (m : Mv) (hid : m.id = p.id) (harg : m.arg = p.arg) :
    HasCase (sameMv m ⟨p.id, p.arg, 1, 0⟩) (sameMv m ⟨p.id, p.arg, 2, m.n⟩) (sameMv m ⟨p.id, p.arg, 3, m.n⟩) p.base.cell (isValP p m.n) p.jumps (decide (m.n = -1)) (hasP p m) := by
  have eA : sameMv m ⟨p.id, p.arg, 1, 0⟩ = (m.kind == 1 && decide (m.n = 0)) := by simp [sameMv, hid, harg]; rw [Bool.eq_iff_iff]; simp
  have eP : sameMv m ⟨p.id, p.arg, 2, m.n⟩ = (m.kind == 2) := by simp [sameMv, hid, harg]
  have eT : sameMv m ⟨p.id, p.arg, 3, m.n⟩ = (m.kind == 3) := by simp [sameMv, hid, harg]
  have eH : hasP p m = ((m.kind == 1 && decide (m.n = 0)) || (m.kind == 2 && p.base.cell && isValP p m.n) || (m.kind == 3 && (isValP p m.n || (p.jumps && decide (m.n = -1))))) := rfl
  rw [eA, eP, eT, eH]
  by_cases k1 : m.kind = 1
  · have e1 : (m.kind == 1) = true := by simp [k1]
    have e2 : (m.kind == 2) = false := by simp [k1]
    have e3 : (m.kind == 3) = false := by simp [k1]
    rw [e1, e2, e3]
    cases hn : decide (m.n = 0)
    · exact .none rfl rfl rfl
    · exact .ask rfl
  · have e1 : (m.kind == 1) = false := by simp [k1]
    rw [e1]
    by_cases k2 : m.kind = 2
    · have e2 : (m.kind == 2) = true := by simp [k2]
      have e3 : (m.kind == 3) = false := by simp [k2]
      rw [e2, e3]
      cases hc : p.base.cell
      · exact .putNone rfl rfl rfl rfl
      · cases hv : isValP p m.n
        · exact .putNo rfl rfl rfl rfl rfl
        · exact .put rfl rfl rfl rfl
    · have e2 : (m.kind == 2) = false := by simp [k2]
      rw [e2]
      by_cases k3 : m.kind = 3
      · have e3 : (m.kind == 3) = true := by simp [k3]
        rw [e3]
        cases hv : isValP p m.n
        · cases hj : p.jumps
          · exact .tellNo rfl rfl rfl rfl rfl
          · exact .esc rfl rfl rfl rfl rfl
        · exact .tell rfl rfl rfl rfl
      · have e3 : (m.kind == 3) = false := by simp [k3]
        rw [e3]
        exact .none rfl rfl rfl

set_option maxRecDepth 100000 in
set_option maxHeartbeats 8000000 in
theorem has_any (p : Pl) (m : Mv) (w : World) (hid : m.id = p.id) (harg : m.arg = p.arg) :
    Calls Tryz.prog 71 #[plV p, mvV m] w fun r w' => r = .returned (.bool (hasP p m)) ∧ Below w.heap.size w w' := by
  have hcs := hasCase p m hid harg
  have qA := fun W => ask_any p W
  have qP := fun W => put_any p m.n W
  have qT := fun W => tell_any p m.n W
  have qV := fun W => isVal_any p m.n W
  have rA : ∀ W : World, (Op.equalIn 10000 40 (.agg #[.int .i64 m.id, .int .i64 m.arg, .int .u8 (m.kind : Int), .int .i64 m.n]) (.agg #[.int .i64 (p.id : Int), .int .i64 (p.arg : Int), .int .u8 1, .int .i64 0])).run Tryz.prog W = .ok (sameMv m ⟨p.id, p.arg, 1, 0⟩) W := fun W => mv_equal m ⟨p.id, p.arg, 1, 0⟩ W
  have rP : ∀ W : World, (Op.equalIn 10000 40 (.agg #[.int .i64 m.id, .int .i64 m.arg, .int .u8 (m.kind : Int), .int .i64 m.n]) (.agg #[.int .i64 (p.id : Int), .int .i64 (p.arg : Int), .int .u8 2, .int .i64 m.n])).run Tryz.prog W = .ok (sameMv m ⟨p.id, p.arg, 2, m.n⟩) W := fun W => mv_equal m ⟨p.id, p.arg, 2, m.n⟩ W
  have rT : ∀ W : World, (Op.equalIn 10000 40 (.agg #[.int .i64 m.id, .int .i64 m.arg, .int .u8 (m.kind : Int), .int .i64 m.n]) (.agg #[.int .i64 (p.id : Int), .int .i64 (p.arg : Int), .int .u8 3, .int .i64 m.n])).run Tryz.prog W = .ok (sameMv m ⟨p.id, p.arg, 3, m.n⟩) W := fun W => mv_equal m ⟨p.id, p.arg, 3, m.n⟩ W
  clear hid harg
  generalize sameMv m ⟨p.id, p.arg, 1, 0⟩ = bA at *
  generalize sameMv m ⟨p.id, p.arg, 2, m.n⟩ = bP at *
  generalize sameMv m ⟨p.id, p.arg, 3, m.n⟩ = bT at *
  generalize isValP p m.n = bV at *
  generalize hasP p m = R at *
  obtain ⟨⟨pc, pn⟩, pid, parg, pj⟩ := p
  obtain ⟨mid, marg, mk, mn⟩ := m
  dsimp only at *
  simp only [plV, mvV] at *
  have hb2 : Below w.heap.size w ((w.alloc (.cells #[.bool pc, .int .i64 pn, .int .i64 (pid : Int), .int .i64 (parg : Int), .bool pj] 85)).alloc (.cells #[.int .i64 mid, .int .i64 marg, .int .u8 (mk : Int), .int .i64 mn] 40)) := below_two
  have f0 := heap_alloc_new w (.cells #[.bool pc, .int .i64 pn, .int .i64 (pid : Int), .int .i64 (parg : Int), .bool pj] 85)
  have f1 := (Below.heap_alloc (w.alloc (.cells #[.bool pc, .int .i64 pn, .int .i64 (pid : Int), .int .i64 (parg : Int), .bool pj] 85)) (.cells #[.int .i64 mid, .int .i64 marg, .int .u8 (mk : Int), .int .i64 mn] 40) w.heap.size (by simp)).trans f0
  have f2 := heap_alloc_new (w.alloc (.cells #[.bool pc, .int .i64 pn, .int .i64 (pid : Int), .int .i64 (parg : Int), .bool pj] 85)) (.cells #[.int .i64 mid, .int .i64 marg, .int .u8 (mk : Int), .int .i64 mn] 40)
  rw [alloc_sz2] at f2
  have hnn : (mn == -1) = decide (mn = -1) := by rw [Bool.eq_iff_iff]; simp
  cases hcs
  all_goals
    subst_vars
    go_enter Tryz.func71, Tryz.ntmps71
    go_wp2
    generalize ((w.alloc (.cells #[.bool _, .int .i64 pn, .int .i64 (pid : Int), .int .i64 (parg : Int), .bool _] 85)).alloc (.cells #[.int .i64 mid, .int .i64 marg, .int .u8 (mk : Int), .int .i64 mn] 40)) = W at *
    have k0 := cell_regrown (cell_of_row _ _ 0 _ _ _ f1)
    have k1 := cell_regrown (v := .int .i64 pn) (cell_of_row _ _ 1 _ _ _ f1)
    have k2 := cell_regrown (v := .int .i64 (pid : Int)) (cell_of_row _ _ 2 _ _ _ f1)
    have k3 := cell_regrown (v := .int .i64 (parg : Int)) (cell_of_row _ _ 3 _ _ _ f1)
    have k4 := cell_regrown (cell_of_row _ _ 4 _ _ _ f1)
    have m0 := cell_regrown (v := .int .i64 mid) (cell_of_row _ _ 0 _ _ _ f2)
    have m1 := cell_regrown (v := .int .i64 marg) (cell_of_row _ _ 1 _ _ _ f2)
    have m2 := cell_regrown (v := .int .u8 (mk : Int)) (cell_of_row _ _ 2 _ _ _ f2)
    have m3 := cell_regrown (v := .int .i64 mn) (cell_of_row _ _ 3 _ _ _ f2)
    have cA := fun d os => Calls.regrown_of (qA (grow (redrawn W d) os))
    have cP := fun d os => Calls.regrown_of (qP (grow (redrawn W d) os))
    have cT := fun d os => Calls.regrown_of (qT (grow (redrawn W d) os))
    have cV := fun d os => Calls.regrown_of (qV (grow (redrawn W d) os))
    refine wp_region_quiet_below (by kernel_rfl) (by kernel_rfl) ?_
    repeat (go_big_quiet_step ((first | exact cA _ _ | exact cP _ _ | exact cT _ _ | exact cV _ _)))
    refine wpQuiet_nil ?_
    intro _ hw'
    obtain ⟨⟨dq, osq⟩, hw''⟩ := hw'
    subst hw''
    go_wp2
    go_ret
    exact ⟨by first | rfl | (rw [← hnn]), hb2.trans ((below_regrown W dq osq).mono hb2.size)⟩

end Go.Proofs.YtoncdnelacolaaaGreatDoor.Ar
