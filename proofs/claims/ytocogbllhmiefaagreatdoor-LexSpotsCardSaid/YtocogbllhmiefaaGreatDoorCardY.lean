/- An argument that is a line and a column by value, opened. -/
import Derived.Test.YtocogbllhmiefaaGreatDoorCardS
import Derived.Lib.SmallJoins
namespace Go.Proofs.YtocogbllhmiefaaGreatDoor.Lx
open Go Go.Proofs Go.RowKit Go.ChangeShapes Go.WideShapes Go.ChangeAt Go.WideMaps Go.WideElems Go.Deep

theorem spt_fields : Tryz.prog.underlying 23 = some (.struct #[⟨"Line", 3, 0, false, "", "", 0⟩, ⟨"Column", 3, 1, false, "", "", 8⟩]) := by kernel_rfl
theorem spt_one : oneCellFields Tryz.prog #[⟨"Line", 3, 0, false, "", "", 0⟩, ⟨"Column", 3, 1, false, "", "", 8⟩] = true := by kernel_rfl
theorem spt_cells : Tryz.prog.cellsOf 23 = 2 := by kernel_rfl
theorem int_top {n : Int} (h : (Lit.int .i64 n).wf = true) : n < 9223372036854775808 := by
  unfold Lit.wf at h
  rw [Bool.and_eq_true] at h
  exact Int.lt_of_le_of_lt (of_decide_eq_true h.2) (by decide)

set_option maxRecDepth 10000 in
/-- An argument that is a line and a column. -/
theorem open_spt {H : Type} {enc : TypeId × Value → H} {W : World} {base : Nat} {v : Value} {d : DataW H} {p : List MemPlace} (hv : Value.okWide Tryz.prog W .any base 23 v)
    (h : DataW.Trod enc Tryz.prog W 0 (fun _ => true) true 23 v d p) :
    ∃ l c : Int, v = .agg #[.int .i64 l, .int .i64 c] ∧ p = [] ∧ c < 9223372036854775808 ∧ ∀ {W' : World}, Below W.heap.size W W' → ∀ sp : Nat → Bool, DataW.Trod enc Tryz.prog W' 0 sp true 23 v d [] := by
  have hst := fun (W' : World) (hb : Below W.heap.size W W') (sp : Nat → Bool) (hp : p = []) => stays (by kernel_rfl) (of_decide_eq_true (by kernel_rfl)) h hb (by rw [hp]; intro x hx; cases hx) sp (by rw [hp]; intro x hx; cases hx)
  obtain ⟨c0, c1, y0, y1, n, rfl, rfl, hp, t0, t1⟩ := Go.Joins.open_agg2 spt_fields spt_one spt_cells hv h
  obtain ⟨n0, e0, r0, _⟩ := DataW.trod_int Tryz.underlying3 t0
  obtain ⟨n1, e1, r1, w1⟩ := DataW.trod_int Tryz.underlying3 t1
  obtain rfl : c0 = .int .i64 n0 := by simpa using e0
  obtain rfl : c1 = .int .i64 n1 := by simpa using e1
  have hp0 : p = [] := by rw [hp, r0, r1]; rfl
  refine ⟨n0, n1, rfl, hp0, int_top w1, fun {W'} hb sp => ?_⟩
  have hh := hst W' hb sp hp0
  rw [hp0] at hh
  exact hh

end Go.Proofs.YtocogbllhmiefaaGreatDoor.Lx
