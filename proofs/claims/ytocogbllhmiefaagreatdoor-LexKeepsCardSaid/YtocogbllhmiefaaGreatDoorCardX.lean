/- An argument that is a splice by value, opened. -/
import Derived.Test.YtocogbllhmiefaaGreatDoorCardS
import Derived.Lib.SmallJoins
namespace Go.Proofs.YtocogbllhmiefaaGreatDoor.Lx
open Go Go.Proofs Go.RowKit Go.ChangeShapes Go.WideShapes Go.ChangeAt Go.WideMaps Go.WideElems Go.Deep

theorem spv_fields : Tryz.prog.underlying 40 = some (.struct #[⟨"From", 3, 0, false, "", "", 0⟩, ⟨"To", 3, 1, false, "", "", 8⟩, ⟨"Text", 9, 2, false, "", "", 16⟩]) := by kernel_rfl
theorem spv_one : oneCellFields Tryz.prog #[⟨"From", 3, 0, false, "", "", 0⟩, ⟨"To", 3, 1, false, "", "", 8⟩, ⟨"Text", 9, 2, false, "", "", 16⟩] = true := by kernel_rfl

set_option maxRecDepth 10000 in
/-- An argument that is a splice. -/
theorem open_spv {H : Type} {enc : TypeId × Value → H} {W : World} {base : Nat} {v : Value} {d : DataW H} {p : List MemPlace} (hv : Value.okWide Tryz.prog W .any base 40 v)
    (h : DataW.Trod enc Tryz.prog W 0 (fun _ => true) true 40 v d p) :
    ∃ x : Sp, v = .agg #[.int .i64 x.lo, .int .i64 x.hi, .string x.text] ∧ p = [] ∧ ∀ {W' : World}, Below W.heap.size W W' → ∀ sp : Nat → Bool, DataW.Trod enc Tryz.prog W' 0 sp true 40 v d [] := by
  have hst := fun (W' : World) (hb : Below W.heap.size W W') (sp : Nat → Bool) (hp : p = []) => stays (by kernel_rfl) (of_decide_eq_true (by kernel_rfl)) h hb (by rw [hp]; intro x hx; cases hx) sp (by rw [hp]; intro x hx; cases hx)
  obtain ⟨c0, c1, c2, y0, y1, y2, n, rfl, rfl, hp, t0, t1, t2⟩ := Go.Joins.open_agg3 spv_fields spv_one sp_cells hv h
  obtain ⟨n0, e0, r0, _⟩ := DataW.trod_int Tryz.underlying3 t0
  obtain ⟨n1, e1, r1, _⟩ := DataW.trod_int Tryz.underlying3 t1
  obtain ⟨s2, e2, r2, _⟩ := DataW.trod_string Tryz.underlying9 t2
  obtain rfl : c0 = .int .i64 n0 := by simpa using e0
  obtain rfl : c1 = .int .i64 n1 := by simpa using e1
  obtain rfl : c2 = .string s2 := by simpa using e2
  have hp0 : p = [] := by rw [hp, r0, r1, r2]; rfl
  refine ⟨⟨n0, n1, s2⟩, rfl, hp0, fun {W'} hb sp => ?_⟩
  have hh := hst W' hb sp hp0
  rw [hp0] at hh
  exact hh

end Go.Proofs.YtocogbllhmiefaaGreatDoor.Lx
