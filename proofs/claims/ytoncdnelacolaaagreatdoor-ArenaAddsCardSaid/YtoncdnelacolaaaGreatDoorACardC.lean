/- An argument that is a slice of types, opened. -/
import Derived.Test.YtoncdnelacolaaaGreatDoorACardA
import Derived.Test.YtoncdnelacolaaaGreatDoorATextB
import Derived.Deep.Strs
import Derived.Test.YtoncdnelacolaaaGreatDoorALawD
namespace Go.Proofs.YtoncdnelacolaaaGreatDoor.Ar
open Go Go.Proofs Go.RowKit Go.ChangeShapes Go.WideShapes Go.ChangeAt Go.WideMaps Go.WideElems Go.Deep Lx

theorem mv_fields4 : Tryz.prog.underlying 40 = some (.struct #[⟨"Id", 3, 0, false, "", "", 0⟩, ⟨"Arg", 3, 1, false, "", "", 8⟩, ⟨"Kind", 5, 2, false, "", "", 16⟩, ⟨"N", 3, 3, false, "", "", 24⟩]) := by kernel_rfl
theorem mv_cells : Tryz.prog.cellsOf 40 = 4 := by kernel_rfl
theorem u8_cells : Tryz.prog.cellsOf 5 = 1 := by kernel_rfl

section
variable {H : Type} {enc : TypeId × Value → H} {W : World} {fuel : Nat} {cs : List Value} {x : DataW H × List MemPlace}

theorem wf_i64 {n : Int} (h : (Lit.int .i64 n).wf = true) : -9223372036854775808 ≤ n ∧ n ≤ 9223372036854775807 := by
  unfold Lit.wf at h
  rw [Bool.and_eq_true, decide_eq_true_eq, decide_eq_true_eq] at h
  exact h
theorem wf_u8 {n : Int} (h : (Lit.int .u8 n).wf = true) : 0 ≤ n ∧ n < 256 := by
  unfold Lit.wf at h
  rw [Bool.and_eq_true, decide_eq_true_eq, decide_eq_true_eq] at h
  obtain ⟨h1, h2⟩ := h
  have e1 : IntKind.u8.min = 0 := rfl
  have e2 : IntKind.u8.max = 255 := rfl
  omega

set_option maxRecDepth 100000 in
/-- A move that is read. -/
theorem read_mv (h : DataW.trod enc Tryz.prog W 0 (fun _ => true) true fuel 40 cs = some x) : ∃ m : Mv, cs = [.int .i64 m.id, .int .i64 m.arg, .int .u8 (m.kind : Int), .int .i64 m.n] ∧ MvOk m := by
  obtain ⟨y0, y1, y2, y3, n, hx, hl, h0, h1, h2, h3⟩ := Go.Joins.trod_struct4 mv_fields4 h
  rw [mv_cells] at hl
  match cs, hl with
  | [c0, c1, c2, c3], _ =>
    simp only [int_cells, u8_cells, List.drop_zero, List.take_succ_cons, List.take_zero, List.drop_succ_cons] at h0 h1 h2 h3
    obtain ⟨a, e0, _, w0⟩ := DataW.trod_int Tryz.underlying3 h0
    obtain ⟨b, e1, _, w1⟩ := DataW.trod_int Tryz.underlying3 h1
    obtain ⟨c, e2, _, w2⟩ := DataW.trod_int Tryz.underlying5 h2
    obtain ⟨d, e3, _, w3⟩ := DataW.trod_int Tryz.underlying3 h3
    have i0 := wf_i64 w0
    have i1 := wf_i64 w1
    have i2 := wf_u8 w2
    have i3 := wf_i64 w3
    refine ⟨⟨a, b, c.toNat, d⟩, ?_, ⟨i0.1, i0.2, i1.1, i1.2, by show c.toNat < 256; omega, i3.1, i3.2⟩⟩
    simp at e0 e1 e2 e3
    show _ = [Value.int .i64 a, .int .i64 b, .int .u8 ((c.toNat : Nat) : Int), .int .i64 d]
    rw [e0, e1, e2, e3, Int.toNat_of_nonneg i2.1]
end

set_option maxRecDepth 100000 in
/-- An argument that is a move. -/
theorem open_mv {H : Type} {enc : TypeId × Value → H} {W : World} {base : Nat} {v : Value} {d : DataW H} {p : List MemPlace} (hv : Value.okWide Tryz.prog W .any base 40 v)
    (h : DataW.Trod enc Tryz.prog W 0 (fun _ => true) true 40 v d p) : ∃ m : Mv, v = mvV m ∧ MvOk m := by
  obtain ⟨cs, rfl, hsz⟩ := okWide_struct mv_fields4 hv
  obtain ⟨fuel, hf⟩ := h
  obtain ⟨m, he, hm⟩ := read_mv hf
  refine ⟨m, ?_, hm⟩
  have : cs = #[.int .i64 m.id, .int .i64 m.arg, .int .u8 (m.kind : Int), .int .i64 m.n] := by
    apply Array.ext'
    exact he
  rw [this]; rfl

theorem th_fields : Tryz.prog.underlying 72 = some (.struct #[⟨"A", 40, 0, false, "", "", 0⟩, ⟨"B", 40, 4, false, "", "", 32⟩, ⟨"C", 40, 8, false, "", "", 64⟩]) := by kernel_rfl

set_option maxRecDepth 100000 in
/-- An argument that is three moves. -/
theorem open_th {H : Type} {enc : TypeId × Value → H} {W : World} {base : Nat} {v : Value} {d : DataW H} {p : List MemPlace} (hv : Value.okWide Tryz.prog W .any base 72 v)
    (h : DataW.Trod enc Tryz.prog W 0 (fun _ => true) true 72 v d p) :
    ∃ x y z : Mv, v = .agg #[.int .i64 x.id, .int .i64 x.arg, .int .u8 (x.kind : Int), .int .i64 x.n, .int .i64 y.id, .int .i64 y.arg, .int .u8 (y.kind : Int), .int .i64 y.n, .int .i64 z.id, .int .i64 z.arg, .int .u8 (z.kind : Int), .int .i64 z.n] := by
  obtain ⟨cs, rfl, hsz⟩ := okWide_struct th_fields hv
  have hc : Tryz.prog.cellsOf 72 = 12 := by kernel_rfl
  rw [hc] at hsz
  obtain ⟨fuel, hf⟩ := h
  obtain ⟨y0, y1, y2, n, hx, _, h0, h1, h2⟩ := trod_struct3 th_fields hf
  obtain ⟨x, e0, _⟩ := read_mv h0
  obtain ⟨y, e1, _⟩ := read_mv h1
  obtain ⟨z, e2, _⟩ := read_mv h2
  refine ⟨x, y, z, ?_⟩
  rw [mv_cells] at e0 e1 e2
  have e0' : (cs.toList.drop 0).take 4 = _ := e0
  have e1' : (cs.toList.drop 4).take 4 = _ := e1
  have e2' : (cs.toList.drop 8).take 4 = _ := e2
  have hl : cs.toList.length = 12 := by simpa using hsz
  have : cs.toList = (cs.toList.drop 0).take 4 ++ ((cs.toList.drop 4).take 4 ++ (cs.toList.drop 8).take 4) := by
    have a1 : cs.toList.drop 8 = (cs.toList.drop 8).take 4 := by rw [List.take_of_length_le]; rw [List.length_drop]; omega
    have a2 : cs.toList.drop 4 = (cs.toList.drop 4).take 4 ++ cs.toList.drop 8 := by
      have := (List.take_append_drop 4 (cs.toList.drop 4)).symm
      rw [List.drop_drop] at this
      exact this
    rw [← a1, ← a2]
    have := (List.take_append_drop 4 cs.toList).symm
    rw [List.drop_zero]
    exact this
  rw [e0', e1', e2'] at this
  have h3 : cs = #[.int .i64 x.id, .int .i64 x.arg, .int .u8 (x.kind : Int), .int .i64 x.n, .int .i64 y.id, .int .i64 y.arg, .int .u8 (y.kind : Int), .int .i64 y.n, .int .i64 z.id, .int .i64 z.arg, .int .u8 (z.kind : Int), .int .i64 z.n] := by
    apply Array.ext'
    exact this
  rw [h3]

theorem pr_fields : Tryz.prog.underlying 46 = some (.struct #[⟨"Id", 3, 0, false, "", "", 0⟩, ⟨"Arg", 3, 1, false, "", "", 8⟩]) := by kernel_rfl
theorem pr_one : oneCellFields Tryz.prog #[⟨"Id", 3, 0, false, "", "", 0⟩, ⟨"Arg", 3, 1, false, "", "", 8⟩] = true := by kernel_rfl
theorem pr_cells : Tryz.prog.cellsOf 46 = 2 := by kernel_rfl
set_option maxRecDepth 100000 in
/-- An argument that is a pair of numbers. -/
theorem open_pr {H : Type} {enc : TypeId × Value → H} {W : World} {base : Nat} {v : Value} {d : DataW H} {p : List MemPlace} (hv : Value.okWide Tryz.prog W .any base 46 v)
    (h : DataW.Trod enc Tryz.prog W 0 (fun _ => true) true 46 v d p) : ∃ m n : Int, v = .agg #[.int .i64 m, .int .i64 n] := by
  obtain ⟨c0, c1, y0, y1, n, rfl, _, _, h0, h1⟩ := Go.Joins.open_agg2 pr_fields pr_one pr_cells hv h
  obtain ⟨a, e0, _, _⟩ := DataW.trod_int Tryz.underlying3 h0
  obtain ⟨b, e1, _, _⟩ := DataW.trod_int Tryz.underlying3 h1
  simp at e0 e1
  exact ⟨a, b, by rw [e0, e1]⟩

end Go.Proofs.YtoncdnelacolaaaGreatDoor.Ar

namespace Go.Proofs.YtoncdnelacolaaaGreatDoor.Ar
open Go Go.Proofs Go.RowKit Go.ChangeShapes Go.WideShapes Go.ChangeAt Go.WideMaps Go.WideElems Go.Deep Lx

set_option maxRecDepth 100000 in
/-- An argument that is a slice of types. -/
theorem open_tys {H : Type} {enc : TypeId × Value → H} {W : World} {base : Nat} {v : Value} {d : DataW H} {p : List MemPlace} (hv : Value.okWide Tryz.prog W .any base 22 v)
    (h : DataW.Trod enc Tryz.prog W 0 (fun _ => true) true 22 v d p) (hw : (d.weights Tryz.prog 22).all (· ≤ reachBytes) = true) : ∃ l : List Ty, ArIn W v (arL l) := by
  obtain ⟨a0, n0, c0, rfl⟩ := okWide_slice under_tys hv
  obtain ⟨fuel, hf⟩ := h
  obtain ⟨u, l, e, hs, hl, hls⟩ := read_tys hf hw
  have e2 : Value.slice a0 n0 c0 = u := by simpa [Value.cells] using e
  rw [e2]
  exact ⟨l, hs, hl, hls⟩

end Go.Proofs.YtoncdnelacolaaaGreatDoor.Ar
