/- Arguments that are moves, three moves, pairs of numbers, opened. -/
import Derived.Test.YtoncdnelacolaaaGreatDoorTie
import Derived.Test.YtoncdnelacolaaaGreatDoorAOpen
import Derived.Test.YtoncdnelacolaaaGreatDoorAText
import Derived.SevenTiedAt
import Derived.HandedShaped
import Derived.Shelf.Vars
import Derived.Lay
import Derived.Test.YtoncdnelacolaaaGreatDoorATextC
import Derived.Deep.Strs
namespace Go.Proofs.YtoncdnelacolaaaGreatDoor.Ar
open Go Go.Proofs Go.RowKit Go.ChangeShapes Go.WideShapes Go.ChangeAt Go.WideMaps Go.WideElems Lx

theorem own_knob : ownKnob Tryz.prog.godebug = none := by kernel_rfl
theorem gErrRange : Tryz.prog.globalNamed "strconv.ErrRange" = some 3 := by kernel_rfl
theorem gErrSyntax : Tryz.prog.globalNamed "strconv.ErrSyntax" = some 2 := by kernel_rfl
theorem gBruijn : Tryz.prog.globalNamed "math/bits.deBruijn64tab" = some 7 := by kernel_rfl

/-- The listed variables of the rows. -/
def laidL : List (String × DataW Unit) := Rows.arenaLessRow.laid

theorem laid_drop {P : Program} {l : List (String × DataW Unit)} {w : World} (n : Nat) (h : laidMet P l w) : laidMet P (l.drop n) w := by
  induction n generalizing l with
  | zero => exact h
  | succ n ih =>
    cases l with
    | nil => exact h
    | cons x r => exact ih h.tail

theorem star_text : "*" ++ "errors.errorString" = "*errors.errorString" := by decide
theorem row_err (u : TypeId) (h : Tryz.prog.typeName? 3 u = some "*errors.errorString") : u = 209 :=
  typeName_ptr_named (nm := "errors.errorString") (by rw [star_text]; kernel_rfl) (by kernel_rfl) (by decide) u (by rw [star_text]; exact h)
theorem gErrType : (Tryz.prog.globals[3]?).map (·.type) = some 162 := by kernel_rfl
theorem gSynType : (Tryz.prog.globals[2]?).map (·.type) = some 162 := by kernel_rfl
theorem gPowType : (Tryz.prog.globals[1]?).map (·.type) = some 195 := by kernel_rfl
theorem err_cells : Tryz.prog.cellsOf 211 = 1 := by kernel_rfl
theorem str_cells : Tryz.prog.cellsOf 9 = 1 := by kernel_rfl
theorem pow_cells : Tryz.prog.cellsOf 195 = 20 := by kernel_rfl
theorem u64_cells : Tryz.prog.cellsOf 178 = 1 := by kernel_rfl

theorem size_of_var {W : World} {n : String} {g : Nat} {cs : Array Value} (hg : Tryz.prog.globalNamed n = some g) (h : W.var? Tryz.prog n = some cs) : g < W.heap.size := by
  unfold World.var? at h
  rw [hg] at h
  cases hw : W.heap[g]? with
  | none => simp [hw] at h
  | some o => exact (Array.getElem?_eq_some_iff.1 hw).1

theorem ga_of_laid {W : World} (hsh : W.ShapedOpen Tryz.prog) (h : laidMetH Tryz.prog laidL W) : Ga W := by
  rw [MakeChecks.laidMetH_plain _ _ _ (by kernel_rfl)] at h
  have h1 := laid_drop 1 h
  have h2 := laid_drop 2 h
  have h3 := laid_drop 3 h
  have h4 := laid_drop 4 h
  have e2 : laidL.drop 2 = ("internal/strconv.uint64pow10", Lib.tabData .u64 Lib.pow10Tab) :: laidL.drop 3 := by kernel_rfl
  rw [e2] at h2
  refine ⟨?_, Lib.tabIs_of_head global_pow gPowType Tryz.underlying195 Tryz.underlying178 u64_cells pow_cells h2, ?_, ?_, ?_⟩
  · obtain ⟨ps, ⟨g, t, cs, f, p, q, hg, _, hv, _, _⟩, _⟩ := h1
    have := size_of_var gBruijn hv
    trace_state
    omega
  · obtain ⟨a, s, hv, _, _, _⟩ := laid_sentinel h3 gErrRange gErrType Tryz.underlying162 row_err Tryz.underlying209 Tryz.underlying211 rfl rfl Tryz.underlying9 err_cells str_cells
    exact ⟨_, _, by have h0 := World.var?_cell gErrRange hv 0; simpa using h0⟩
  · obtain ⟨a, s, hv, _, _, _⟩ := laid_sentinel h4 gErrSyntax gSynType Tryz.underlying162 row_err Tryz.underlying209 Tryz.underlying211 rfl rfl Tryz.underlying9 err_cells str_cells
    exact ⟨_, _, by have h0 := World.var?_cell gErrSyntax hv 0; simpa using h0⟩
  · exact cell_of_shapedOpen_int (g := 0) (t := 3) (zero := #[.int .i64 0]) (k := .i64) hsh (of_decide_eq_true (by kernel_rfl)) (by kernel_rfl) rfl (by kernel_rfl) (by kernel_rfl) Tryz.underlying3

/-- The door's own heap meets the condition. -/
theorem door_met (os : Os) (args : Array Value) : laidMetH Tryz.prog laidL ((World.doorLaid Tryz.prog 400 os).forCall (fun _ _ => 0) ⟨#[], args, []⟩).memory :=
  laidMetH_of_parts3 (fuel := 8) (laidMet_of_run' 8 (by kernel_rfl) (by kernel_rfl)) (by kernel_rfl) (by kernel_rfl)

/-- A row's form from calls, where the world's shape is kept beside what the row's variables hold. -/
theorem handed_with_shape {H : Type} {enc : TypeId × Value → H} {C : Checked} {os : Os} {f : FuncId} {fn : Func} {s : ChangeSpec} {X : World → Array Value → Prop} (hX : ∀ (w w' : World) (args : Array Value), w.heap = w'.heap → X w args → X w' args)
    (own : ownKnob C.prog.godebug = none) (started : os.Started) (noInit : C.prog.inits.idxOf? f = none) (hfn : C.prog.funcs[f]? = some fn)
    (wit : ∃ (w : World) (tape : Tape) (i : Input), w.os = os ∧ (w.forCall tape i).Shaped C.prog ∧ i.vars = [] ∧ Input.okWide C.prog (w.forCall tape i) .any w.heap.size f i ∧
      ((s.pre enc C.prog fn [] false (w.forCall tape i).memory i.args ∧ X (w.forCall tape i).memory i.args) ∧ sizedMet enc C.prog fn (OpenSpec.ofChange s) false (w.forCall tape i).memory i.args) ∧ ({} : Assume).holds C.prog (lone (Frame.enter C.prog f i.args .normal) [] (w.forCall tape i)))
    (calls : ∀ (W : World) (base : Nat) (args : Array Value) (ds gs : List (DataW H)) (before : List MemPlace), (∀ (j : Nat) t v, fn.params[j]? = some t → args[j]? = some v → Value.okWide C.prog W .any base t v) →
      DataW.Whole enc C.prog fn.params.toList s.vars false W args.toList ds gs before → (DataW.weightsEach C.prog (fn.params.toList ++ s.plain.varTypes C.prog) (ds ++ gs)).all (· ≤ reachBytes) = true → W.ShapedOpen C.prog → X W args → Calls C.prog f args W fun e W' => ∃ v, e = .returned v ∧ s.post enc C.prog fn false true false false W args v W') :
    ReturnsInHanded {} C os f .any (fun w args => (s.pre enc C.prog fn [] false w args ∧ X w args) ∧ sizedMet enc C.prog fn (OpenSpec.ofChange s) false w args) (s.post enc C.prog fn false true false false) := by
  refine returnsInHanded_of_calls own started noInit wit fun w tape i _ hshape _ hok hpre _ => ?_
  obtain ⟨_, _, _, g, hg, _, _, _, _, hval⟩ := hok
  obtain rfl : g = fn := Option.some.inj (hg.symm.trans hfn)
  obtain ⟨⟨⟨ds, gs, before, hw, _⟩, hx⟩, hsz⟩ := hpre
  have hw' := DataW.Whole.of_heap (w' := w.forCall tape i) (by rfl) hw
  have hx' : X (w.forCall tape i) i.args := hX _ _ _ (by rfl) hx
  refine (calls (w.forCall tape i) w.heap.size i.args ds gs before hval hw' (hsz.weights hw) hshape hx').mono ?_
  rintro e W' ⟨v, rfl, hp⟩
  exact ChangeSpec.post_blind hp

end Go.Proofs.YtoncdnelacolaaaGreatDoor.Ar

namespace Go.Proofs.YtoncdnelacolaaaGreatDoor.Ar
open Go Go.Proofs Go.RowKit Go.ChangeShapes Go.WideShapes Go.ChangeAt Go.WideMaps Go.WideElems Go.Deep Lx

theorem mv_fields4 : Tryz.prog.underlying 40 = some (.struct #[⟨"Id", 3, 0, false, "", "", 0⟩, ⟨"Arg", 3, 1, false, "", "", 8⟩, ⟨"Kind", 5, 2, false, "", "", 16⟩, ⟨"N", 3, 3, false, "", "", 24⟩]) := by kernel_rfl
theorem mv_cells : Tryz.prog.cellsOf 40 = 4 := by kernel_rfl
theorem u8_cells : Tryz.prog.cellsOf 5 = 1 := by kernel_rfl

section
variable {H : Type} {enc : TypeId × Value → H} {W : World} {fuel : Nat} {cs : List Value} {x : DataW H × List MemPlace}

theorem wf_i64 {n : Int} (h : (Lit.int .i64 n).wf = true) : -9223372036854775808 ≤ n ∧ n ≤ 9223372036854775807 := by
  unfold Lit.wf at h
  rw [Bool.and_eq_true, decide_eq_true_eq, decide_eq_true_eq] at h
  exact h
theorem wf_u8 {n : Int} (h : (Lit.int .u8 n).wf = true) : 0 ≤ n ∧ n < 256 := by
  unfold Lit.wf at h
  rw [Bool.and_eq_true, decide_eq_true_eq, decide_eq_true_eq] at h
  obtain ⟨h1, h2⟩ := h
  have e1 : IntKind.u8.min = 0 := rfl
  have e2 : IntKind.u8.max = 255 := rfl
  omega

set_option maxRecDepth 100000 in
/-- A move that is read. -/
theorem read_mv (h : DataW.trod enc Tryz.prog W 0 (fun _ => true) true fuel 40 cs = some x) : ∃ m : Mv, cs = [.int .i64 m.id, .int .i64 m.arg, .int .u8 (m.kind : Int), .int .i64 m.n] ∧ MvOk m := by
  obtain ⟨y0, y1, y2, y3, n, hx, hl, h0, h1, h2, h3⟩ := Go.Joins.trod_struct4 mv_fields4 h
  rw [mv_cells] at hl
  match cs, hl with
  | [c0, c1, c2, c3], _ =>
    simp only [int_cells, u8_cells, List.drop_zero, List.take_succ_cons, List.take_zero, List.drop_succ_cons] at h0 h1 h2 h3
    obtain ⟨a, e0, _, w0⟩ := DataW.trod_int Tryz.underlying3 h0
    obtain ⟨b, e1, _, w1⟩ := DataW.trod_int Tryz.underlying3 h1
    obtain ⟨c, e2, _, w2⟩ := DataW.trod_int Tryz.underlying5 h2
    obtain ⟨d, e3, _, w3⟩ := DataW.trod_int Tryz.underlying3 h3
    have i0 := wf_i64 w0
    have i1 := wf_i64 w1
    have i2 := wf_u8 w2
    have i3 := wf_i64 w3
    refine ⟨⟨a, b, c.toNat, d⟩, ?_, ⟨i0.1, i0.2, i1.1, i1.2, by show c.toNat < 256; omega, i3.1, i3.2⟩⟩
    simp at e0 e1 e2 e3
    show _ = [Value.int .i64 a, .int .i64 b, .int .u8 ((c.toNat : Nat) : Int), .int .i64 d]
    rw [e0, e1, e2, e3, Int.toNat_of_nonneg i2.1]
end

set_option maxRecDepth 100000 in
/-- An argument that is a move. -/
theorem open_mv {H : Type} {enc : TypeId × Value → H} {W : World} {base : Nat} {v : Value} {d : DataW H} {p : List MemPlace} (hv : Value.okWide Tryz.prog W .any base 40 v)
    (h : DataW.Trod enc Tryz.prog W 0 (fun _ => true) true 40 v d p) : ∃ m : Mv, v = mvV m ∧ MvOk m := by
  obtain ⟨cs, rfl, hsz⟩ := okWide_struct mv_fields4 hv
  obtain ⟨fuel, hf⟩ := h
  obtain ⟨m, he, hm⟩ := read_mv hf
  refine ⟨m, ?_, hm⟩
  have : cs = #[.int .i64 m.id, .int .i64 m.arg, .int .u8 (m.kind : Int), .int .i64 m.n] := by
    apply Array.ext'
    exact he
  rw [this]; rfl

theorem th_fields : Tryz.prog.underlying 72 = some (.struct #[⟨"A", 40, 0, false, "", "", 0⟩, ⟨"B", 40, 4, false, "", "", 32⟩, ⟨"C", 40, 8, false, "", "", 64⟩]) := by kernel_rfl

set_option maxRecDepth 100000 in
/-- An argument that is three moves. -/
theorem open_th {H : Type} {enc : TypeId × Value → H} {W : World} {base : Nat} {v : Value} {d : DataW H} {p : List MemPlace} (hv : Value.okWide Tryz.prog W .any base 72 v)
    (h : DataW.Trod enc Tryz.prog W 0 (fun _ => true) true 72 v d p) :
    ∃ x y z : Mv, v = .agg #[.int .i64 x.id, .int .i64 x.arg, .int .u8 (x.kind : Int), .int .i64 x.n, .int .i64 y.id, .int .i64 y.arg, .int .u8 (y.kind : Int), .int .i64 y.n, .int .i64 z.id, .int .i64 z.arg, .int .u8 (z.kind : Int), .int .i64 z.n] := by
  obtain ⟨cs, rfl, hsz⟩ := okWide_struct th_fields hv
  have hc : Tryz.prog.cellsOf 72 = 12 := by kernel_rfl
  rw [hc] at hsz
  obtain ⟨fuel, hf⟩ := h
  obtain ⟨y0, y1, y2, n, hx, _, h0, h1, h2⟩ := trod_struct3 th_fields hf
  obtain ⟨x, e0, _⟩ := read_mv h0
  obtain ⟨y, e1, _⟩ := read_mv h1
  obtain ⟨z, e2, _⟩ := read_mv h2
  refine ⟨x, y, z, ?_⟩
  rw [mv_cells] at e0 e1 e2
  have e0' : (cs.toList.drop 0).take 4 = _ := e0
  have e1' : (cs.toList.drop 4).take 4 = _ := e1
  have e2' : (cs.toList.drop 8).take 4 = _ := e2
  have hl : cs.toList.length = 12 := by simpa using hsz
  have : cs.toList = (cs.toList.drop 0).take 4 ++ ((cs.toList.drop 4).take 4 ++ (cs.toList.drop 8).take 4) := by
    have a1 : cs.toList.drop 8 = (cs.toList.drop 8).take 4 := by rw [List.take_of_length_le]; rw [List.length_drop]; omega
    have a2 : cs.toList.drop 4 = (cs.toList.drop 4).take 4 ++ cs.toList.drop 8 := by
      have := (List.take_append_drop 4 (cs.toList.drop 4)).symm
      rw [List.drop_drop] at this
      exact this
    rw [← a1, ← a2]
    have := (List.take_append_drop 4 cs.toList).symm
    rw [List.drop_zero]
    exact this
  rw [e0', e1', e2'] at this
  have h3 : cs = #[.int .i64 x.id, .int .i64 x.arg, .int .u8 (x.kind : Int), .int .i64 x.n, .int .i64 y.id, .int .i64 y.arg, .int .u8 (y.kind : Int), .int .i64 y.n, .int .i64 z.id, .int .i64 z.arg, .int .u8 (z.kind : Int), .int .i64 z.n] := by
    apply Array.ext'
    exact this
  rw [h3]

theorem pr_fields : Tryz.prog.underlying 46 = some (.struct #[⟨"Id", 3, 0, false, "", "", 0⟩, ⟨"Arg", 3, 1, false, "", "", 8⟩]) := by kernel_rfl
theorem pr_one : oneCellFields Tryz.prog #[⟨"Id", 3, 0, false, "", "", 0⟩, ⟨"Arg", 3, 1, false, "", "", 8⟩] = true := by kernel_rfl
theorem pr_cells : Tryz.prog.cellsOf 46 = 2 := by kernel_rfl
set_option maxRecDepth 100000 in
/-- An argument that is a pair of numbers. -/
theorem open_pr {H : Type} {enc : TypeId × Value → H} {W : World} {base : Nat} {v : Value} {d : DataW H} {p : List MemPlace} (hv : Value.okWide Tryz.prog W .any base 46 v)
    (h : DataW.Trod enc Tryz.prog W 0 (fun _ => true) true 46 v d p) : ∃ m n : Int, v = .agg #[.int .i64 m, .int .i64 n] := by
  obtain ⟨c0, c1, y0, y1, n, rfl, _, _, h0, h1⟩ := Go.Joins.open_agg2 pr_fields pr_one pr_cells hv h
  obtain ⟨a, e0, _, _⟩ := DataW.trod_int Tryz.underlying3 h0
  obtain ⟨b, e1, _, _⟩ := DataW.trod_int Tryz.underlying3 h1
  simp at e0 e1
  exact ⟨a, b, by rw [e0, e1]⟩

end Go.Proofs.YtoncdnelacolaaaGreatDoor.Ar
