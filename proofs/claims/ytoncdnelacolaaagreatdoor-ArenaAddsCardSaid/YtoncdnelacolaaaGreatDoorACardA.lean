/- What a row's listed variables give the walks of the arena, and a row's form from calls. -/
import Derived.Test.YtoncdnelacolaaaGreatDoorTie
import Derived.Test.YtoncdnelacolaaaGreatDoorAOpen
import Derived.Test.YtoncdnelacolaaaGreatDoorAText
import Derived.SevenTiedAt
import Derived.HandedShaped
import Derived.Shelf.Vars
import Derived.Lay
namespace Go.Proofs.YtoncdnelacolaaaGreatDoor.Ar
open Go Go.Proofs Go.RowKit Go.ChangeShapes Go.WideShapes Go.ChangeAt Go.WideMaps Go.WideElems Lx

theorem own_knob : ownKnob Tryz.prog.godebug = none := by kernel_rfl
theorem gErrRange : Tryz.prog.globalNamed "strconv.ErrRange" = some 3 := by kernel_rfl
theorem gErrSyntax : Tryz.prog.globalNamed "strconv.ErrSyntax" = some 2 := by kernel_rfl
theorem gBruijn : Tryz.prog.globalNamed "math/bits.deBruijn64tab" = some 7 := by kernel_rfl

/-- The listed variables of the rows. -/
def laidL : List (String × DataW Unit) := Rows.arenaLessRow.laid

theorem laid_drop {P : Program} {l : List (String × DataW Unit)} {w : World} (n : Nat) (h : laidMet P l w) : laidMet P (l.drop n) w := by
  induction n generalizing l with
  | zero => exact h
  | succ n ih =>
    cases l with
    | nil => exact h
    | cons x r => exact ih h.tail

theorem star_text : "*" ++ "errors.errorString" = "*errors.errorString" := by decide
theorem row_err (u : TypeId) (h : Tryz.prog.typeName? 3 u = some "*errors.errorString") : u = 209 :=
  typeName_ptr_named (nm := "errors.errorString") (by rw [star_text]; kernel_rfl) (by kernel_rfl) (by decide) u (by rw [star_text]; exact h)
theorem gErrType : (Tryz.prog.globals[3]?).map (·.type) = some 162 := by kernel_rfl
theorem gSynType : (Tryz.prog.globals[2]?).map (·.type) = some 162 := by kernel_rfl
theorem gPowType : (Tryz.prog.globals[1]?).map (·.type) = some 195 := by kernel_rfl
theorem err_cells : Tryz.prog.cellsOf 211 = 1 := by kernel_rfl
theorem str_cells : Tryz.prog.cellsOf 9 = 1 := by kernel_rfl
theorem pow_cells : Tryz.prog.cellsOf 195 = 20 := by kernel_rfl
theorem u64_cells : Tryz.prog.cellsOf 178 = 1 := by kernel_rfl

theorem size_of_var {W : World} {n : String} {g : Nat} {cs : Array Value} (hg : Tryz.prog.globalNamed n = some g) (h : W.var? Tryz.prog n = some cs) : g < W.heap.size := by
  unfold World.var? at h
  rw [hg] at h
  cases hw : W.heap[g]? with
  | none => simp [hw] at h
  | some o => exact (Array.getElem?_eq_some_iff.1 hw).1

theorem ga_of_laid {W : World} (hsh : W.ShapedOpen Tryz.prog) (h : laidMetH Tryz.prog laidL W) : Ga W := by
  rw [MakeChecks.laidMetH_plain _ _ _ (by kernel_rfl)] at h
  have h1 := laid_drop 1 h
  have h2 := laid_drop 2 h
  have h3 := laid_drop 3 h
  have h4 := laid_drop 4 h
  have e2 : laidL.drop 2 = ("internal/strconv.uint64pow10", Lib.tabData .u64 Lib.pow10Tab) :: laidL.drop 3 := by kernel_rfl
  rw [e2] at h2
  refine ⟨?_, Lib.tabIs_of_head global_pow gPowType Tryz.underlying195 Tryz.underlying178 u64_cells pow_cells h2, ?_, ?_, ?_⟩
  · obtain ⟨ps, ⟨g, t, cs, f, p, q, hg, _, hv, _, _⟩, _⟩ := h1
    have := size_of_var gBruijn hv
    trace_state
    omega
  · obtain ⟨a, s, hv, _, _, _⟩ := laid_sentinel h3 gErrRange gErrType Tryz.underlying162 row_err Tryz.underlying209 Tryz.underlying211 rfl rfl Tryz.underlying9 err_cells str_cells
    exact ⟨_, _, by have h0 := World.var?_cell gErrRange hv 0; simpa using h0⟩
  · obtain ⟨a, s, hv, _, _, _⟩ := laid_sentinel h4 gErrSyntax gSynType Tryz.underlying162 row_err Tryz.underlying209 Tryz.underlying211 rfl rfl Tryz.underlying9 err_cells str_cells
    exact ⟨_, _, by have h0 := World.var?_cell gErrSyntax hv 0; simpa using h0⟩
  · exact cell_of_shapedOpen_int (g := 0) (t := 3) (zero := #[.int .i64 0]) (k := .i64) hsh (of_decide_eq_true (by kernel_rfl)) (by kernel_rfl) rfl (by kernel_rfl) (by kernel_rfl) Tryz.underlying3

/-- The door's own heap meets the condition. -/
theorem door_met (os : Os) (args : Array Value) : laidMetH Tryz.prog laidL ((World.doorLaid Tryz.prog 400 os).forCall (fun _ _ => 0) ⟨#[], args, []⟩).memory :=
  laidMetH_of_parts3 (fuel := 8) (laidMet_of_run' 8 (by kernel_rfl) (by kernel_rfl)) (by kernel_rfl) (by kernel_rfl)

/-- A row's form from calls, where the world's shape is kept beside what the row's variables hold. -/
theorem handed_with_shape {H : Type} {enc : TypeId × Value → H} {C : Checked} {os : Os} {f : FuncId} {fn : Func} {s : ChangeSpec} {X : World → Array Value → Prop} (hX : ∀ (w w' : World) (args : Array Value), w.heap = w'.heap → X w args → X w' args)
    (own : ownKnob C.prog.godebug = none) (started : os.Started) (noInit : C.prog.inits.idxOf? f = none) (hfn : C.prog.funcs[f]? = some fn)
    (wit : ∃ (w : World) (tape : Tape) (i : Input), w.os = os ∧ (w.forCall tape i).Shaped C.prog ∧ i.vars = [] ∧ Input.okWide C.prog (w.forCall tape i) .any w.heap.size f i ∧
      ((s.pre enc C.prog fn [] false (w.forCall tape i).memory i.args ∧ X (w.forCall tape i).memory i.args) ∧ sizedMet enc C.prog fn (OpenSpec.ofChange s) false (w.forCall tape i).memory i.args) ∧ ({} : Assume).holds C.prog (lone (Frame.enter C.prog f i.args .normal) [] (w.forCall tape i)))
    (calls : ∀ (W : World) (base : Nat) (args : Array Value) (ds gs : List (DataW H)) (before : List MemPlace), (∀ (j : Nat) t v, fn.params[j]? = some t → args[j]? = some v → Value.okWide C.prog W .any base t v) →
      DataW.Whole enc C.prog fn.params.toList s.vars false W args.toList ds gs before → (DataW.weightsEach C.prog (fn.params.toList ++ s.plain.varTypes C.prog) (ds ++ gs)).all (· ≤ reachBytes) = true → W.ShapedOpen C.prog → X W args → Calls C.prog f args W fun e W' => ∃ v, e = .returned v ∧ s.post enc C.prog fn false true false false W args v W') :
    ReturnsInHanded {} C os f .any (fun w args => (s.pre enc C.prog fn [] false w args ∧ X w args) ∧ sizedMet enc C.prog fn (OpenSpec.ofChange s) false w args) (s.post enc C.prog fn false true false false) := by
  refine returnsInHanded_of_calls own started noInit wit fun w tape i _ hshape _ hok hpre _ => ?_
  obtain ⟨_, _, _, g, hg, _, _, _, _, hval⟩ := hok
  obtain rfl : g = fn := Option.some.inj (hg.symm.trans hfn)
  obtain ⟨⟨⟨ds, gs, before, hw, _⟩, hx⟩, hsz⟩ := hpre
  have hw' := DataW.Whole.of_heap (w' := w.forCall tape i) (by rfl) hw
  have hx' : X (w.forCall tape i) i.args := hX _ _ _ (by rfl) hx
  refine (calls (w.forCall tape i) w.heap.size i.args ds gs before hval hw' (hsz.weights hw) hshape hx').mono ?_
  rintro e W' ⟨v, rfl, hp⟩
  exact ChangeSpec.post_blind hp

end Go.Proofs.YtoncdnelacolaaaGreatDoor.Ar
