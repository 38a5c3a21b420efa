/- What a row's listed variables give the walks, and a row's last step for arguments without memory. -/
import Derived.Test.YthjnoboceibjjaaGreatDoorTie
import Derived.Test.YthjnoboceibjjaaGreatDoorWalkB
import Derived.ProofKit
import Derived.LaidMore
import Derived.OpenShut
import Derived.Stop.Joined
import Derived.Stop.LaidErr
import Derived.Lib.LaidTab
import Derived.Below
import Derived.ChangeSame
namespace Go.Proofs.YthjnoboceibjjaaGreatDoor.Lx
open Go Go.Proofs Go.RowKit Go.ChangeShapes Go.WideShapes Go.ChangeAt Go.WideMaps Go.WideElems

theorem own_knob : ownKnob Tryz.prog.godebug = none := by kernel_rfl
theorem gErrRange : Tryz.prog.globalNamed "strconv.ErrRange" = some 4 := by kernel_rfl
theorem gBruijn : Tryz.prog.globalNamed "math/bits.deBruijn64tab" = some 7 := by kernel_rfl

/-- The listed variables of the rows. -/
def laidL : List (String × DataW Unit) := Rows.lexTightsRow.laid

theorem laid_drop {P : Program} {l : List (String × DataW Unit)} {w : World} (n : Nat) (h : laidMet P l w) : laidMet P (l.drop n) w := by
  induction n generalizing l with
  | zero => exact h
  | succ n ih =>
    cases l with
    | nil => exact h
    | cons x r => exact ih h.tail

theorem star_text : "*" ++ "errors.errorString" = "*errors.errorString" := by decide
theorem row_err (u : TypeId) (h : Tryz.prog.typeName? 3 u = some "*errors.errorString") : u = 146 :=
  typeName_ptr_named (nm := "errors.errorString") (by rw [star_text]; kernel_rfl) (by kernel_rfl) (by decide) u (by rw [star_text]; exact h)
theorem gErrType : (Tryz.prog.globals[4]?).map (·.type) = some 51 := by kernel_rfl
theorem gSpaceType : (Tryz.prog.globals[0]?).map (·.type) = some 102 := by kernel_rfl
theorem err_cells : Tryz.prog.cellsOf 148 = 1 := by kernel_rfl
theorem str_cells : Tryz.prog.cellsOf 9 = 1 := by kernel_rfl
theorem space_cells : Tryz.prog.cellsOf 102 = 256 := by kernel_rfl
theorem byte_cells : Tryz.prog.cellsOf 5 = 1 := by kernel_rfl

theorem size_of_var {W : World} {n : String} {g : Nat} {cs : Array Value} (hg : Tryz.prog.globalNamed n = some g) (h : W.var? Tryz.prog n = some cs) : g < W.heap.size := by
  unfold World.var? at h
  rw [hg] at h
  cases hw : W.heap[g]? with
  | none => simp [hw] at h
  | some o => exact (Array.getElem?_eq_some_iff.1 hw).1

theorem gl_of_laid {W : World} (h : laidMetH Tryz.prog laidL W) : Gl W := by
  rw [MakeChecks.laidMetH_plain _ _ _ (by kernel_rfl)] at h
  have h1 := laid_drop 1 h
  have h3 := laid_drop 3 h
  have h6 := laid_drop 6 h
  have e6 : laidL.drop 6 = [("strings.asciiSpace", Lib.tabData .u8 Lib.asciiSpaceTab)] := by kernel_rfl
  rw [e6] at h6
  refine ⟨?_, Lib.tabIs_of_head global_space gSpaceType Tryz.underlying102 Tryz.underlying5 byte_cells space_cells h6, ?_⟩
  · obtain ⟨ps, ⟨g, t, cs, f, p, q, hg, _, hv, _, _⟩, _⟩ := h1
    have := size_of_var gBruijn hv
    omega
  · obtain ⟨a, s, hv, _, _, _⟩ := laid_sentinel h3 gErrRange gErrType Tryz.underlying51 row_err Tryz.underlying146 Tryz.underlying148 rfl rfl Tryz.underlying9 err_cells str_cells
    exact ⟨_, _, by have h0 := World.var?_cell gErrRange hv 0; simpa using h0⟩

/-- The door's own heap meets the condition. -/
theorem door_met (os : Os) (args : Array Value) : laidMetH Tryz.prog laidL ((World.doorLaid Tryz.prog 400 os).forCall (fun _ _ => 0) ⟨#[], args, []⟩).memory :=
  laidMetH_of_parts3 (fuel := 8) (laidMet_of_run' 8 (by kernel_rfl) (by kernel_rfl)) (by kernel_rfl) (by kernel_rfl)

/-- A row's last step where no argument holds memory, and no variable is named. -/
theorem post_flat {H : Type} {enc : TypeId × Value → H} {P : Program} {f : Func} {s : ChangeSpec} {apart fresh handsOn again : Bool} {W W' : World} {args : Array Value} {v : Value} {ds : List (DataW H)}
    (hW : DataW.Whole enc P f.params.toList s.vars apart W args.toList ds [] []) (hv : s.vars = []) (hgv : (s.fn H (ds ++ [])).vars = [])
    (hres : ∀ (b : Nat) (sp : Nat → Bool) (hd : Bool), DataW.TrodAll enc P W' b sp hd f.resultTypes.toList (v.resultList f.resultTypes.size) (s.fn H (ds ++ [])).results [])
    (hargs : ∀ sp : Nat → Bool, DataW.TrodAll enc P W' 0 sp true f.params.toList args.toList (s.fn H (ds ++ [])).args [])
    (hb : Below W.heap.size W W')
    (hok : ∀ (j : Nat) (t : TypeId) (r : Value), f.resultTypes[j]? = some t → (v.resultList f.resultTypes.size)[j]? = some r → Value.okWide P W' .any 0 t r) :
    s.post enc P f apart fresh handsOn again W args v W' := by
  have hvars : ∀ sp : Nat → Bool, DataW.TrodVars enc P W' sp s.vars (s.fn H (ds ++ [])).vars [] := fun sp => by rw [hv, hgv]; rfl
  refine ⟨ds, [], [], [], [], [], hW, hres _ _ _, hargs _, hvars _, hb.frame _, fun _ => ⟨hok, _, _, [], ⟨[], [], trodAll_append (hargs _) (hres _ _ _), hvars _, rfl, ?_, ?_⟩, ?_⟩⟩
  · intro b off h; cases h
  · intro _; exact List.nodup_nil
  · intro p h; cases h

end Go.Proofs.YthjnoboceibjjaaGreatDoor.Lx
