/- ArenaBack: the row and its tied card. -/
import Derived.Test.YtoncdnelacolaaaGreatDoorACardB
import Derived.Test.YtoncdnelacolaaaGreatDoorCards
import Derived.Test.YtoncdnelacolaaaGreatDoorALawK
import Derived.Shelf.Vars
import Derived.Lay
namespace Go.Proofs.YtoncdnelacolaaaGreatDoor.Ar
open Go Go.Proofs Go.RowKit Go.ChangeShapes Go.WideShapes Go.ChangeAt Go.WideMaps Go.WideElems Lx

/-- The listed variables of the rows. -/
def laidP : List (String × DataW Unit) := Rows.arenaBackRow.laid
theorem ga_of_laidP {W : World} (hsh : W.ShapedOpen Tryz.prog) (h : laidMetH Tryz.prog laidP W) : Ga W := by
  rw [MakeChecks.laidMetH_plain _ _ _ (by kernel_rfl)] at h
  have h1 := laid_drop 1 h
  have h2 := laid_drop 2 h
  have h3 := laid_drop 4 h
  have h4 := laid_drop 5 h
  have e2 : laidP.drop 2 = ("internal/strconv.uint64pow10", Lib.tabData .u64 Lib.pow10Tab) :: laidP.drop (3) := by kernel_rfl
  rw [e2] at h2
  refine ⟨?_, Lib.tabIs_of_head global_pow gPowType Tryz.underlying195 Tryz.underlying178 u64_cells pow_cells h2, ?_, ?_, ?_⟩
  · obtain ⟨ps, ⟨g, t, cs, f, p, q, hg, _, hv, _, _⟩, _⟩ := h1
    have := size_of_var gBruijn hv
    omega
  · obtain ⟨a, s, hv, _, _, _⟩ := laid_sentinel h3 gErrRange gErrType Tryz.underlying162 row_err Tryz.underlying209 Tryz.underlying211 rfl rfl Tryz.underlying9 err_cells str_cells
    exact ⟨_, _, by have h0 := World.var?_cell gErrRange hv 0; simpa using h0⟩
  · obtain ⟨a, s, hv, _, _, _⟩ := laid_sentinel h4 gErrSyntax gSynType Tryz.underlying162 row_err Tryz.underlying209 Tryz.underlying211 rfl rfl Tryz.underlying9 err_cells str_cells
    exact ⟨_, _, by have h0 := World.var?_cell gErrSyntax hv 0; simpa using h0⟩
  · exact cell_of_shapedOpen_int (g := 0) (t := 3) (zero := #[.int .i64 0]) (k := .i64) hsh (of_decide_eq_true (by kernel_rfl)) (by kernel_rfl) rfl (by kernel_rfl) (by kernel_rfl) Tryz.underlying3

end Go.Proofs.YtoncdnelacolaaaGreatDoor.Ar

namespace Go.Proofs.YtoncdnelacolaaaGreatDoor
open Go Go.Proofs Go.RowKit Go.ChangeShapes Go.WideShapes Go.ChangeAt Go.WideMaps Go.WideElems Lx Ar

set_option maxRecDepth 100000 in
theorem arenaBack_lifted (os : Os) (started : os.Started) (H : Type) (enc : TypeId × Value → H) :
    ReturnsInHanded {} Tryz.checked os 15 .any (fun w args => (Rows.arenaBackSpec.pre enc Tryz.prog Tryz.f15 [] false w args ∧ laidMetH Tryz.prog laidP w) ∧ sizedMet enc Tryz.prog Tryz.f15 (OpenSpec.ofChange Rows.arenaBackSpec) false w args)
      (Rows.arenaBackSpec.post enc Tryz.prog Tryz.f15 false true false false) := by
  refine handed_with_shape (C := Tryz.checked) (X := fun w _ => laidMetH Tryz.prog laidP w) (fun _ _ _ hh h => h.of_heap hh) own_knob started (by kernel_rfl) Tryz.func15
    (ChangeSpec.witness_shaped (enc := enc) (C := Tryz.checked) (os := os) (X := fun w _ => laidMetH Tryz.prog laidP w) false (World.laidAll Tryz.prog os laidP) #[.agg #[.slice none 0 0, .bool false, .int .i64 0, .bool false], .agg #[.int .i64 0, .int .i64 0, .int .u8 0, .int .i64 0]] 8 (World.laidAll_os _ _ _) (World.shaped_of_ZipB (by kernel_rfl) (by kernel_rfl)) (by kernel_rfl) (by kernel_rfl) (by kernel_rfl) (by rw [MakeChecks.laidMetH_plain _ _ _ (by kernel_rfl)]; exact laidMet_laidAll _ (by kernel_rfl) (by kernel_rfl))) ?_
  intro W base args ds gs before hval0 hW hsz0 hsh hL
  have hval : ∀ (j : Nat) t v, Tryz.f15.params[j]? = some t → args[j]? = some v → Value.okWide Tryz.prog W .any base t v := hval0
  have hsz : (DataW.weightsEach Tryz.prog (Tryz.f15.params.toList ++ []) (ds ++ gs)).all (· ≤ reachBytes) = true := hsz0
  have hW' := hW
  obtain ⟨p, q, hA0, hV, rfl, hfz, hnd⟩ := hW
  have hA : DataW.TrodAll enc Tryz.prog W 0 (fun _ => true) true Tryz.f15.params.toList args.toList ds p := hA0
  rw [Tryz.params15] at hA hval hsz
  obtain ⟨v0, v1, d0, d1, p0, p1, rfl, rfl, rfl, h0, h1⟩ := trodAll_two hA
  have hlt0 : ∀ x ∈ p0, x.block < W.heap.size := fun x hx => hW'.lt x (by simp [hx])
  have hlt1 : ∀ x ∈ p1, x.block < W.heap.size := fun x hx => hW'.lt x (by simp [hx])
  obtain ⟨rfl, rfl⟩ := trodVars_none hV
  have hw0 : (d0.weights Tryz.prog 26).all (· ≤ reachBytes) = true := by
    simp only [List.append_nil, DataW.weightsEach, List.all_append, Bool.and_eq_true] at hsz
    simp only [hsz]
  obtain ⟨ids0, a0, rfl, hin0⟩ := open_ar (hval 0 26 v0 rfl rfl) h0 hw0
  obtain ⟨x1, rfl, hm1⟩ := open_mv (hval 1 40 v1 rfl rfl) h1
  have hG := ga_of_laidP hsh hL
  clear hA0 hval0 hsz0
  simp only [List.append_nil] at hW'
  refine (arenaBack_any ids0 a0 x1 W hin0 hm1 hG).mono fun e W' ⟨he, hbw⟩ => ?_
  subst he
  exact ⟨_, rfl, post_mem hW' rfl rfl (fun _ _ _ => trodAll_mk1 (shut_bool Tryz.underlying4 _)) (fun sp hsp => trodAll_mk2 (stays (by kernel_rfl) (of_decide_eq_true (by kernel_rfl)) h0 hbw hlt0 sp (fun x hx => hsp x (by simp [hx]))) (stays (by kernel_rfl) (of_decide_eq_true (by kernel_rfl)) h1 hbw hlt1 sp (fun x hx => hsp x (by simp [hx])))) hbw (ok_one (by kernel_rfl) rfl (okWide_bool_mk Tryz.underlying4 _))⟩

theorem arenaBack_holds : Rows.ArenaBackSaid :=
  OpenClaim.holds_of_wide 15 Tryz.f15 rfl rfl rfl rfl rfl rfl rfl ⟨rfl, rfl, rfl, rfl, rfl⟩ rfl rfl rfl rfl rfl (by kernel_rfl) Tryz.func15 (by kernel_rfl)
    (of_decide_eq_true (by kernel_rfl)) (by unfold Func.isWrapper; first | (rw [if_pos (by decide +kernel)]; kernel_rfl) | (rw [if_neg (by decide +kernel)]; exact ⟨rfl, rfl⟩))
    (fun os started H enc _ => arenaBack_lifted os started H enc)

/-- The tied card. -/
theorem arenaBack_card : Rows.ArenaBackCardSaid :=
  Claim7.holds_tied_plain_at .later [] [.data, .data, .data, .data, .sentinel, .sentinel, .pinned] true (true, "6b244a4428e4b1b82701e9de43e250edf17e8e444e32853e89cb868e84fbd397") true
    arenaBack_holds (fun _ h => by cases h) (by kernel_rfl) (fun _ h => by cases h) arenaBack_row_tie rfl ⟨rfl, rfl⟩ (by kernel_rfl) rfl
    (fun f fn hf hfn => by
      obtain rfl : f = 15 := Option.some.inj ((show Tryz.prog.funcNamed "riposte/ripostelaw04.ArenaBack" = some 15 by kernel_rfl).symm.trans hf) |>.symm
      obtain rfl : fn = Tryz.f15 := (Option.some.inj (Tryz.func15.symm.trans hfn)).symm
      exact ⟨by kernel_rfl, fun j t ht => by
        rw [Tryz.params15] at ht
        have hm : t ∈ [26, 40] := by simpa using Array.mem_of_getElem? ht
        have hall : ([26, 40].all fun u => !Tryz.prog.wantsStandIn u) = true := by kernel_rfl
        exact (show Tryz.prog.wantsStandIn t = false by simpa using List.all_eq_true.1 hall t hm)⟩)
    (by kernel_rfl)
#print axioms arenaBack_card

end Go.Proofs.YtoncdnelacolaaaGreatDoor
