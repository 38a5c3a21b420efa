/- The map of the signs. -/
import Derived.Test.YtoncdnelacolaaaGreatDoorAText
import Derived.Maps.OwnSet
import Derived.Maps.RangeWalk
namespace Go.Proofs.YtoncdnelacolaaaGreatDoor.Ar
open Go Go.Proofs Go.RowKit Lx Ps
open Go.Maps Go.ChangeMaps

theorem byte_keyed : Keyed Tryz.prog 5 := int_keyed Tryz.underlying5
theorem byte_key (k : Nat) (hk : k < 256) : keyOf Tryz.prog 5 (.int .u8 (k : Int)) = some (.int .u8 (k : Int)) := keyOf_int_mk Tryz.underlying5 (by
  have h1 : IntKind.min .u8 = 0 := by decide
  have h2 : IntKind.max .u8 = 255 := by decide
  show (decide (IntKind.min .u8 ≤ (k : Int)) && decide ((k : Int) ≤ IntKind.max .u8)) = true
  rw [h1, h2, Bool.and_eq_true, decide_eq_true_eq, decide_eq_true_eq]
  omega)

/-- An entry of a map that is laid out. -/
theorem wpList_insert_own {H : Type} {P : Program} (w : World) {ops : Array Oper} {rest : List Oper} {o : Oper} {a : Act} {Q : Exit → Act → World → Prop}
    (hg : o.guard = none) (m x v : Operand) (t : TypeId) (hop : o.op = Op.insert t m x v)
    (k e : TypeId) (K : Keyed P k) (ht : P.underlying t = some (.map k e)) (R : Value → Option (DataW H × List MemPlace)) (b n : Nat) (D : DataW H)
    (hm : a.eval m = .map (some b)) (hown : w.ownsMap P k R b n D) (hn : n < maxLen) (key val : Value) (kl : Lit) (hx : a.eval x = key) (hv : a.eval v = val) (hkey : keyOf P k key = some kl)
    (d : DataW H) (ps : List MemPlace) (hval : R val = some (d, ps))
    (hK : ∀ w', w'.ownsMap P k R b (n + 1) (D.put kl d) → w.grownBy w' (some b) → wpList P ops Q rest (a.put o.dst undef) w') :
    wpList P ops Q (o :: rest) a w := by
  refine wpList_plain hg fun K' hK' => ?_
  obtain ⟨w', hrun, r1, r2⟩ := hown.update K ht hn hkey hval
  unfold Oper.wp
  simp [execOp, hop, hm, hx, hv, hrun, Result.andThen]
  exact hK' _ _ (hK w' r1 r2)

/-- The signs as a datum. -/
def sgD : DataW Unit := (((DataW.map []).put (.int .u8 1) (.lit (.string [63]))).put (.int .u8 2) (.lit (.string [61]))).put (.int .u8 3) (.lit (.string [33]))
/-- Block b is the map of the signs. -/
def Sg (w : World) (b : Nat) : Prop := w.ownsMap Tryz.prog 5 (plainElem (H := Unit) Tryz.prog 9) b 3 sgD
theorem Sg.kept {w w' : World} {b : Nat} (h : Sg w b) (hb : Below w.heap.size w w') : Sg w' b := World.ownsMap.kept (row := none) h ⟨hb.os, hb.tape, hb.output, hb.size, fun i hi _ => hb.block i hi⟩ (by simp)
def isK (k : Nat) : Bool := k == 1 || k == 2 || k == 3
/-- What the map of the signs gives at a kind. -/
def signS (k : Nat) : ByteArray := strB (if isK k then signL k else [])
theorem signS_ok {k : Nat} (h : isK k = true) : signS k = strB (signL k) := by unfold signS; rw [if_pos h]
theorem zero_str (w : World) : (zeroValue 9).run Tryz.prog w = .ok (.string ⟨#[]⟩) w := by kernel_rfl
theorem sg_at (k : Nat) : sgD.atKey (.int .u8 (k : Int)) (.lit (.string [])) = .lit (.string (if isK k then signL k else [])) ∧ Maps.has sgD (.int .u8 (k : Int)) = isK k := by
  have m1 : IsMap (DataW.map [] : DataW Unit) := isMap_empty
  have m2 := m1.put (.int .u8 1) (.lit (.string [63]))
  have m3 := m2.put (.int .u8 2) (.lit (.string [61]))
  by_cases h3 : k = 3
  · subst h3
    exact ⟨(atKey_put_same m3 (by simp [WideAt.IsKeyLit]) _ _), has_put_same m3 (by simp [WideAt.IsKeyLit]) _⟩
  by_cases h2 : k = 2
  · subst h2
    exact ⟨(atKey_put_other (by intro e; cases e) _ _).trans (atKey_put_same m2 (by simp [WideAt.IsKeyLit]) _ _), (has_put_other (by intro e; cases e) _).trans (has_put_same m2 (by simp [WideAt.IsKeyLit]) _)⟩
  by_cases h1 : k = 1
  · subst h1
    exact ⟨(atKey_put_other (by intro e; cases e) _ _).trans ((atKey_put_other (by intro e; cases e) _ _).trans (atKey_put_same m1 (by simp [WideAt.IsKeyLit]) _ _)), (has_put_other (by intro e; cases e) _).trans ((has_put_other (by intro e; cases e) _).trans (has_put_same m1 (by simp [WideAt.IsKeyLit]) _))⟩
  have hk : isK k = false := by simp [isK, h1, h2, h3]
  have n1 : (Lit.int .u8 (k : Int)) ≠ .int .u8 1 := by intro e; injection e with _ e; omega
  have n2 : (Lit.int .u8 (k : Int)) ≠ .int .u8 2 := by intro e; injection e with _ e; omega
  have n3 : (Lit.int .u8 (k : Int)) ≠ .int .u8 3 := by intro e; injection e with _ e; omega
  rw [hk]
  exact ⟨(atKey_put_other n3 _ _).trans ((atKey_put_other n2 _ _).trans ((atKey_put_other n1 _ _).trans rfl)), (has_put_other n3 _).trans ((has_put_other n2 _).trans ((has_put_other n1 _).trans rfl))⟩
theorem Sg.look {w : World} {b : Nat} (h : Sg w b) (k : Nat) (hk : k < 256) : (Instr.lookup 117 (.map (some b)) (.int .u8 (k : Int)) true).run Tryz.prog w = .ok (.tuple #[.string (signS k), .bool (isK k)]) w := by
  unfold signS
  obtain ⟨v, ps, hrun, hv⟩ := World.ownsMap.look_ok h byte_keyed Tryz.underlying117 (zero_str w) (plainElem_string Tryz.underlying9 (by unfold maxLen; simp [ByteArray.size])) (byte_key k hk)
  obtain ⟨h1, h2⟩ := sg_at k
  rw [show (⟨#[]⟩ : ByteArray).data.toList = [] from rfl, h1] at hv
  rw [hrun, h2]
  obtain ⟨x, rfl, hz, _⟩ := plainElem_string_inv Tryz.underlying9 hv
  simp only [Prod.mk.injEq, DataW.lit.injEq, Lit.string.injEq] at hz
  rw [hz.1, strB_eta]

set_option maxRecDepth 100000 in
set_option maxHeartbeats 1000000 in
theorem signs_any (w : World) :
    Calls Tryz.prog 95 #[] w fun e w' => e = .returned (.map (some w.heap.size)) ∧ Sg w' w.heap.size ∧ Below w.heap.size w w' := by
  have hmm := @run_makeMap Tryz.prog
  have hb0 : Below w.heap.size w (w.alloc (.map #[] 0)) := (Below.refl _ _).alloc (Nat.le_refl _) _
  have hown0 : (w.alloc (.map #[] 0)).ownsMap Tryz.prog 5 (plainElem (H := Unit) Tryz.prog 9) w.heap.size 0 (.map []) := World.ownsMap_made _ _ _ _
  have K1 := byte_key 1 (by decide)
  have K2 := byte_key 2 (by decide)
  have K3 := byte_key 3 (by decide)
  go_enter Tryz.func95, Tryz.ntmps95
  go_wp2_with (first
    | (refine wpList_insert_own _ rfl _ _ _ 117 rfl 5 9 byte_keyed Tryz.underlying117 _ w.heap.size 0 _ rfl hown0 (by unfold maxLen; omega) _ _ _ rfl rfl K1 _ [] (plainElem_string (s := ⟨#[63]⟩) Tryz.underlying9 (by unfold maxLen; simp [ByteArray.size])) ?_; intro w1 hown1 hg1)
    | (refine wpList_insert_own _ rfl _ _ _ 117 rfl 5 9 byte_keyed Tryz.underlying117 _ w.heap.size 1 _ rfl hown1 (by unfold maxLen; omega) _ _ _ rfl rfl K2 _ [] (plainElem_string (s := ⟨#[61]⟩) Tryz.underlying9 (by unfold maxLen; simp [ByteArray.size])) ?_; intro w2 hown2 hg2)
    | (refine wpList_insert_own _ rfl _ _ _ 117 rfl 5 9 byte_keyed Tryz.underlying117 _ w.heap.size 2 _ rfl hown2 (by unfold maxLen; omega) _ _ _ rfl rfl K3 _ [] (plainElem_string (s := ⟨#[33]⟩) Tryz.underlying9 (by unfold maxLen; simp [ByteArray.size])) ?_; intro w3 hown3 hg3))
  go_ret
  have up : ∀ j, some w.heap.size = some j → w.heap.size ≤ j := fun j e => by injection e; omega
  have b1 := hb0.grown hg1 hb0.size up
  have b2 := b1.grown hg2 b1.size up
  exact ⟨rfl, hown3, b2.grown hg3 b2.size up⟩

end Go.Proofs.YtoncdnelacolaaaGreatDoor.Ar
