/- A region that draws its order, of operations that only read and of calls and stores that come one after the other: walked in one order, the readers first. What a call hands back may hang on the world. -/
import Derived.Deep.RegionHeld3
import Derived.Test.YtoncdnelacolaaaGreatDoorHead
namespace Go.Proofs.YtoncdnelacolaaaGreatDoor.Ar
open Go Go.Proofs Go.RowKit

section
variable {P : Program} {ops : Array Oper} {Q : Exit → Act → World → Prop} {S : World → Prop}

/-- The walk: an operation that reads yields its value in every world that meets S; any other one is carried out in the world at hand. -/
def wpChain (P : Program) (ops : Array Oper) (S : World → Prop) (Q : Exit → Act → World → Prop) : List (Bool × Nat × Oper) → Act → World → Prop
  | [], a, w => Q .normal a w
  | (true, _, o) :: r, a, w => ∃ v, YieldsIf P ops S o v a ∧ wpChain P ops S Q r (a.put o.dst v) w
  | (false, _, o) :: r, a, w => ∀ K : Act → World → Prop, (∀ a' w', S w' → wpChain P ops S Q r a' w' → K a' w') → if Region.wanted o (yielded ops a.tmps) = true then Oper.wp P o a w K Q else K (a.put o.dst undef) w
/-- May the operations come up so? -/
def chainB (ops : Array Oper) : List (Bool × Nat × Oper) → Array Bool → Bool
  | [], listed => (Region.ready .any ops listed).isEmpty
  | (true, i, _) :: r, listed => Region.free .any ops listed i && (Region.ready .any ops listed).contains i && chainB ops r (listed.setIfInBounds i true)
  | (false, i, _) :: r, listed => decide (Region.ready .any ops listed = [i]) && chainB ops r (listed.setIfInBounds i true)
def chainOps (ops : Array Oper) (l : List (Bool × Nat)) : List (Bool × Nat × Oper) := l.filterMap fun x => (ops[x.2]?).map fun o => (x.1, x.2, o)
theorem chainOps_mem {l : List (Bool × Nat)} {x : Bool × Nat × Oper} (h : x ∈ chainOps ops l) : ops[x.2.1]? = some x.2.2 := by
  unfold chainOps at h
  obtain ⟨y, _, hy⟩ := List.mem_filterMap.1 h
  obtain ⟨o, ho, rfl⟩ := Option.map_eq_some_iff.1 hy
  exact ho

theorem wpAnyH_chain (hs : Region.noSelect ops = true) (hQ : ∀ d v c a w, Q (.panic c) (Act.put a d v) w → Q (.panic c) a w) : ∀ (l : List (Bool × Nat × Oper)) (listed : Array Bool) (a : Act) (w : World), (∀ x ∈ l, ops[x.2.1]? = some x.2.2) →
    chainB ops l listed = true → S w → wpChain P ops S Q l a w → wpAnyH P .any ops Q S l.length listed a w
  | [], listed, a, w, _, hB, _, h => by
    refine wpAnyH_done ?_ h _
    simpa [chainB] using hB
  | (true, i, o) :: r, listed, a, w, hl, hB, hS, h => by
    simp only [chainB, Bool.and_eq_true] at hB
    obtain ⟨v, hy, hr⟩ := h
    exact wpAnyH_take (hl _ List.mem_cons_self) hs hB.1.1 hB.1.2 (hQ _ _) hy hS (wpAnyH_chain hs hQ r _ _ w (fun x hx => hl x (List.mem_cons_of_mem _ hx)) hB.2 hS hr)
  | (false, i, o) :: r, listed, a, w, hl, hB, hS, h => by
    simp only [chainB, Bool.and_eq_true, decide_eq_true_eq] at hB
    refine wpAnyH_all hB.1 (by simp) (fun j hj => ?_)
    have hji : j = i := by simpa using hj
    subst hji
    refine wpOp_step (hl _ List.mem_cons_self) (fun K' hK => h K' (fun a' w' hS' hc => hK a' w' ⟨hS', wpAnyH_chain hs hQ r _ a' w' (fun x hx => hl x (List.mem_cons_of_mem _ hx)) hB.2 hS' hc⟩))

/-- A region is walked in the order 'l'. -/
theorem wp_region_chain (S : World → Prop) (l : List (Bool × Nat)) {id : Nat} {a : Act} {w : World} (hm : P.follows .mixedOrders = true) (hs : Region.noSelect ops = true) (hl : (chainOps ops l).length = ops.size)
    (hB : chainB ops (chainOps ops l) (Array.replicate ops.size false) = true) (hQ : ∀ d v c a w, Q (.panic c) (Act.put a d v) w → Q (.panic c) a w) (hS : S w.drew) (h : wpChain P ops S Q (chainOps ops l) a w.drew) : (Code.region id ops true).wp P Q a w :=
  wp_region_held_drew hm hS (fun _ => by
    have := wpAnyH_chain (S := S) hs hQ (chainOps ops l) (Array.replicate ops.size false) a w.drew (fun x hx => chainOps_mem hx) hB hS h
    rw [hl] at this
    exact this)
theorem chain_take {i : Nat} {o : Oper} {r : List (Bool × Nat × Oper)} {a : Act} {w : World} {v : Value} (hw : Region.wanted o (yielded ops a.tmps) = true) (hy : ∀ w', S w' → (execOp a.eval o).run P w' = .ok (.value v) w')
    (h : wpChain P ops S Q r (a.put o.dst v) w) : wpChain P ops S Q ((true, i, o) :: r) a w := ⟨v, .inl ⟨hw, hy⟩, h⟩
theorem chain_skip {i : Nat} {o : Oper} {r : List (Bool × Nat × Oper)} {a : Act} {w : World} (hw : Region.wanted o (yielded ops a.tmps) = false)
    (h : wpChain P ops S Q r (a.put o.dst undef) w) : wpChain P ops S Q ((true, i, o) :: r) a w := ⟨undef, .inr ⟨hw, rfl⟩, h⟩
theorem chain_act {i : Nat} {o : Oper} {r : List (Bool × Nat × Oper)} {a : Act} {w : World} (h : ∀ K : Act → World → Prop, Shut (∀ a' w', S w' → wpChain P ops S Q r a' w' → K a' w') → if Region.wanted o (yielded ops a.tmps) = true then Oper.wp P o a w K Q else K (a.put o.dst undef) w) :
    wpChain P ops S Q ((false, i, o) :: r) a w := fun K hK => h K hK
theorem chain_nil {a : Act} {w : World} (h : Q .normal a w) : wpChain P ops S Q [] a w := h
end

end Go.Proofs.YtoncdnelacolaaaGreatDoor.Ar
