/- What is so of a right arena. -/
import Derived.Test.YtoncdnelacolaaaGreatDoorASpecA
namespace Go.Proofs.YtoncdnelacolaaaGreatDoor.Ar
open Go

structure Right (a : Ar) : Prop where
  ids : a.ids.length ≤ 8
  params : ∀ t ∈ a.ids, t.params.length ≤ 5
  root : badB a.root = false
  types : ∀ t ∈ a.ids, badT t = false
theorem right_of {a : Ar} (h : checkE a = 0) : Right a := by
  unfold checkE at h
  split at h
  · cases h
  · rename_i h1
    split at h
    · cases h
    · rename_i h2
      simp only [Bool.not_eq_true, Bool.or_eq_false_iff, decide_eq_false_iff_not, List.any_eq_false] at h1 h2
      exact ⟨by omega, fun t ht => by have := h1.2 t ht; simp [wideT] at this; omega, h2.1, fun t ht => by have := h2.2 t ht; simpa using this⟩
theorem badB_n {b : Bs} (h : badB b = false) : ∃ N : Nat, b.n = (N : Int) ∧ N ≤ 64 ∧ 1 ≤ N := by
  simp only [badB, Bool.or_eq_false_iff, decide_eq_false_iff_not] at h
  exact ⟨b.n.toNat, by omega, by omega, by omega⟩
theorem badT_parts {t : Ty} (h : badT t = false) : badB t.result = false ∧ ∀ b ∈ t.params, badB b = false := by
  simp only [badT, Bool.or_eq_false_iff, List.any_eq_false] at h
  exact ⟨h.1.1, fun b hb => by have := h.1.2 b hb; simpa using this⟩
theorem mem_paramsFrom {id : Nat} {p : Pl} : ∀ {l : List Bs} {k : Nat}, p ∈ paramsFrom id k l → ∃ b ∈ l, p.base = b ∧ p.id = id ∧ k ≤ p.arg
  | [], _, h => by cases h
  | b :: r, k, h => by
    rw [paramsFrom] at h
    cases h with
    | head => exact ⟨b, List.mem_cons_self, rfl, rfl, Nat.le_refl _⟩
    | tail _ h => obtain ⟨c, hc, h1, h2, h3⟩ := mem_paramsFrom h; exact ⟨c, List.mem_cons_of_mem _ hc, h1, h2, by omega⟩
theorem place_base {a : Ar} (h : Right a) {p : Pl} (hp : p ∈ placesL a) : ∃ N : Nat, p.base.n = (N : Int) ∧ N ≤ 64 ∧ 1 ≤ N := by
  unfold placesL at hp
  obtain ⟨k, hk, hp⟩ := List.mem_flatMap.1 hp
  unfold rowL at hp
  split at hp
  · simp at hp; subst hp; exact badB_n h.root
  · split at hp
    · cases hp
    · rename_i t ht
      have hm := List.mem_of_getElem? ht
      obtain ⟨h1, h2⟩ := badT_parts (h.types t hm)
      cases hp with
      | head => exact badB_n h1
      | tail _ hp =>
        obtain ⟨b, hb, he, -, -⟩ := mem_paramsFrom hp
        rw [he]
        exact badB_n (h2 b hb)
theorem row_len {a : Ar} (h : Right a) (k : Nat) : (rowL a k).length ≤ 6 := by
  unfold rowL
  split
  · simp
  · split
    · simp
    · rename_i t ht
      have := h.params t (List.mem_of_getElem? ht)
      rw [List.length_cons, paramsFrom_length]; omega
theorem flat_len {α β : Type} (F : α → List β) (c : Nat) : ∀ l : List α, (∀ x ∈ l, (F x).length ≤ c) → (l.flatMap F).length ≤ l.length * c
  | [], _ => by simp
  | x :: r, h => by
    have h1 := h x List.mem_cons_self
    have h2 := flat_len F c r (fun y hy => h y (List.mem_cons_of_mem _ hy))
    rw [List.flatMap_cons, List.length_append, List.length_cons, Nat.succ_mul]; omega
theorem places_len {a : Ar} (h : Right a) : (placesL a).length ≤ 54 := by
  have := flat_len (rowL a) 6 (List.range (a.ids.length + 1)) (fun k _ => row_len h k)
  have h2 := h.ids
  unfold placesL
  rw [List.length_range] at this
  omega
theorem quest_len {p : Pl} {N : Nat} (hN : p.base.n = (N : Int)) (h : N ≤ 64) : (questP p).length ≤ 65 := by
  unfold questP putsL; rw [hN]; split <;> simp <;> omega
theorem ans_len {p : Pl} {N : Nat} (hN : p.base.n = (N : Int)) (h : N ≤ 64) : (ansP p).length ≤ 65 := by
  unfold ansP tellP tellsL; rw [hN]; split <;> simp <;> omega
theorem all_len {a : Ar} (h : Right a) : (allM a).length ≤ 7020 := by
  have h1 := flat_len movesP 130 (placesL a) (fun p hp => by
    obtain ⟨N, hN, h2, -⟩ := place_base h hp
    have := quest_len hN h2
    have := ans_len hN h2
    unfold movesP; rw [List.length_append]; omega)
  have := places_len h
  unfold allM
  omega
theorem under_len {a : Ar} (h : Right a) (p : Pl) : (underM a p).length ≤ 3510 := by
  have h1 := flat_len questP 65 ((placesL a).filter (allowP p)) (fun q hq => by
    obtain ⟨N, hN, h2, -⟩ := place_base h (List.mem_filter.1 hq).1
    exact quest_len hN h2)
  have := places_len h
  have h3 := List.length_filter_le (allowP p) (placesL a)
  unfold underM
  omega

end Go.Proofs.YtoncdnelacolaaaGreatDoor.Ar
