/- What ArenaInside asks: the moves of what stands for an identifier are those of the identifier. -/
import Derived.Test.YtoncdnelacolaaaGreatDoorASpecD
import Derived.Test.YtoncdnelacolaaaGreatDoorAAnsC
import Derived.Test.YtoncdnelacolaaaGreatDoorARefQ
namespace Go.Proofs.YtoncdnelacolaaaGreatDoor.Ar
open Go

def Lt (x y : Mv) : Prop := x.id < y.id ∨ (x.id = y.id ∧ (x.arg < y.arg ∨ (x.arg = y.arg ∧ (x.kind < y.kind ∨ (x.kind = y.kind ∧ x.n < y.n)))))
theorem lt_iff (x y : Mv) : lessM x y = true ↔ Lt x y := by
  unfold lessM Lt
  simp
  repeat' split
  all_goals omega
theorem mem_at {p : Pl} {m : Mv} (h : m ∈ movesP p) : m.id = p.id ∧ m.arg = p.arg := by
  unfold movesP questP ansP tellP at h
  simp only [List.mem_append, List.mem_cons] at h
  rcases h with (rfl | h) | h | h
  · exact ⟨rfl, rfl⟩
  · split at h
    · obtain ⟨k, _, rfl⟩ := mem_puts.1 h; exact ⟨rfl, rfl⟩
    · cases h
  · split at h
    · simp at h; subst h; exact ⟨rfl, rfl⟩
    · cases h
  · obtain ⟨k, _, rfl⟩ := mem_tells.1 h; exact ⟨rfl, rfl⟩
theorem range_up {R : Mv → Mv → Prop} (f : Nat → Mv) (hf : ∀ i j, i < j → R (f i) (f j)) (n : Nat) : ((List.range n).map f).Pairwise R := by
  rw [List.pairwise_map]
  exact List.pairwise_lt_range.imp (fun h => hf _ _ h)
theorem moves_up (p : Pl) : (movesP p).Pairwise Lt := by
  unfold movesP questP ansP tellP putsL tellsL
  rw [List.pairwise_append]
  refine ⟨?_, ?_, ?_⟩
  · rw [List.pairwise_cons]
    constructor
    · intro m hm
      split at hm
      · obtain ⟨k, _, rfl⟩ := List.mem_map.1 hm
        simp [Lt, askM, putM]
      · cases hm
    · split
      · exact range_up _ (fun i j h => by simp [Lt, putM]; omega) _
      · exact List.Pairwise.nil
  · rw [List.pairwise_append]
    refine ⟨?_, range_up _ (fun i j h => by simp [Lt, tellM]; omega) _, ?_⟩
    · split
      · exact List.pairwise_singleton _ _
      · exact List.Pairwise.nil
    · intro x hx y hy
      split at hx
      · simp at hx; subst hx
        obtain ⟨k, _, rfl⟩ := List.mem_map.1 hy
        simp [Lt, tellM]; omega
      · cases hx
  · intro x hx y hy
    have hk : x.id = p.id ∧ x.arg = p.arg ∧ x.kind < 3 := by
      rw [List.mem_cons] at hx
      rcases hx with rfl | hx
      · exact ⟨rfl, rfl, by simp [askM]⟩
      · split at hx
        · obtain ⟨k, _, rfl⟩ := List.mem_map.1 hx; exact ⟨rfl, rfl, by simp [putM]⟩
        · cases hx
    have hk2 : y.id = p.id ∧ y.arg = p.arg ∧ y.kind = 3 := by
      rw [List.mem_append] at hy
      rcases hy with hy | hy
      · split at hy
        · simp at hy; subst hy; exact ⟨rfl, rfl, rfl⟩
        · cases hy
      · obtain ⟨k, _, rfl⟩ := List.mem_map.1 hy; exact ⟨rfl, rfl, rfl⟩
    unfold Lt
    omega
/-- Places in their order. -/
def LtP (p q : Pl) : Prop := p.id < q.id ∨ (p.id = q.id ∧ p.arg < q.arg)
theorem params_up (id : Nat) : ∀ (l : List Bs) (k : Nat), (paramsFrom id k l).Pairwise LtP ∧ ∀ q ∈ paramsFrom id k l, q.id = id ∧ k ≤ q.arg
  | [], k => ⟨List.Pairwise.nil, fun q hq => by cases hq⟩
  | b :: r, k => by
    obtain ⟨h1, h2⟩ := params_up id r (k + 1)
    rw [paramsFrom, List.pairwise_cons]
    refine ⟨⟨fun q hq => ?_, h1⟩, fun q hq => ?_⟩
    · obtain ⟨e1, e2⟩ := h2 q hq
      right; exact ⟨e1.symm, by simp only; omega⟩
    · rw [List.mem_cons] at hq
      rcases hq with rfl | hq
      · exact ⟨rfl, Nat.le_refl _⟩
      · obtain ⟨e1, e2⟩ := h2 q hq
        exact ⟨e1, by omega⟩
theorem row_up (a : Ar) (n : Nat) : (rowL a n).Pairwise LtP ∧ ∀ q ∈ rowL a n, q.id = n := by
  unfold rowL
  split
  · rename_i h
    exact ⟨List.pairwise_singleton _ _, fun q hq => by simp at hq; subst hq; exact h.symm⟩
  · split
    · exact ⟨List.Pairwise.nil, fun q hq => by cases hq⟩
    · rename_i t _
      obtain ⟨h1, h2⟩ := params_up n t.params 1
      rw [List.pairwise_cons]
      refine ⟨⟨fun q hq => ?_, h1⟩, fun q hq => ?_⟩
      · obtain ⟨e1, e2⟩ := h2 q hq
        right; exact ⟨e1.symm, by simp only; omega⟩
      · rw [List.mem_cons] at hq
        rcases hq with rfl | hq
        · rfl
        · exact (h2 q hq).1
theorem places_up (a : Ar) : (placesL a).Pairwise LtP := by
  unfold placesL
  rw [List.pairwise_flatMap]
  refine ⟨fun n _ => (row_up a n).1, List.pairwise_lt_range.imp (fun h x hx y hy => ?_)⟩
  left
  rw [(row_up a _).2 x hx, (row_up a _).2 y hy]
  exact h
/-- The moves of an arena ascend. -/
theorem all_up (a : Ar) : (allM a).Pairwise Lt := by
  unfold allM
  rw [List.pairwise_flatMap]
  refine ⟨fun p _ => moves_up p, (places_up a).imp (fun h x hx y hy => ?_)⟩
  obtain ⟨e1, e2⟩ := mem_at hx
  obtain ⟨e3, e4⟩ := mem_at hy
  unfold LtP at h
  unfold Lt
  omega
theorem all_step {a : Ar} {i : Nat} {x y : Mv} (hx : (allM a)[i]? = some x) (hy : (allM a)[i + 1]? = some y) : lessM x y = true := by
  obtain ⟨h1, e1⟩ := List.getElem?_eq_some_iff.1 hx
  obtain ⟨h2, e2⟩ := List.getElem?_eq_some_iff.1 hy
  rw [lt_iff, ← e1, ← e2]
  exact List.pairwise_iff_getElem.1 (all_up a) i (i + 1) h1 h2 (by omega)

end Go.Proofs.YtoncdnelacolaaaGreatDoor.Ar

namespace Go.Proofs.YtoncdnelacolaaaGreatDoor.Ar
open Go

theorem mem_pl {a : Ar} {p : Pl} (h : p ∈ placesL a) : plAt a (p.id : Int) (p.arg : Int) = some p := by
  unfold placesL at h
  obtain ⟨n, hn, hp⟩ := List.mem_flatMap.1 h
  obtain ⟨k, hk⟩ := List.getElem?_of_mem hp
  have hpl : plAt a (n : Int) (k : Int) = some p := by unfold plAt; rw [if_neg (by omega), Int.toNat_natCast, Int.toNat_natCast]; exact hk
  obtain ⟨h1, h2⟩ := plAt_nums hpl
  rw [h1, h2]
  exact hpl
/-- A move is in the list of all just if its place has it. -/
theorem mem_all {a : Ar} {m : Mv} : m ∈ allM a ↔ ∃ p, placeM a m = some p := by
  constructor
  · intro h
    unfold allM at h
    obtain ⟨p, hp, hm⟩ := List.mem_flatMap.1 h
    obtain ⟨e1, e2⟩ := mem_at hm
    have hpl := mem_pl hp
    rw [← e1, ← e2] at hpl
    refine ⟨p, ?_⟩
    unfold placeM
    rw [hpl]
    simp only
    rw [if_pos ((hasP_iff e1.symm e2.symm).2 (List.mem_append.1 hm))]
  · rintro ⟨p, hp⟩
    obtain ⟨h1, h2, h3⟩ := placeM_mem hp
    unfold allM
    exact List.mem_flatMap.2 ⟨p, plAt_mem (placeM_pl hp), List.mem_append.2 ((hasP_iff h2.symm h3.symm).1 h1)⟩
theorem moveE_all {a : Ar} {m : Mv} (h0 : checkE a = 0) (h : m ∈ allM a) : moveE a m = 0 := by
  obtain ⟨p, hp⟩ := mem_all.1 h
  exact moveE_some h0 hp
theorem told_sub {p : Pl} {k : Nat} {m : Mv} (h : m ∈ toldP p k) : m ∈ ansP p := by
  unfold toldP at h
  unfold ansP
  split at h
  · exact h
  · unfold tellP at h ⊢
    rw [List.mem_append] at h ⊢
    rcases h with h | h
    · exact .inl h
    · obtain ⟨i, hi, rfl⟩ := mem_tells.1 h
      exact .inr (mem_tells.2 ⟨i, by omega, rfl⟩)
theorem ans_kind {p : Pl} {m : Mv} (h : m ∈ ansP p) : m.id = p.id ∧ m.arg = p.arg ∧ m.kind = 3 := by
  unfold ansP tellP at h
  rw [List.mem_append] at h
  rcases h with h | h
  · split at h
    · simp at h; subst h; exact ⟨rfl, rfl, rfl⟩
    · cases h
  · obtain ⟨k, _, rfl⟩ := mem_tells.1 h; exact ⟨rfl, rfl, rfl⟩
theorem quest_kind {p : Pl} {m : Mv} (h : m ∈ questP p) : m.id = p.id ∧ m.arg = p.arg ∧ askB m = true := by
  unfold questP at h
  rw [List.mem_cons] at h
  rcases h with rfl | h
  · exact ⟨rfl, rfl, rfl⟩
  · split at h
    · obtain ⟨k, _, rfl⟩ := mem_puts.1 h; exact ⟨rfl, rfl, rfl⟩
    · cases h
/-- The sides (P4.10): answers are of the side that did not ask, and so are the questions under a question. -/
theorem sides {a : Ar} {m x : Mv} {p : Pl} (hp : placeM a m = some p) (hk : askB m = true) (hx : x ∈ toldP p m.kind ∨ x ∈ underM a p) : x ∈ allM a ∧ otherB x = !otherB m := by
  obtain ⟨h1, h2, h3⟩ := placeM_mem hp
  rcases hx with hx | hx
  · have ha := told_sub hx
    obtain ⟨e1, e2, e3⟩ := ans_kind ha
    refine ⟨List.mem_flatMap.2 ⟨p, plAt_mem (placeM_pl hp), List.mem_append.2 (.inr ha)⟩, ?_⟩
    have hkx : askB x = false := by unfold askB; rw [e3]; rfl
    unfold otherB
    rw [hk, hkx, e1, e2, h2, h3]
    cases (decide ((0 : Int) < (p.id : Int)) && ((p.arg : Int) == 0)) <;> rfl
  · unfold underM at hx
    obtain ⟨q, hq, hm⟩ := List.mem_flatMap.1 hx
    obtain ⟨hq1, hq2⟩ := List.mem_filter.1 hq
    obtain ⟨e1, e2, e3⟩ := quest_kind hm
    refine ⟨List.mem_flatMap.2 ⟨q, hq1, List.mem_append.2 (.inl hm)⟩, ?_⟩
    have hids : ∀ r : Pl, (decide ((0 : Int) < (r.id : Int)) && ((r.arg : Int) == 0)) = isId r := fun r => by unfold isId; rw [Bool.eq_iff_iff]; simp
    unfold otherB
    rw [hk, e3, e1, e2, h2, h3, hids, hids]
    have : isId q = !isId p := by
      unfold allowP at hq2
      cases hi : isId p
      · rw [hi] at hq2; simpa using hq2
      · rw [hi] at hq2
        simp at hq2
        unfold isId
        simp; omega
    rw [this]
    cases isId p <;> rfl

end Go.Proofs.YtoncdnelacolaaaGreatDoor.Ar

namespace Go.Proofs.YtoncdnelacolaaaGreatDoor.Ar
open Go

theorem flat_mem_len {α β : Type} (F : α → List β) {p : α} : ∀ {l : List α}, p ∈ l → (F p).length ≤ (l.flatMap F).length
  | x :: r, h => by
    rw [List.flatMap_cons, List.length_append]
    rcases List.mem_cons.1 h with rfl | h
    · omega
    · have := flat_mem_len F h; omega
theorem flat_filter_len {α β : Type} (F G : α → List β) (f : α → Bool) (hF : ∀ x, (F x).length ≤ (G x).length) : ∀ l : List α, ((l.filter f).flatMap F).length ≤ (l.flatMap G).length
  | [] => by simp
  | x :: r => by
    have h := flat_filter_len F G f hF r
    have hx := hF x
    rw [List.flatMap_cons, List.length_append, List.filter_cons]
    split
    · rw [List.flatMap_cons, List.length_append]; omega
    · omega
theorem told_le (p : Pl) (k : Nat) : (toldP p k).length ≤ (movesP p).length := by
  unfold movesP ansP toldP tellP
  simp only [List.length_append, tellsL, List.length_map, List.length_range]
  generalize (if p.jumps = true then [tellM p (-1)] else []).length = J
  split <;> omega
theorem told_len_all {a : Ar} {m : Mv} {p : Pl} (hp : placeM a m = some p) (k : Nat) : (toldP p k).length ≤ (allM a).length :=
  Nat.le_trans (told_le p k) (flat_mem_len movesP (plAt_mem (placeM_pl hp)))
theorem under_len_all (a : Ar) (p : Pl) : (underM a p).length ≤ (allM a).length :=
  flat_filter_len questP movesP _ (fun x => by unfold movesP; rw [List.length_append]; omega) _
theorem told_pos {a : Ar} (hR : Right a) {m : Mv} {p : Pl} (hp : placeM a m = some p) (k : Nat) : 0 < (toldP p k).length := by
  obtain ⟨N, h1, _, h3⟩ := place_base hR (plAt_mem (placeM_pl hp))
  unfold toldP tellP
  rw [List.length_append, tellsL, List.length_map, List.length_range, h1, Int.toNat_natCast]
  generalize (if p.jumps = true then [tellM p (-1)] else []).length = J
  split <;> omega
/-- What ArenaSides asks of each move of a right arena. -/
theorem sides_all {a : Ar} {m : Mv} (h0 : checkE a = 0) (hm : m ∈ allM a) :
    whR a m = .tuple #[.bool (otherB m), .bool true] ∧
    ((ansR a m = ([], 2) ∧ undR a m = ([], 2)) ∨
     ∃ l u, ansR a m = (l, 0) ∧ undR a m = (u, 0) ∧ 0 < l.length ∧ l.length ≤ (allM a).length ∧ u.length ≤ (allM a).length ∧ ∀ x ∈ l ++ u, whR a x = .tuple #[.bool (!otherB m), .bool true]) := by
  have hw : ∀ x, x ∈ allM a → whR a x = .tuple #[.bool (otherB x), .bool true] := fun x hx => by unfold whR; rw [moveE_all h0 hx]; rfl
  refine ⟨hw m hm, ?_⟩
  obtain ⟨p, hp⟩ := mem_all.1 hm
  have he := moveE_all h0 hm
  cases hk : askB m
  · left
    unfold ansR undR
    rw [he, hk]
    exact ⟨rfl, rfl⟩
  · right
    have hpl := placeM_pl hp
    refine ⟨toldP p m.kind, underM a p, ?_, ?_, told_pos (right_of h0) hp _, told_len_all hp _, under_len_all a p, fun x hx => ?_⟩
    · unfold ansR
      rw [he, hk, toldA_some hpl]; rfl
    · unfold undR
      rw [he, hk, ← under_below a m p hpl]; rfl
    · obtain ⟨h1, h2⟩ := sides hp hk (List.mem_append.1 hx)
      rw [hw x h1, h2]

end Go.Proofs.YtoncdnelacolaaaGreatDoor.Ar

namespace Go.Proofs.YtoncdnelacolaaaGreatDoor.Ar
open Go

theorem in_all {a : Ar} {p : Pl} {m : Mv} (hp : p ∈ placesL a) (hm : m ∈ movesP p) : m ∈ allM a := List.mem_flatMap.2 ⟨p, hp, hm⟩
theorem all_nodup {a : Ar} {i j : Nat} {x : Mv} (hi : (allM a)[i]? = some x) (hj : (allM a)[j]? = some x) : i = j := by
  obtain ⟨h1, e1⟩ := List.getElem?_eq_some_iff.1 hi
  obtain ⟨h2, e2⟩ := List.getElem?_eq_some_iff.1 hj
  have hirr : ∀ y : Mv, ¬ Lt y y := fun y h => by unfold Lt at h; omega
  rcases Nat.lt_trichotomy i j with h | h | h
  · have := List.pairwise_iff_getElem.1 (all_up a) i j h1 h2 h
    rw [e1, e2] at this
    exact absurd this (hirr _)
  · exact h
  · have := List.pairwise_iff_getElem.1 (all_up a) j i h2 h1 h
    rw [e1, e2] at this
    exact absurd this (hirr _)
/-- What Answers says of each move of a right arena. -/
theorem answers_all {a : Ar} {m : Mv} (h0 : checkE a = 0) (hm : m ∈ allM a) :
    (askB m = false ∧ ansR a m = ([], 2)) ∨ (askB m = true ∧ ∃ l, ansR a m = (l, 0) ∧ l.length ≤ (allM a).length ∧ ∀ x ∈ l, x ∈ allM a ∧ x.id = m.id ∧ x.arg = m.arg ∧ x.kind = 3) := by
  obtain ⟨p, hp⟩ := mem_all.1 hm
  have he := moveE_all h0 hm
  cases hk : askB m
  · exact .inl ⟨rfl, by unfold ansR; rw [he, hk]; rfl⟩
  · right
    have hpl := placeM_pl hp
    obtain ⟨h1, h2, h3⟩ := placeM_mem hp
    refine ⟨rfl, toldP p m.kind, ?_, told_len_all hp _, fun x hx => ?_⟩
    · unfold ansR
      rw [he, hk, toldA_some hpl]; rfl
    · obtain ⟨e1, e2, e3⟩ := ans_kind (told_sub hx)
      exact ⟨in_all (plAt_mem hpl) (List.mem_append.2 (.inr (told_sub hx))), by rw [e1, h2], by rw [e2, h3], e3⟩
/-- An answer is one of a question. -/
theorem tell_asked {a : Ar} {m : Mv} (h0 : checkE a = 0) (hm : m ∈ allM a) (hk : askB m = false) : ∃ q ∈ allM a, askB q = true ∧ m ∈ (ansR a q).1 := by
  unfold allM at hm
  obtain ⟨p, hp, hmp⟩ := List.mem_flatMap.1 hm
  have hq : askM p ∈ allM a := in_all hp (List.mem_append.2 (.inl (List.mem_cons_self ..)))
  refine ⟨askM p, hq, rfl, ?_⟩
  have hpl : plAt a (askM p).id (askM p).arg = some p := mem_pl hp
  have he := moveE_all h0 hq
  have hans : (ansR a (askM p)).1 = toldP p 1 := by
    unfold ansR
    rw [he, show askB (askM p) = true from rfl, toldA_some hpl]; rfl
  rw [hans, told_one]
  rcases List.mem_append.1 hmp with h | h
  · rw [(quest_kind h).2.2] at hk; cases hk
  · exact h
/-- What is told after some moves. -/
def Told (a : Ar) (T : List Bool) (i : Nat) : Prop :=
  T.length = (allM a).length ∧ ∀ i' : Nat, i' < i → ∀ m : Mv, (allM a)[i']? = some m → askB m = true → T[i']? = some true ∧ ∀ x ∈ (ansR a m).1, ∀ j : Nat, (allM a)[j]? = some x → T[j]? = some true
theorem set_true {T : List Bool} {j : Nat} (k : Nat) (h : T[j]? = some true) : (T.set k true)[j]? = some true := by
  have hj := (List.getElem?_eq_some_iff.1 h).1
  rw [List.getElem?_set]
  split
  · rename_i e; subst e; rw [if_pos hj]
  · exact h
theorem Told.set {a : Ar} {T : List Bool} {i : Nat} (h : Told a T i) (k : Nat) : Told a (T.set k true) i :=
  ⟨by rw [List.length_set]; exact h.1, fun i' hi m hm hk => by
    obtain ⟨h1, h2⟩ := h.2 i' hi m hm hk
    exact ⟨set_true k h1, fun x hx j hj => set_true k (h2 x hx j hj)⟩⟩
theorem Told.zero (a : Ar) : Told a (List.replicate (allM a).length false) 0 := ⟨List.length_replicate, fun i' hi => by omega⟩
/-- A move that is no question is passed over. -/
theorem Told.skip {a : Ar} {T : List Bool} {i : Nat} {m : Mv} (h : Told a T i) (hm : (allM a)[i]? = some m) (hk : askB m = false) : Told a T (i + 1) :=
  ⟨h.1, fun i' hi m' hm' hk' => by
    by_cases e : i' = i
    · subst e
      rw [hm] at hm'
      cases hm'
      rw [hk] at hk'; cases hk'
    · exact h.2 i' (by omega) m' hm' hk'⟩
/-- What is told amid the answers of a question. -/
def ToldIn (a : Ar) (T : List Bool) (i n : Nat) (l : List Mv) : Prop :=
  Told a T i ∧ T[i]? = some true ∧ ∀ n' : Nat, n' < n → ∀ x : Mv, l[n']? = some x → ∀ j : Nat, (allM a)[j]? = some x → T[j]? = some true
theorem Told.begin {a : Ar} {T : List Bool} {i : Nat} {m : Mv} (h : Told a T i) (hm : (allM a)[i]? = some m) (l : List Mv) : ToldIn a (T.set i true) i 0 l := by
  have hi := (List.getElem?_eq_some_iff.1 hm).1
  refine ⟨h.set i, ?_, fun n' hn => by omega⟩
  rw [List.getElem?_set, if_pos rfl, if_pos (by rw [h.1]; exact hi)]
theorem ToldIn.step {a : Ar} {T : List Bool} {i n k : Nat} {l : List Mv} {x : Mv} (h : ToldIn a T i n l) (hx : l[n]? = some x) (hk : (allM a)[k]? = some x) : ToldIn a (T.set k true) i (n + 1) l := by
  obtain ⟨h1, h2, h3⟩ := h
  refine ⟨h1.set k, set_true k h2, fun n' hn y hy j hj => ?_⟩
  by_cases e : n' = n
  · subst e
    rw [hx] at hy
    cases hy
    have := all_nodup hj hk
    subst this
    have hl := (List.getElem?_eq_some_iff.1 hj).1
    rw [List.getElem?_set, if_pos rfl, if_pos (by rw [h1.1]; exact hl)]
  · exact set_true k (h3 n' (by omega) y hy j hj)
theorem ToldIn.done {a : Ar} {T : List Bool} {i : Nat} {m : Mv} {l : List Mv} (h : ToldIn a T i l.length l) (hm : (allM a)[i]? = some m) (hl : (ansR a m).1 = l) : Told a T (i + 1) := by
  obtain ⟨h1, h2, h3⟩ := h
  refine ⟨h1.1, fun i' hi m' hm' hk' => ?_⟩
  by_cases e : i' = i
  · subst e
    rw [hm] at hm'
    cases hm'
    refine ⟨h2, fun x hx j hj => ?_⟩
    rw [hl] at hx
    obtain ⟨n', hn⟩ := List.getElem?_of_mem hx
    exact h3 n' (List.getElem?_eq_some_iff.1 hn).1 x hn j hj
  · exact h1.2 i' (by omega) m' hm' hk'
/-- In the end all is told. -/
theorem Told.all {a : Ar} {T : List Bool} (h0 : checkE a = 0) (h : Told a T (allM a).length) {j : Nat} (hj : j < T.length) : T[j]? = some true := by
  have hj' : j < (allM a).length := by rw [← h.1]; exact hj
  have hm := List.getElem?_eq_getElem hj'
  have hmem := List.getElem_mem hj'
  generalize (allM a)[j] = m at hm hmem
  cases hk : askB m
  · obtain ⟨q, hq, hqa, hqm⟩ := tell_asked h0 hmem hk
    obtain ⟨i, hi⟩ := List.getElem?_of_mem hq
    exact (h.2 i (List.getElem?_eq_some_iff.1 hi).1 q hi hqa).2 m hqm j hm
  · exact (h.2 j hj' m hm hk).1
/-- What ArenaAll asks of each place. -/
theorem place_all {a : Ar} {id arg : Int} {p : Pl} (h0 : checkE a = 0) (hp : plAt a id arg = some p) :
    (⟨id, arg, 1, 0⟩ : Mv) ∈ allM a ∧ (⟨id, arg, 3, 0⟩ : Mv) ∈ allM a ∧ ((⟨id, arg, 2, 0⟩ : Mv) ∈ allM a ↔ p.base.cell = true) := by
  obtain ⟨h1, h2⟩ := plAt_nums' hp
  have hmem := plAt_mem hp
  obtain ⟨N, hN, _, hN1⟩ := place_base (right_of h0) hmem
  refine ⟨?_, ?_, ?_⟩
  · refine in_all hmem (List.mem_append.2 (.inl ?_))
    unfold questP askM
    rw [h1, h2]
    exact List.mem_cons_self ..
  · refine in_all hmem (List.mem_append.2 (.inr (List.mem_append.2 (.inr (mem_tells.2 ⟨0, ?_, ?_⟩)))))
    · rw [hN]; omega
    · unfold tellM; rw [h1, h2]; rfl
  · constructor
    · intro h
      obtain ⟨q, hq⟩ := mem_all.1 h
      have hqp := placeM_pl hq
      simp only at hqp
      rw [hp] at hqp
      cases hqp
      obtain ⟨hh, _, _⟩ := placeM_mem hq
      unfold hasP at hh
      simpa using (by simpa using hh : p.base.cell = true ∧ isValP p 0 = true).1
    · intro hc
      refine in_all hmem (List.mem_append.2 (.inl ?_))
      unfold questP
      rw [if_pos hc]
      refine List.mem_cons_of_mem _ (mem_puts.2 ⟨0, ?_, ?_⟩)
      · rw [hN]; omega
      · unfold putM; rw [h1, h2]; rfl

end Go.Proofs.YtoncdnelacolaaaGreatDoor.Ar

namespace Go.Proofs.YtoncdnelacolaaaGreatDoor.Ar
open Go

/-- A move of an identifier, as one of what stands for it. -/
def inMv (m : Mv) : Mv := ⟨m.arg, 0, m.kind, m.n⟩
def inPl (p : Pl) : Pl := ⟨p.base, p.arg, 0, p.jumps⟩
/-- What stands for an identifier of a type. -/
def inAr (a : Ar) (t : Ty) : Ar := ⟨t.params.map fun b => ⟨[], b⟩, t.result, a.jumps || decide (0 < t.params.length)⟩
theorem moves_in (p : Pl) : (movesP p).map inMv = movesP (inPl p) := by
  unfold movesP questP ansP tellP putsL tellsL
  rw [List.map_append, List.map_append, List.map_cons, List.map_map]
  congr 1
  · congr 1
    show List.map inMv (if p.base.cell = true then _ else _) = if p.base.cell = true then _ else _
    split
    · rw [List.map_map]; rfl
    · rfl
  · congr 1
    show List.map inMv (if p.jumps = true then _ else _) = if p.jumps = true then _ else _
    split <;> rfl
theorem places_in (a : Ar) (k : Nat) (t : Ty) (ht : a.ids[k]? = some t) : (rowL a (k + 1)).map inPl = placesL (inAr a t) := by
  have hrow : rowL a (k + 1) = ⟨t.result, k + 1, 0, a.jumps || decide (0 < t.params.length)⟩ :: paramsFrom (k + 1) 1 t.params := by
    unfold rowL
    rw [if_neg (by omega), show k + 1 - 1 = k from rfl, ht]
  have hlen : (inAr a t).ids.length = t.params.length := by unfold inAr; exact List.length_map _
  have hz : rowL (inAr a t) 0 = [inPl ⟨t.result, k + 1, 0, a.jumps || decide (0 < t.params.length)⟩] := by
    unfold rowL; rw [if_pos rfl]; rfl
  have hs : ∀ j, rowL (inAr a t) (j + 1) = (((paramsFrom (k + 1) 1 t.params)[j]?).map fun p => [inPl p]).getD [] := by
    intro j
    unfold rowL
    rw [if_neg (by omega), show j + 1 - 1 = j from rfl, paramsFrom_get]
    unfold inAr
    simp only [List.getElem?_map]
    cases hj : t.params[j]? with
    | none => rfl
    | some b =>
      have hl : 0 < t.params.length := by have := (List.getElem?_eq_some_iff.1 hj).1; omega
      simp [paramsFrom, inPl, hl, Nat.add_comm]
  unfold placesL
  rw [hrow, hlen, List.range_succ_eq_map, List.flatMap_cons, hz, List.flatMap_map, List.map_cons]
  rw [show (fun j => rowL (inAr a t) (Nat.succ j)) = fun j => (((paramsFrom (k + 1) 1 t.params)[j]?).map fun p => [inPl p]).getD [] from funext hs]
  rw [flat_get (fun p => [inPl p]) _ _ (by rw [paramsFrom_length]; omega)]
  rw [List.singleton_append]
  congr 1
  exact List.map_eq_flatMap ..
theorem all_in (a : Ar) (k : Nat) (t : Ty) (ht : a.ids[k]? = some t) : ((rowL a (k + 1)).flatMap movesP).map inMv = allM (inAr a t) := by
  unfold allM
  rw [← places_in a k t ht, List.map_flatMap, List.flatMap_map]
  congr 1
  funext p
  exact moves_in p
theorem row_moves (a : Ar) (n : Nat) {m : Mv} (h : m ∈ (rowL a n).flatMap movesP) : m.id = (n : Int) := by
  obtain ⟨p, hp, hm⟩ := List.mem_flatMap.1 h
  rw [(mem_at hm).1, (row_up a n).2 p hp]
theorem filter_id (a : Ar) {n : Nat} (hn : n < a.ids.length + 1) : (allM a).filter (fun m => decide (m.id = (n : Int))) = (rowL a n).flatMap movesP := by
  unfold allM placesL
  rw [List.flatMap_assoc, List.filter_flatMap]
  rw [flatMap_one (a.ids.length + 1) n _ hn (fun k hk hne => ?_)]
  · exact List.filter_eq_self.2 (fun m hm => by simp [row_moves a n hm])
  · exact List.filter_eq_nil_iff.2 (fun m hm => by have := row_moves a k hm; simp; omega)
/-- How many of the first moves are of an identifier. -/
def cntI (L : List Mv) (n : Int) (i : Nat) : Nat := ((L.take i).filter (fun m => decide (m.id = n))).length
theorem cnt_le (L : List Mv) (n : Int) (i : Nat) : cntI L n i ≤ L.length := by
  unfold cntI
  exact Nat.le_trans (List.length_filter_le _ _) (by rw [List.length_take]; omega)
theorem cnt_yes {L : List Mv} {n : Int} {i : Nat} {m : Mv} (h : L[i]? = some m) (hm : m.id = n) : cntI L n (i + 1) = cntI L n i + 1 := by
  unfold cntI
  rw [List.take_add_one, h, List.filter_append, List.length_append]
  simp [hm]
theorem cnt_no {L : List Mv} {n : Int} {i : Nat} {m : Mv} (h : L[i]? = some m) (hm : m.id ≠ n) : cntI L n (i + 1) = cntI L n i := by
  unfold cntI
  rw [List.take_add_one, h, List.filter_append, List.length_append]
  simp [hm]
theorem cnt_all {a : Ar} {k : Nat} {t : Ty} (ht : a.ids[k]? = some t) : cntI (allM a) ((k : Int) + 1) (allM a).length = (allM (inAr a t)).length := by
  have hk := (List.getElem?_eq_some_iff.1 ht).1
  unfold cntI
  rw [List.take_length, show ((k : Int) + 1) = ((k + 1 : Nat) : Int) from rfl, filter_id a (by omega), ← all_in a k t ht, List.length_map]
theorem smallB_parts {a : Ar} (h : smallB a = true) : thinB a = true ∧ checkE a = 0 ∧ (allM a).length ≤ 300 := by
  unfold smallB at h
  simp only [Bool.and_eq_true, decide_eq_true_eq] at h
  exact h
theorem check_in {a : Ar} {k : Nat} {t : Ty} (h0 : checkE a = 0) (ht : a.ids[k]? = some t) : checkE (inAr a t) = 0 := by
  have hR := right_of h0
  have hmem := List.mem_of_getElem? ht
  have hp := hR.params t hmem
  obtain ⟨hr, hps⟩ := badT_parts (hR.types t hmem)
  unfold checkE inAr
  rw [if_neg, if_neg]
  · simp only [Bool.or_eq_true, not_or, Bool.not_eq_true]
    refine ⟨hr, ?_⟩
    rw [List.any_eq_false]
    intro x hx
    obtain ⟨b, hb, rfl⟩ := List.mem_map.1 hx
    simp [badT, hps b hb]
  · simp only [Bool.or_eq_true, not_or, Bool.not_eq_true, List.length_map]
    refine ⟨by simp; omega, ?_⟩
    rw [List.any_eq_false]
    intro x hx
    obtain ⟨b, hb, rfl⟩ := List.mem_map.1 hx
    simp [wideT]
theorem small_in {a : Ar} {k : Nat} {t : Ty} (hs : smallB a = true) (ht : a.ids[k]? = some t) : smallB (inAr a t) = true := by
  obtain ⟨_, h0, hl⟩ := smallB_parts hs
  have hp := (right_of h0).params t (List.mem_of_getElem? ht)
  have hc := cnt_all ht
  have hle := cnt_le (allM a) ((k : Int) + 1) (allM a).length
  unfold smallB
  simp only [Bool.and_eq_true, decide_eq_true_eq]
  refine ⟨?_, check_in h0 ht, by omega⟩
  unfold thinB inAr
  simp only [Bool.and_eq_true, decide_eq_true_eq, List.length_map, Bool.not_eq_true', List.any_eq_false]
  refine ⟨by omega, fun x hx => ?_⟩
  obtain ⟨b, hb, rfl⟩ := List.mem_map.1 hx
  simp
/-- What ArenaInside asks of each move of the identifier. -/
theorem inside_all {a : Ar} {k : Nat} {t : Ty} {m : Mv} (h0 : checkE a = 0) (ht : a.ids[k]? = some t) (hm : m ∈ allM a) (hid : m.id = (k : Int) + 1) :
    inMv m ∈ allM (inAr a t) ∧ whR a m = .tuple #[.bool (otherB m), .bool true] ∧ whR (inAr a t) (inMv m) = .tuple #[.bool (!otherB m), .bool true] := by
  have hk := (List.getElem?_eq_some_iff.1 ht).1
  have hin : inMv m ∈ allM (inAr a t) := by
    rw [← all_in a k t ht]
    refine List.mem_map_of_mem ?_
    rw [← filter_id a (show k + 1 < a.ids.length + 1 by omega)]
    exact List.mem_filter.2 ⟨hm, by simpa using hid⟩
  have harg : 0 ≤ m.arg := by
    unfold allM at hm
    obtain ⟨p, _, hmp⟩ := List.mem_flatMap.1 hm
    rw [(mem_at hmp).2]; omega
  refine ⟨hin, ?_, ?_⟩
  · unfold whR; rw [moveE_all h0 hm]; rfl
  · unfold whR
    rw [moveE_all (check_in h0 ht) hin]
    have : otherB (inMv m) = !otherB m := by
      unfold otherB
      have e1 : decide (0 < m.id) = true := by rw [decide_eq_true_eq]; omega
      have e2 : decide (0 < (inMv m).id) = !(m.arg == 0) := by
        show decide (0 < m.arg) = !(m.arg == 0)
        rw [Bool.eq_iff_iff]; simp; omega
      have e3 : askB (inMv m) = askB m := rfl
      have e4 : ((inMv m).arg == 0) = true := rfl
      rw [e1, e2, e3, e4]
      cases (m.arg == 0) <;> cases askB m <;> rfl
    rw [this]; rfl

end Go.Proofs.YtoncdnelacolaaaGreatDoor.Ar
