/- What the reference says, over plain arenas: the moves of a place by lists, what a question allows. -/
import Derived.Test.YtoncdnelacolaaaGreatDoorASpecC
namespace Go.Proofs.YtoncdnelacolaaaGreatDoor.Ar
open Go

def eqM (x y : Mv) : Bool := x.id == y.id && x.arg == y.arg && x.kind == y.kind && x.n == y.n
theorem eqM_iff {x y : Mv} : eqM x y = true ↔ x = y := by
  obtain ⟨a, b, c, d⟩ := x
  obtain ⟨e, f, g, h⟩ := y
  simp only [eqM, Bool.and_eq_true, beq_iff_eq, Mv.mk.injEq]
  constructor
  · rintro ⟨⟨⟨h1, h2⟩, h3⟩, h4⟩; exact ⟨h1, h2, h3, h4⟩
  · rintro ⟨h1, h2, h3, h4⟩; exact ⟨⟨⟨h1, h2⟩, h3⟩, h4⟩

/-- The answers to a question of a kind. -/
def toldP (p : Pl) (kind : Nat) : List Mv := tellP p (if kind = 1 then p.base.n.toNat else min 1 p.base.n.toNat)
def questA (a : Ar) (id arg : Int) : List Mv := match plAt a id arg with
  | none => []
  | some p => questP p
def toldA (a : Ar) (id arg : Int) (kind : Nat) : List Mv := match plAt a id arg with
  | none => []
  | some p => toldP p kind
theorem told_one (p : Pl) : toldP p 1 = ansP p := by simp [toldP, ansP]

theorem mem_puts {p : Pl} {m : Mv} : m ∈ putsL p ↔ ∃ k : Nat, k < p.base.n.toNat ∧ putM p k = m := by simp [putsL]
theorem mem_tells {p : Pl} {m : Mv} {c : Nat} : m ∈ tellsL p c ↔ ∃ k : Nat, k < c ∧ tellM p k = m := by simp [tellsL]
theorem hasP_iff {p : Pl} {m : Mv} (hi : (p.id : Int) = m.id) (ha : (p.arg : Int) = m.arg) : hasP p m = true ↔ m ∈ questP p ∨ m ∈ ansP p := by
  obtain ⟨id, arg, kind, n⟩ := m
  simp only at hi ha
  subst hi ha
  have hq : (⟨p.id, p.arg, kind, n⟩ : Mv) ∈ questP p ↔ (kind = 1 ∧ n = 0) ∨ (p.base.cell = true ∧ kind = 2 ∧ 0 ≤ n ∧ n < p.base.n) := by
    unfold questP
    rw [List.mem_cons]
    have h1 : (⟨p.id, p.arg, kind, n⟩ : Mv) = askM p ↔ kind = 1 ∧ n = 0 := by simp [askM]
    rw [h1]
    apply or_congr Iff.rfl
    cases hc : p.base.cell
    · simp
    · rw [if_pos rfl, mem_puts]
      constructor
      · rintro ⟨k, hk, he⟩
        simp [putM] at he
        obtain ⟨rfl, rfl⟩ := he
        exact ⟨rfl, rfl, by omega, by omega⟩
      · rintro ⟨-, rfl, h1, h2⟩
        exact ⟨n.toNat, by omega, by simp [putM]; omega⟩
  have ht : (⟨p.id, p.arg, kind, n⟩ : Mv) ∈ ansP p ↔ kind = 3 ∧ ((p.jumps = true ∧ n = -1) ∨ (0 ≤ n ∧ n < p.base.n)) := by
    unfold ansP tellP
    rw [List.mem_append, mem_tells]
    constructor
    · rintro (h | ⟨k, hk, he⟩)
      · cases hj : p.jumps
        · rw [hj] at h; simp at h
        · rw [hj] at h
          simp [tellM] at h
          exact ⟨h.1, .inl ⟨rfl, h.2⟩⟩
      · simp [tellM] at he
        obtain ⟨rfl, rfl⟩ := he
        exact ⟨rfl, .inr ⟨by omega, by omega⟩⟩
    · rintro ⟨rfl, ⟨hj, rfl⟩ | ⟨h1, h2⟩⟩
      · left; rw [if_pos hj]; simp [tellM]
      · right; exact ⟨n.toNat, by omega, by simp [tellM]; omega⟩
  rw [hq, ht]
  unfold hasP isValP
  simp only [Bool.or_eq_true, Bool.and_eq_true, beq_iff_eq, decide_eq_true_eq]
  constructor
  · rintro ((⟨h1, h2⟩ | ⟨⟨h1, h2⟩, h3, h4⟩) | ⟨h1, ⟨h2, h3⟩ | ⟨h2, h3⟩⟩)
    · exact .inl (.inl ⟨h1, h2⟩)
    · exact .inl (.inr ⟨h2, h1, h3, h4⟩)
    · exact .inr ⟨h1, .inr ⟨h2, h3⟩⟩
    · exact .inr ⟨h1, .inl ⟨h2, h3⟩⟩
  · rintro ((⟨h1, h2⟩ | ⟨h1, h2, h3, h4⟩) | ⟨h1, ⟨h2, h3⟩ | ⟨h2, h3⟩⟩)
    · exact .inl (.inl ⟨h1, h2⟩)
    · exact .inl (.inr ⟨⟨h2, h1⟩, h3, h4⟩)
    · exact .inr ⟨h1, .inr ⟨h2, h3⟩⟩
    · exact .inr ⟨h1, .inl ⟨h2, h3⟩⟩

theorem plAt_nums' {a : Ar} {id arg : Int} {p : Pl} (h : plAt a id arg = some p) : (p.id : Int) = id ∧ (p.arg : Int) = arg := by
  by_cases hn : id < 0 ∨ arg < 0
  · unfold plAt at h; rw [if_pos hn] at h; cases h
  · obtain ⟨i, rfl⟩ : ∃ i : Nat, id = i := ⟨id.toNat, by omega⟩
    obtain ⟨j, rfl⟩ : ∃ j : Nat, arg = j := ⟨arg.toNat, by omega⟩
    obtain ⟨h1, h2⟩ := plAt_nums h
    omega
/-- A move is one of an arena's just if it is in one of the lists of its place. -/
theorem has_any_iff (a : Ar) (m : Mv) : ((questA a m.id m.arg).any (eqM · m) || (toldA a m.id m.arg 1).any (eqM · m)) = (placeM a m).isSome := by
  unfold questA toldA placeM
  cases hp : plAt a m.id m.arg with
  | none => simp
  | some p =>
    obtain ⟨hi, ha⟩ := plAt_nums' hp
    have hh := hasP_iff hi ha
    simp only [told_one]
    rw [Bool.eq_iff_iff, Bool.or_eq_true, List.any_eq_true, List.any_eq_true]
    have e1 : ∀ l : List Mv, (∃ x ∈ l, eqM x m = true) ↔ m ∈ l := fun l => ⟨fun ⟨x, hx, he⟩ => eqM_iff.1 he ▸ hx, fun h => ⟨m, h, eqM_iff.2 rfl⟩⟩
    rw [e1, e1, ← hh]
    cases hasP p m <;> simp

/-- The questions that a question of a place allows, place by place. -/
def belowA (a : Ar) (id arg : Int) : List Mv :=
  if 0 < id ∧ arg = 0 then (match a.ids[id.toNat - 1]? with
    | none => []
    | some t => (paramsFrom id.toNat 1 t.params).flatMap questP)
  else (List.range a.ids.length).flatMap fun (k : Nat) => questA a ((k : Int) + 1) 0

theorem filter_row_id (a : Ar) (p : Pl) (hp : isId p = true) (k : Nat) : (rowL a k).filter (allowP p) = if k = p.id then (match a.ids[k - 1]? with | none => [] | some t => paramsFrom k 1 t.params) else [] := by
  have hid : 0 < p.id := by simp [isId] at hp; exact hp.1
  have hal : ∀ q : Pl, allowP p q = (q.id == p.id && decide (0 < q.arg)) := fun q => by unfold allowP; rw [if_pos hp]
  have hfalse : ∀ (k : Nat) (l : List Bs) (j : Nat), k ≠ p.id → (paramsFrom k j l).filter (allowP p) = [] := by
    intro k l
    induction l with
    | nil => intro j _; rfl
    | cons b r ih => intro j h; rw [paramsFrom, List.filter_cons, hal]; simp [h, ih _ h]
  have htrue : ∀ (l : List Bs) (j : Nat), 0 < j → (paramsFrom p.id j l).filter (allowP p) = paramsFrom p.id j l := by
    intro l
    induction l with
    | nil => intro j _; rfl
    | cons b r ih => intro j h; rw [paramsFrom, List.filter_cons, hal]; simp [h, ih (j + 1) (by omega)]
  unfold rowL
  by_cases h0 : k = 0
  · subst h0
    rw [if_pos rfl, if_neg (by omega)]
    rw [List.filter_cons, hal]; simp
  · rw [if_neg h0]
    cases ht : a.ids[k - 1]? with
    | none => by_cases hk : k = p.id <;> simp [hk]
    | some t =>
      simp only
      rw [List.filter_cons, hal]
      by_cases hk : k = p.id
      · subst hk
        simp [htrue t.params 1 (by omega)]
      · simp [hk, hfalse k t.params 1 hk]
theorem filter_row_not (a : Ar) (p : Pl) (hp : isId p = false) (k : Nat) : (rowL a k).filter (allowP p) = if k = 0 then [] else (match a.ids[k - 1]? with | none => [] | some t => [⟨t.result, k, 0, a.jumps || decide (0 < t.params.length)⟩]) := by
  have hal : ∀ q : Pl, allowP p q = isId q := fun q => by unfold allowP; rw [hp]; simp
  have hfalse : ∀ (l : List Bs) (j : Nat), 0 < j → (paramsFrom k j l).filter (allowP p) = [] := by
    intro l
    induction l with
    | nil => intro j _; rfl
    | cons b r ih =>
      intro j h
      rw [paramsFrom, List.filter_cons, hal]
      have : isId ⟨b, k, j, true⟩ = false := by simp [isId]; omega
      rw [this, ih (j + 1) (by omega)]; simp
  unfold rowL
  by_cases h0 : k = 0
  · subst h0
    rw [if_pos rfl, if_pos rfl, List.filter_cons, hal]
    simp [isId]
  · rw [if_neg h0, if_neg h0]
    cases ht : a.ids[k - 1]? with
    | none => rfl
    | some t =>
      simp only
      rw [List.filter_cons, hal, hfalse t.params 1 (by omega)]
      have : isId ⟨t.result, k, 0, a.jumps || decide (0 < t.params.length)⟩ = true := by simp [isId]; omega
      rw [if_pos this]
theorem flatMap_one {β : Type} (n j : Nat) (f : Nat → List β) (hj : j < n) (hf : ∀ k, k < n → k ≠ j → f k = []) : (List.range n).flatMap f = f j := by
  induction n with
  | zero => omega
  | succ n ih =>
    rw [List.range_succ, List.flatMap_append, List.flatMap_singleton]
    by_cases h : j = n
    · subst h
      have : (List.range j).flatMap f = [] := by
        rw [List.flatMap_eq_nil_iff]
        intro x hx
        exact hf x (by have := List.mem_range.1 hx; omega) (by have := List.mem_range.1 hx; omega)
      rw [this, List.nil_append]
    · rw [hf n (by omega) (Ne.symm h), List.append_nil, ih (by omega) (fun k h1 h2 => hf k (by omega) h2)]
theorem under_below (a : Ar) (m : Mv) (p : Pl) (hp : plAt a m.id m.arg = some p) : underM a p = belowA a m.id m.arg := by
  obtain ⟨hi, ha⟩ := plAt_nums' hp
  unfold underM belowA placesL
  rw [List.filter_flatMap]
  cases hid : isId p
  · have hc : ¬ (0 < m.id ∧ m.arg = 0) := by
      simp [isId] at hid
      rw [← hi, ← ha]
      rintro ⟨h1, h2⟩
      have := hid (by omega)
      omega
    rw [if_neg hc]
    rw [show ((fun b => List.filter (allowP p) (rowL a b)) : Nat → List Pl) = fun k => if k = 0 then [] else (match a.ids[k - 1]? with | none => [] | some t => [⟨t.result, k, 0, a.jumps || decide (0 < t.params.length)⟩]) from funext fun k => filter_row_not a p hid k]
    rw [List.range_succ_eq_map, List.flatMap_cons, if_pos rfl, List.nil_append, List.flatMap_map, List.flatMap_assoc]
    apply flatMap_congr'
    intro k hk
    have hk := List.mem_range.1 hk
    have ht := List.getElem?_eq_getElem hk
    generalize a.ids[k] = t at ht
    have hpl := plAt_id (a := a) (id := k + 1) (t := t) (by omega) (by simpa using ht)
    unfold questA
    rw [show ((k : Int) + 1) = ((k + 1 : Nat) : Int) from by omega, hpl]
    rw [if_neg (by omega)]
    simp [ht]
  · have hid' := hid
    simp [isId] at hid'
    have hc : 0 < m.id ∧ m.arg = 0 := by rw [← hi, ← ha]; omega
    rw [if_pos hc]
    have hidn : m.id.toNat = p.id := by omega
    rw [hidn]
    rw [show ((fun b => List.filter (allowP p) (rowL a b)) : Nat → List Pl) = fun k => if k = p.id then (match a.ids[k - 1]? with | none => [] | some t => paramsFrom k 1 t.params) else [] from funext fun k => filter_row_id a p hid k]
    by_cases hlt : p.id < a.ids.length + 1
    · rw [flatMap_one _ p.id _ hlt (fun k _ hk => if_neg hk), if_pos rfl]
      cases a.ids[p.id - 1]? <;> rfl
    · have h1 : a.ids[p.id - 1]? = none := List.getElem?_eq_none (by omega)
      rw [h1]
      have : (List.range (a.ids.length + 1)).flatMap (fun k => if k = p.id then (match a.ids[k - 1]? with | none => [] | some t => paramsFrom k 1 t.params) else []) = [] := by
        rw [List.flatMap_eq_nil_iff]
        intro x hx
        have := List.mem_range.1 hx
        exact if_neg (by omega)
      rw [this]; rfl
where
  flatMap_congr' {α β : Type} {l : List α} {f g : α → List β} (h : ∀ x ∈ l, f x = g x) : l.flatMap f = l.flatMap g := by
    induction l with
    | nil => rfl
    | cons x r ih => rw [List.flatMap_cons, List.flatMap_cons, h x List.mem_cons_self, ih (fun y hy => h y (List.mem_cons_of_mem _ hy))]

end Go.Proofs.YtoncdnelacolaaaGreatDoor.Ar
