/- Brackets that belong together: what Pairs comes to, as a plain function. -/
import Derived.Test.YthjnoboceibjjaaGreatDoorWalkP
import Derived.Test.YthjnoboceibjjaaGreatDoorSpecL
namespace Go.Proofs.YthjnoboceibjjaaGreatDoor.Lx
open Go Go.Proofs Go.RowKit Go.Shelf

def opB (x : Tk) : Bool := decide (x.text.toList = [40]) || decide (x.text.toList = [123])
def clB (x : Tk) : Bool := decide (x.text.toList = [41]) || decide (x.text.toList = [125])
/-- Does a bracket belong to a closing one? -/
def fitB (x y : Tk) : Bool := (decide (x.text.toList = [40]) && decide (y.text.toList = [41])) || (decide (x.text.toList = [123]) && decide (y.text.toList = [125]))

/-- The token of a number. -/
def nthTk (l : List Tk) (n : Nat) : Tk := l.getD n ⟨0, ⟨#[]⟩, 0⟩

/-- From a token on, with the partners so far and the open ones. -/
def pgo (l : List Tk) : List Tk → Nat → List Int → List Nat → List Int × Nat × Nat
  | [], _, o, s => if s.length = 0 then (o, 0, 0) else ([], s.getD 0 0, 4)
  | x :: r, k, o, s =>
    if opB x = true then pgo l r (k + 1) (o ++ [-1]) (s ++ [k])
    else if clB x = true then
      if s.length = 0 then ([], k, 4)
      else if fitB (nthTk l (s.getLastD 0)) x = true then pgo l r (k + 1) ((o ++ [((s.getLastD 0 : Nat) : Int)]).set (s.getLastD 0) (k : Int)) s.dropLast
      else ([], k, 4)
    else pgo l r (k + 1) (o ++ [-1]) s
def pairsOf (l : List Tk) : List Int × Nat × Nat := if toksErr l ≠ 0 then ([], 0, toksErr l) else pgo l l 0 [] []

/-- What holds of the open ones: they are tokens before, and open. -/
def OpenAt (l : List Tk) (k : Nat) (s : List Nat) : Prop := ∀ t ∈ s, t < k ∧ opB (nthTk l t) = true
theorem OpenAt.snoc {l : List Tk} {k : Nat} {s : List Nat} (h : OpenAt l k s) (ho : opB (nthTk l k) = true) : OpenAt l (k + 1) (s ++ [k]) := by
  intro t ht
  rcases List.mem_append.1 ht with ht | ht
  · exact ⟨by have := (h t ht).1; omega, (h t ht).2⟩
  · simp at ht; subst ht; exact ⟨by omega, ho⟩
theorem OpenAt.next {l : List Tk} {k : Nat} {s : List Nat} (h : OpenAt l k s) : OpenAt l (k + 1) s := fun t ht => ⟨by have := (h t ht).1; omega, (h t ht).2⟩
theorem last_of : ∀ (s : List Nat), 0 < s.length → ∃ q t, s = q ++ [t]
  | [], h => absurd h (by decide)
  | [a], _ => ⟨[], a, rfl⟩
  | a :: b :: r, _ => by
    obtain ⟨q, t, h⟩ := last_of (b :: r) (by simp)
    exact ⟨a :: q, t, by rw [h]; rfl⟩
theorem OpenAt.pop {l : List Tk} {k t : Nat} {q : List Nat} (h : OpenAt l k (q ++ [t])) : OpenAt l (k + 1) q := fun y hy => ⟨by have := (h y (by simp [hy])).1; omega, (h y (by simp [hy])).2⟩
theorem OpenAt.last {l : List Tk} {k : Nat} {s : List Nat} (h : OpenAt l k s) (h0 : 0 < s.length) : ∃ q t, s = q ++ [t] ∧ t < k ∧ opB (nthTk l t) = true ∧ s.getLastD 0 = t ∧ s.dropLast = q ∧ q.length + 1 = s.length := by
  obtain ⟨q, t, rfl⟩ := last_of s h0
  exact ⟨q, t, rfl, (h t (by simp)).1, (h t (by simp)).2, by simp, by simp, by simp⟩

theorem pgo_open {l r : List Tk} {k : Nat} {o : List Int} {s : List Nat} {x : Tk} (h : opB x = true) : pgo l (x :: r) k o s = pgo l r (k + 1) (o ++ [-1]) (s ++ [k]) := by rw [pgo, if_pos h]
theorem pgo_else {l r : List Tk} {k : Nat} {o : List Int} {s : List Nat} {x : Tk} (h : opB x = false) (h2 : clB x = false) : pgo l (x :: r) k o s = pgo l r (k + 1) (o ++ [-1]) s := by
  rw [pgo, if_neg (by rw [h]; decide), if_neg (by rw [h2]; decide)]
theorem pgo_none {l r : List Tk} {k : Nat} {o : List Int} {s : List Nat} {x : Tk} (h : opB x = false) (h2 : clB x = true) (h0 : s.length = 0) : pgo l (x :: r) k o s = ([], k, 4) := by
  rw [pgo, if_neg (by rw [h]; decide), if_pos h2, if_pos h0]
theorem pgo_bad {l r : List Tk} {k : Nat} {o : List Int} {s : List Nat} {x : Tk} (h : opB x = false) (h2 : clB x = true) (h0 : 0 < s.length) (h3 : fitB (nthTk l (s.getLastD 0)) x = false) : pgo l (x :: r) k o s = ([], k, 4) := by
  rw [pgo, if_neg (by rw [h]; decide), if_pos h2, if_neg (by omega), if_neg (by rw [h3]; decide)]
theorem pgo_fit {l r : List Tk} {k : Nat} {o : List Int} {s : List Nat} {x : Tk} (h : opB x = false) (h2 : clB x = true) (h0 : 0 < s.length) (h3 : fitB (nthTk l (s.getLastD 0)) x = true) :
    pgo l (x :: r) k o s = pgo l r (k + 1) ((o ++ [((s.getLastD 0 : Nat) : Int)]).set (s.getLastD 0) (k : Int)) s.dropLast := by
  rw [pgo, if_neg (by rw [h]; decide), if_pos h2, if_neg (by omega), if_pos h3]

/-- A right token that is a bracket is a sign. -/
theorem text_of {b : ByteArray} {n : UInt8} (h : b.toList = [n]) : b = ⟨#[n]⟩ := by
  rw [ByteArray.toList_eq] at h
  cases b with
  | mk d => cases d with
    | mk q => dsimp only at h; subst h; rfl
set_option maxRecDepth 100000 in
theorem good_sign {x : Tk} (hg : goodTk x = true) (ho : opB x = true ∨ clB x = true) : x.kind = 4 := by
  have h : (kindOf x.text).1 = x.kind := by
    unfold goodTk at hg
    simp only [Bool.and_eq_true, decide_eq_true_eq] at hg
    exact hg.2.2
  have k1 : (kindOf ⟨#[40]⟩).1 = 4 := by decide +kernel
  have k2 : (kindOf ⟨#[123]⟩).1 = 4 := by decide +kernel
  have k3 : (kindOf ⟨#[41]⟩).1 = 4 := by decide +kernel
  have k4 : (kindOf ⟨#[125]⟩).1 = 4 := by decide +kernel
  unfold opB clB at ho
  simp only [Bool.or_eq_true, decide_eq_true_eq] at ho
  rcases ho with (e | e) | (e | e)
  · rw [text_of e, k1] at h; exact h.symm
  · rw [text_of e, k2] at h; exact h.symm
  · rw [text_of e, k3] at h; exact h.symm
  · rw [text_of e, k4] at h; exact h.symm
theorem nth_at {l : List Tk} {k : Nat} (h : k < l.length) : nthTk l k = l[k] := by
  unfold nthTk; rw [List.getD_eq_getElem?_getD, List.getElem?_eq_getElem h]; rfl
theorem set_snoc (o : List Int) (k : Nat) (a b : Int) (h : o.length = k) : (o ++ [a]).set k b = o ++ [b] := by
  subst h
  rw [List.set_append_right _ _ (Nat.le_refl _)]; simp

end Go.Proofs.YthjnoboceibjjaaGreatDoor.Lx
