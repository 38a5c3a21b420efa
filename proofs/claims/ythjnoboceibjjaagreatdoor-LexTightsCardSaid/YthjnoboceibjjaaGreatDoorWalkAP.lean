/- LexShorter: the shortest text with the tokens of a text. -/
import Derived.Test.YthjnoboceibjjaaGreatDoorWalkAO
import Derived.Test.YthjnoboceibjjaaGreatDoorSpecL
namespace Go.Proofs.YthjnoboceibjjaaGreatDoor.Lx
open Go Go.Proofs Go.RowKit Go.Shelf

theorem piece_text (s : ByteArray) {a : Nat} (h : a < s.size) : (piece s a).tk.text.size ≤ s.size := by
  have h0 : (piece s a).tk = ⟨(kindOf (s.extract a (pieceEnd s a))).1, trimT (s.extract a (pieceEnd s a)), a⟩ := rfl
  rw [h0]
  have := pieceEnd_le h
  unfold trimT
  dsimp only
  split
  · simp; omega
  · simp; omega
theorem toks_text (s : ByteArray) : ∀ (f a : Nat), s.size - a ≤ f → ∀ x ∈ toksOf (piecesFrom s a), x.text.size ≤ s.size := by
  intro f
  induction f with
  | zero => intro a hf x hx; rw [pieces_end (by omega)] at hx; simp [toksOf] at hx
  | succ f ih =>
    intro a hf x hx
    by_cases ha : a < s.size
    · by_cases h2 : cls (bt s a) = 2
      · rw [pieces_blank ha h2] at hx; exact ih (a + 1) (by omega) x hx
      · have hlt := lt_pieceEnd ha
        rw [pieces_piece ha h2] at hx
        unfold toksOf at hx
        rw [List.filter_cons] at hx
        split at hx
        · rw [List.map_cons] at hx
          rcases List.mem_cons.1 hx with rfl | hx
          · exact piece_text s ha
          · exact ih (pieceEnd s a) (by omega) x hx
        · exact ih (pieceEnd s a) (by omega) x hx
    · rw [pieces_end (by omega)] at hx; simp [toksOf] at hx
theorem tokens_text {s : ByteArray} (h : (tokens s).2.2 = 0) : ∀ x ∈ (tokens s).1, x.text.size ≤ s.size := by
  rw [(tokens_parts h).2.1]
  exact toks_text s _ 0 (Nat.le_refl _)

theorem tkCells_len : ∀ l : List Tk, (tkCells l).length = l.length * 3 := by
  intro l
  induction l with
  | nil => rfl
  | cons x r ih => show ([_, _, _] ++ tkCells r).length = _; rw [List.length_append, ih]; simp; omega
theorem tkCells_one (l : List Tk) : ∀ u ∈ tkCells l, u.oneCell' = true := by
  intro u hu
  simp only [tkCells, List.mem_flatMap] at hu
  obtain ⟨x, _, hx⟩ := hu
  simp at hx
  rcases hx with rfl | rfl | rfl <;> rfl

theorem SameB.at_ : ∀ {l m : List Tk}, l.length = m.length → (∀ (j : Nat) (x y : Tk), l[j]? = some x → m[j]? = some y → x.kind = y.kind ∧ x.text = y.text) → SameB l m
  | [], [], _, _ => trivial
  | x :: r, y :: q, h, hj => ⟨(hj 0 x y rfl rfl).1, (hj 0 x y rfl rfl).2, SameB.at_ (by simpa using h) (fun j u v hu hv => hj (j + 1) u v (by simpa using hu) (by simpa using hv))⟩
  | [], _ :: _, h, _ => by simp at h
  | _ :: _, [], h, _ => by simp at h
theorem SameB.of_ : ∀ {l m : List Tk}, SameB l m → ∀ (j : Nat) (x y : Tk), l[j]? = some x → m[j]? = some y → x.kind = y.kind ∧ x.text = y.text
  | x :: r, y :: q, ⟨h1, h2, h3⟩, j, u, v, hu, hv => by
    cases j with
    | zero => simp at hu hv; subst hu; subst hv; exact ⟨h1, h2⟩
    | succ j => exact SameB.of_ h3 j u v (by simpa using hu) (by simpa using hv)
  | [], [], _, j, u, v, hu, _ => by simp at hu
  | [], _ :: _, h, _, _, _, _, _ => h.elim
  | _ :: _, [], h, _, _, _, _, _ => h.elim

end Go.Proofs.YthjnoboceibjjaaGreatDoor.Lx
