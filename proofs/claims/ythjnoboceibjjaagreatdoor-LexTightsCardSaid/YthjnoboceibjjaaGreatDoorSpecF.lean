/- The tokens and comments as the document's own functions find them: plain lists. -/
import Derived.Test.YthjnoboceibjjaaGreatDoorSpecB
namespace Go.Proofs.YthjnoboceibjjaaGreatDoor.Lx

/-- What is wrong with the token that begins at a place (no blank stands there). -/
def tkErr (s : ByteArray) (a : Nat) : Nat := if cls (bt s a) = 3 then 4 else (piece s a).err

/-- No byte inside a token begins a comment. -/
theorem runTo_inside (p : Nat → Bool) (s : ByteArray) : ∀ (f a j : Nat), a ≤ j → j < runTo p s f a → p (bt s j) = true := by
  intro f
  induction f with
  | zero => intro a j h1 h2; rw [runTo] at h2; omega
  | succ f ih =>
    intro a j h1 h2
    rw [runTo] at h2
    split at h2
    · rename_i h
      by_cases hj : j = a
      · rw [hj]; exact h.2
      · exact ih (a + 1) j (by omega) h2
    · omega
theorem runEnd_inside {p : Nat → Bool} {s : ByteArray} {a j : Nat} (h1 : a ≤ j) (h2 : j < runEnd p s a) : p (bt s j) = true := runTo_inside p s _ a j h1 h2
theorem inside_piece {s : ByteArray} {a j : Nat} (h3 : cls (bt s a) ≠ 3) (h1 : a ≤ j) (h2 : j < pieceEnd s a) : cls (bt s j) ≠ 3 := by
  unfold pieceEnd at h2
  rw [if_neg h3] at h2
  split at h2
  · have := runEnd_inside h1 h2
    unfold aln at this
    have h := of_decide_eq_true this
    simp at h
    omega
  · split at h2
    · rename_i h7
      have ht := h7.2
      by_cases hj : j = a
      · rw [hj]; exact h3
      · have : j = a + 1 := by omega
        subst this
        simp only [two, Bool.or_eq_true, Bool.and_eq_true, beq_iff_eq] at ht
        rcases ht with ⟨_, h⟩ | ⟨_, h⟩ <;> rw [h] <;> decide
    · have : j = a := by omega
      rw [this]; exact h3

/-- The comments of pieces. -/
def ntsL (l : List Pc) : List Tk := (l.filter (fun p => p.tk.kind == 5)).map Pc.tk

theorem kind5 {s : ByteArray} {a : Nat} (_ha : a < s.size) : (piece s a).tk.kind = 5 ↔ cls (bt s a) = 3 := by
  have hb : bt (s.extract a (pieceEnd s a)) 0 = bt s a := by
    have h1 := lt_pieceEnd _ha
    unfold bt
    have e : (s.extract a (pieceEnd s a)).data.toList = (s.data.toList.drop a).take (pieceEnd s a - a) := by
      simp [ByteArray.data_extract, List.extract_eq_take_drop]
    rw [e]
    simp only [List.getD_eq_getElem?_getD, List.getElem?_take, List.getElem?_drop, if_pos (show 0 < pieceEnd s a - a by omega), Nat.add_zero]
  show (kindOf (s.extract a (pieceEnd s a))).1 = 5 ↔ _
  unfold kindOf
  rw [hb]
  constructor
  · intro h
    split at h
    · assumption
    · split at h
      · split at h
        · cases h
        · split at h <;> cases h
      · split at h
        · cases h
        · split at h <;> cases h
  · intro h; rw [if_pos h]

theorem ntsL_skip {s : ByteArray} {a : Nat} (ha : a < s.size) (h2 : cls (bt s a) ≠ 2) (h3 : cls (bt s a) ≠ 3) : ntsL (piecesFrom s a) = ntsL (piecesFrom s (pieceEnd s a)) := by
  rw [pieces_piece ha h2]
  unfold ntsL
  rw [List.filter_cons_of_neg]
  intro h
  exact h3 ((kind5 ha).1 (by simpa using h))
theorem ntsL_note {s : ByteArray} {a : Nat} (ha : a < s.size) (h3 : cls (bt s a) = 3) : ntsL (piecesFrom s a) = (piece s a).tk :: ntsL (piecesFrom s (pieceEnd s a)) := by
  rw [pieces_piece ha (by rw [h3]; decide)]
  unfold ntsL
  rw [List.filter_cons_of_pos (by simpa using (kind5 ha).2 h3), List.map_cons]

/-- The comments from a place on, byte by byte. -/
def ntBy (s : ByteArray) : Nat → Nat → List Tk
  | 0, _ => []
  | f + 1, a => if a < s.size then (if cls (bt s a) = 3 then (piece s a).tk :: ntBy s f (pieceEnd s a) else ntBy s f (a + 1)) else []
theorem ntBy_more (s : ByteArray) : ∀ (f g a : Nat), s.size - a ≤ f → s.size - a ≤ g → ntBy s f a = ntBy s g a
  | 0, 0, _, _, _ => rfl
  | 0, g + 1, a, h, _ => by rw [ntBy, ntBy, if_neg (by omega)]
  | f + 1, 0, a, _, h => by rw [ntBy, ntBy, if_neg (by omega)]
  | f + 1, g + 1, a, hf, hg => by
    rw [ntBy, ntBy]
    by_cases hl : a < s.size
    · rw [if_pos hl, if_pos hl]
      have := lt_pieceEnd hl
      split
      · rw [ntBy_more s f g (pieceEnd s a) (by omega) (by omega)]
      · exact ntBy_more s f g (a + 1) (by omega) (by omega)
    · rw [if_neg hl, if_neg hl]
theorem ntBy_run (s : ByteArray) : ∀ (n f a : Nat), a + n ≤ s.size → s.size - a ≤ f → (∀ j, a ≤ j → j < a + n → cls (bt s j) ≠ 3) → ntBy s f a = ntBy s f (a + n) := by
  intro n
  induction n with
  | zero => intro f a _ _ _; rfl
  | succ n ih =>
    intro f a h1 h2 h3
    obtain ⟨f, rfl⟩ : ∃ k, f = k + 1 := ⟨f - 1, by omega⟩
    rw [ntBy, if_pos (by omega), if_neg (h3 a (Nat.le_refl _) (by omega)), ntBy_more s f (f + 1) (a + 1) (by omega) (by omega), ih (f + 1) (a + 1) (by omega) (by omega) (fun j j1 j2 => h3 j (by omega) (by omega)), show a + 1 + n = a + (n + 1) by omega]
theorem ntBy_pieces (s : ByteArray) : ∀ (f a : Nat), s.size - a ≤ f → ntBy s f a = ntsL (piecesFrom s a) := by
  intro f
  induction f using Nat.strongRecOn with
  | _ f ih =>
    intro a hf
    by_cases ha : a < s.size
    · obtain ⟨f, rfl⟩ : ∃ k, f = k + 1 := ⟨f - 1, by omega⟩
      have hlt := lt_pieceEnd ha
      have hle := pieceEnd_le ha
      by_cases h3 : cls (bt s a) = 3
      · rw [ntBy, if_pos ha, if_pos h3, ntsL_note ha h3, ih f (by omega) _ (by omega)]
      · by_cases h2 : cls (bt s a) = 2
        · rw [ntBy, if_pos ha, if_neg h3, pieces_blank ha h2, ih f (by omega) _ (by omega)]
        · rw [ntsL_skip ha h2 h3, ← ih f (by omega) (pieceEnd s a) (by omega)]
          rw [ntBy_run s (pieceEnd s a - a) (f + 1) a (by omega) hf (fun j j1 j2 => inside_piece h3 j1 (by omega)), show a + (pieceEnd s a - a) = pieceEnd s a by omega]
          exact ntBy_more s _ _ _ (by omega) (by omega)
    · rw [pieces_end (by omega)]
      cases f with
      | zero => rfl
      | succ f => rw [ntBy, if_neg ha]; rfl

def ntsFrom (s : ByteArray) (a : Nat) : List Tk := ntsL (piecesFrom s a)
theorem ntsFrom_note {s : ByteArray} {a : Nat} (ha : a < s.size) (h3 : cls (bt s a) = 3) : ntsFrom s a = (piece s a).tk :: ntsFrom s (pieceEnd s a) := ntsL_note ha h3
theorem ntsFrom_byte {s : ByteArray} {a : Nat} (ha : a < s.size) (h3 : cls (bt s a) ≠ 3) : ntsFrom s a = ntsFrom s (a + 1) := by
  show ntsL (piecesFrom s a) = ntsL (piecesFrom s (a + 1))
  rw [← ntBy_pieces s (s.size - a) a (Nat.le_refl _), ← ntBy_pieces s (s.size - a) (a + 1) (by omega), ntBy_run s 1 (s.size - a) a (by omega) (Nat.le_refl _) (fun j j1 j2 => by rw [show j = a by omega]; exact h3)]
theorem ntsFrom_end {s : ByteArray} {a : Nat} (ha : s.size ≤ a) : ntsFrom s a = [] := by unfold ntsFrom; rw [pieces_end ha]; rfl

end Go.Proofs.YthjnoboceibjjaaGreatDoor.Lx
