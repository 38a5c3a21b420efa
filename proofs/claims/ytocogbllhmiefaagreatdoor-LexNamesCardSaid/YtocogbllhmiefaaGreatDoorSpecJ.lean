/- What a splice leaves of the tokens of a text: plain lists. -/
import Derived.Test.YtocogbllhmiefaaGreatDoorSpecI
namespace Go.Proofs.YtocogbllhmiefaaGreatDoor.Lx
open Go Go.Proofs Go.RowKit Go.Shelf

/-- How many elements of two lists are the same, from the first on. -/
def comL (eq : Tk → Tk → Bool) : List Tk → List Tk → Nat
  | x :: r, y :: q => if eq x y = true then 1 + comL eq r q else 0
  | _, _ => 0
theorem comL_le (eq : Tk → Tk → Bool) : ∀ (l m : List Tk), comL eq l m ≤ l.length ∧ comL eq l m ≤ m.length
  | [], m => by simp [comL]
  | _ :: _, [] => by simp [comL]
  | x :: r, y :: q => by
    rw [comL]
    have := comL_le eq r q
    split <;> simp <;> omega
theorem comL_ge (eq : Tk → Tk → Bool) : ∀ (n : Nat) (l m : List Tk), n ≤ l.length → n ≤ m.length → (∀ i, i < n → ∃ x y, l[i]? = some x ∧ m[i]? = some y ∧ eq x y = true) → n ≤ comL eq l m := by
  intro n
  induction n with
  | zero => intros; omega
  | succ n ih =>
    intro l m hl hm h
    match l, m with
    | [], _ => simp at hl
    | _ :: _, [] => simp at hm
    | x :: r, y :: q =>
      obtain ⟨x', y', h1, h2, h3⟩ := h 0 (by omega)
      simp at h1 h2
      subst h1; subst h2
      rw [comL, if_pos h3]
      have := ih r q (by simpa using hl) (by simpa using hm) (fun i hi => by
        obtain ⟨x', y', h1, h2, h3⟩ := h (i + 1) (by omega)
        exact ⟨x', y', by simpa using h1, by simpa using h2, h3⟩)
      omega

/-- A token that stands g places farther. -/
def moveT (g : Int) (x y : Tk) : Bool := decide (x.kind = y.kind) && (decide (x.text.toList = y.text.toList) && decide ((x.pos : Int) + g = y.pos))

/-- The error of what a splice leaves, and how many tokens stay. -/
def keptErr (s : ByteArray) (x : Sp) : Nat :=
  if splErr s [x] ≠ 0 then splErr s [x] else if (tokens s).2.2 ≠ 0 then (tokens s).2.2 else (tokens (applied s [x])).2.2
def keptHead (s : ByteArray) (x : Sp) : Nat := if keptErr s x = 0 then comL sameTk (tokens s).1 (tokens (applied s [x])).1 else 0
def keptTail (s : ByteArray) (x : Sp) : Nat :=
  if keptErr s x = 0 then comL (moveT (((applied s [x]).size : Int) - s.size)) ((tokens s).1.drop (keptHead s x)).reverse ((tokens (applied s [x])).1.drop (keptHead s x)).reverse else 0

/-- Places of the tokens from a place on. -/
theorem toks_pos (s : ByteArray) : ∀ (f a : Nat), s.size - a ≤ f → ∀ x ∈ toksOf (piecesFrom s a), a ≤ x.pos := by
  intro f
  induction f with
  | zero => intro a hf x hx; rw [pieces_end (by omega)] at hx; simp [toksOf] at hx
  | succ f ih =>
    intro a hf x hx
    by_cases ha : a < s.size
    · by_cases h2 : cls (bt s a) = 2
      · rw [pieces_blank ha h2] at hx
        have := ih (a + 1) (by omega) x hx; omega
      · have hlt := lt_pieceEnd ha
        by_cases h3 : cls (bt s a) = 3
        · rw [pieces_piece ha h2] at hx
          have e : toksOf (piece s a :: piecesFrom s (pieceEnd s a)) = toksOf (piecesFrom s (pieceEnd s a)) := by
            unfold toksOf; rw [List.filter_cons_of_neg (by simpa using (kind5 ha).2 h3)]
          rw [e] at hx
          have := ih (pieceEnd s a) (by omega) x hx; omega
        · rw [toks_cons ha h2 h3] at hx
          rcases List.mem_cons.1 hx with rfl | hx
          · exact Nat.le_refl _
          · have := ih (pieceEnd s a) (by omega) x hx; omega
    · rw [pieces_end (by omega)] at hx; simp [toksOf] at hx

/-- Bytes that are the same up to a place: so is a piece that ends before it. -/
theorem piece_before {s t : ByteArray} {F a : Nat} (hs : F ≤ s.size) (ht : F ≤ t.size) (h : ∀ j, j < F → bt s j = bt t j) (he : pieceEnd s a < F) (ha : a < pieceEnd s a) : pieceEnd t a = pieceEnd s a ∧ piece t a = piece s a := by
  have key : pieceEnd t a = pieceEnd s a := by
    have run : ∀ p : Nat → Bool, runEnd p s a < F → runEnd p t a = runEnd p s a := by
      intro p hp
      have hst := runTo_end p s (s.size - a) a (Nat.le_refl _)
      have hst' : s.size ≤ runEnd p s a ∨ p (bt s (runEnd p s a)) = false := hst
      refine runEnd_eq (by omega) (.inr ?_) _ a rfl (le_runEnd p s a) (fun j j1 j2 => ?_)
      · rw [← h _ hp]
        rcases hst' with h1 | h1
        · omega
        · exact h1
      · rw [← h j (by omega)]; exact runEnd_inside j1 j2
    have e0 := h a (by omega)
    unfold pieceEnd at he ⊢
    rw [← e0]
    by_cases h3 : cls (bt s a) = 3
    · rw [if_pos h3] at he ⊢; rw [if_pos h3]; exact run _ he
    · rw [if_neg h3] at he ⊢
      rw [if_neg h3]
      by_cases h4 : cls (bt s a) = 4 ∨ cls (bt s a) = 6
      · rw [if_pos h4] at he ⊢; rw [if_pos h4]; exact run _ he
      · rw [if_neg h4] at he ⊢
        rw [if_neg h4]
        have ht2 : two t a = two s a := by
          have e1 : bt s (a + 1) = bt t (a + 1) := h _ (by split at he <;> omega)
          unfold two; rw [e0, e1]
        rw [ht2]
  refine ⟨key, ?_⟩
  have hx : t.extract a (pieceEnd t a) = s.extract a (pieceEnd s a) := by
    refine str_of_list' ?_
    rw [key, extract_list, extract_list]
    apply List.ext_getElem?
    intro i
    rw [List.getElem?_take, List.getElem?_take]
    by_cases hi : i < pieceEnd s a - a
    · rw [if_pos hi, if_pos hi, List.getElem?_drop, List.getElem?_drop]
      exact (bt_list (by omega) (by omega) (h (a + i) (by omega))).symm
    · rw [if_neg hi, if_neg hi]
  unfold piece
  rw [hx]

/-- How many tokens end before a place. -/
def endsB (F : Nat) (l : List Tk) : Nat := (l.filter fun x => decide (x.pos + x.text.size < F)).length
theorem ends_far {F : Nat} {l : List Tk} (h : ∀ x ∈ l, F ≤ x.pos) : endsB F l = 0 := by
  unfold endsB
  rw [List.filter_eq_nil_iff.2 (fun x hx => by have := h x hx; simp; omega)]; rfl
theorem head_ge {s t : ByteArray} {F : Nat} (hs : F ≤ s.size) (ht : F ≤ t.size) (h : ∀ j, j < F → bt s j = bt t j) : ∀ (f a : Nat), s.size - a ≤ f → a ≤ F → (∀ p ∈ piecesFrom s a, p.tk.kind ≠ 5 → p.err = 0) →
    endsB F (toksOf (piecesFrom s a)) ≤ comL sameTk (toksOf (piecesFrom s a)) (toksOf (piecesFrom t a)) := by
  intro f
  induction f with
  | zero => intro a hf _ _; rw [pieces_end (by omega)]; simp [toksOf, endsB]
  | succ f ih =>
    intro a hf haF he
    by_cases haF2 : a = F
    · rw [ends_far (fun x hx => by have := toks_pos s _ a (Nat.le_refl _) x hx; omega)]; omega
    · have ha : a < s.size := by omega
      have ha' : a < t.size := by omega
      have e0 := h a (by omega)
      by_cases h2 : cls (bt s a) = 2
      · rw [pieces_blank ha h2] at he
        rw [pieces_blank ha h2, pieces_blank ha' (by rw [← e0]; exact h2)]
        exact ih (a + 1) (by omega) (by omega) he
      · have hlt := lt_pieceEnd ha
        have he' := he
        rw [pieces_piece ha h2] at he'
        by_cases hF : pieceEnd s a < F
        · obtain ⟨k1, k2⟩ := piece_before hs ht h hF hlt
          have i1 := ih (pieceEnd s a) (by omega) (by omega) (fun p hp => he' p (List.mem_cons_of_mem _ hp))
          by_cases h3 : cls (bt s a) = 3
          · have e1 : toksOf (piecesFrom s a) = toksOf (piecesFrom s (pieceEnd s a)) := by
              rw [pieces_piece ha h2]; unfold toksOf; rw [List.filter_cons_of_neg (by simpa using (kind5 ha).2 h3)]
            have e2 : toksOf (piecesFrom t a) = toksOf (piecesFrom t (pieceEnd s a)) := by
              rw [pieces_piece ha' (by rw [← e0]; exact h2), k1]; unfold toksOf; rw [List.filter_cons_of_neg (by simpa using (kind5 ha').2 (by rw [← e0]; exact h3))]
            rw [e1, e2]; exact i1
          · rw [toks_cons ha h2 h3, toks_cons ha' (by rw [← e0]; exact h2) (by rw [← e0]; exact h3), k1, k2, comL, if_pos ((sameTk_iff _ _).2 rfl)]
            have : endsB F ((piece s a).tk :: toksOf (piecesFrom s (pieceEnd s a))) ≤ 1 + endsB F (toksOf (piecesFrom s (pieceEnd s a))) := by
              unfold endsB; rw [List.filter_cons]; split <;> simp <;> omega
            omega
        · have hz : endsB F (toksOf (piecesFrom s a)) = 0 := by
            by_cases h3 : cls (bt s a) = 3
            · have e1 : toksOf (piecesFrom s a) = toksOf (piecesFrom s (pieceEnd s a)) := by
                rw [pieces_piece ha h2]; unfold toksOf; rw [List.filter_cons_of_neg (by simpa using (kind5 ha).2 h3)]
              rw [e1]
              exact ends_far (fun x hx => by have := toks_pos s _ _ (Nat.le_refl _) x hx; omega)
            · have hpe := he' _ List.mem_cons_self (fun e => h3 ((kind5 ha).1 e))
              obtain ⟨_, tx, px⟩ := tok_good ha h3 hpe
              have hle := pieceEnd_le ha
              have hz : (piece s a).tk.text.size = pieceEnd s a - a := by rw [tx]; simp; omega
              rw [toks_cons ha h2 h3]
              unfold endsB
              rw [List.filter_cons_of_neg (by rw [px, hz]; simp; omega)]
              exact ends_far (fun x hx => by have := toks_pos s _ _ (Nat.le_refl _) x hx; omega)
          omega

theorem runTo_le_bad' (p : Nat → Bool) (s : ByteArray) (k : Nat) (hp : p (bt s k) = false) : ∀ (f a : Nat), a ≤ k → runTo p s f a ≤ k := by
  intro f
  induction f with
  | zero => intro a h; exact h
  | succ f ih =>
    intro a h
    rw [runTo]
    split
    · rename_i h2
      by_cases e : a = k
      · rw [e, hp] at h2; exact absurd h2.2 (by decide)
      · exact ih (a + 1) (by omega)
    · exact h
theorem runEnd_le_bad' {p : Nat → Bool} {s : ByteArray} {k a : Nat} (hp : p (bt s k) = false) (h : a ≤ k) : runEnd p s a ≤ k := runTo_le_bad' p s k hp _ a h
/-- A line feed parts the tokens. -/
theorem line_cut {s : ByteArray} {L : Nat} (hL : L < s.size) (hb : bt s L = 10) : ∀ (f a : Nat), L - a ≤ f → a ≤ L → ∃ X, toksOf (piecesFrom s a) = X ++ toksOf (piecesFrom s L) ∧ ∀ x ∈ X, x.pos < L := by
  intro f
  induction f with
  | zero => intro a h1 h2; rw [show a = L by omega]; exact ⟨[], rfl, fun x hx => by cases hx⟩
  | succ f ih =>
    intro a h1 h2
    by_cases haL : a = L
    · rw [haL]; exact ⟨[], rfl, fun x hx => by cases hx⟩
    · have ha : a < s.size := by omega
      by_cases hc2 : cls (bt s a) = 2
      · rw [pieces_blank ha hc2]; exact ih (a + 1) (by omega) (by omega)
      · have hlt := lt_pieceEnd ha
        have hle : pieceEnd s a ≤ L := by
          unfold pieceEnd
          split
          · exact runEnd_le_bad' (by rw [hb]; rfl) (by omega)
          · split
            · exact runEnd_le_bad' (by rw [hb]; rfl) (by omega)
            · split
              · rename_i h7
                by_cases e : a + 1 = L
                · have := h7.2
                  unfold two at this
                  rw [e, hb] at this
                  simp at this
                · omega
              · omega
        obtain ⟨X, hX, hx⟩ := ih (pieceEnd s a) (by omega) hle
        by_cases hc3 : cls (bt s a) = 3
        · refine ⟨X, ?_, hx⟩
          rw [← hX, pieces_piece ha hc2]; unfold toksOf; rw [List.filter_cons_of_neg (by simpa using (kind5 ha).2 hc3)]
        · refine ⟨(piece s a).tk :: X, by rw [toks_cons ha hc2 hc3, hX]; rfl, fun x hm => ?_⟩
          rcases List.mem_cons.1 hm with rfl | hm
          · show a < L; omega
          · exact hx x hm

/-- The same bytes from two places on: the same tokens, so many places farther. -/
def Moved_ (g : Int) : List Tk → List Tk → Prop
  | [], [] => True
  | x :: r, y :: q => moveT g x y = true ∧ Moved_ g r q
  | _, _ => False
theorem Moved_.at_ : ∀ {g : Int} {l m : List Tk}, Moved_ g l m → l.length = m.length ∧ ∀ (i : Nat) (x y : Tk), l[i]? = some x → m[i]? = some y → moveT g x y = true
  | _, [], [], _ => ⟨rfl, fun i x y h => by simp at h⟩
  | g, x :: r, y :: q, ⟨h1, h2⟩ => by
    obtain ⟨i1, i2⟩ := Moved_.at_ h2
    refine ⟨by simp [i1], fun i x' y' hx hy => ?_⟩
    cases i with
    | zero => simp at hx hy; subst hx; subst hy; exact h1
    | succ i => exact i2 i x' y' (by simpa using hx) (by simpa using hy)
  | _, [], _ :: _, h => h.elim
  | _, _ :: _, [], h => h.elim
theorem drop_bt {s t : ByteArray} {a b : Nat} (h : t.data.toList.drop b = s.data.toList.drop a) (j : Nat) : bt t (b + j) = bt s (a + j) := by
  unfold bt
  have := congrArg (fun l : List UInt8 => l[j]?) h
  simp only [List.getElem?_drop] at this
  rw [List.getD_eq_getElem?_getD, List.getD_eq_getElem?_getD, this]
theorem piece_drop {s t : ByteArray} {a b : Nat} (ha : a < s.size) (h : t.data.toList.drop b = s.data.toList.drop a) :
    b < t.size ∧ pieceEnd t b = b + (pieceEnd s a - a) ∧ (piece t b).tk.kind = (piece s a).tk.kind ∧ (piece t b).tk.text = (piece s a).tk.text ∧ t.data.toList.drop (pieceEnd t b) = s.data.toList.drop (pieceEnd s a) := by
  have hlen := congrArg List.length h
  rw [List.length_drop, List.length_drop, len_list, len_list] at hlen
  have hb : b < t.size := by omega
  have hlt := lt_pieceEnd ha
  have hle := pieceEnd_le ha
  have e0 : bt t b = bt s a := by have := drop_bt h 0; simpa using this
  have key : pieceEnd t b = b + (pieceEnd s a - a) := by
    have run : ∀ p : Nat → Bool, runEnd p t b = b + (runEnd p s a - a) := by
      intro p
      have h1 := le_runEnd p s a
      have h2 := runEnd_le (p := p) (Nat.le_of_lt ha)
      have hst : s.size ≤ runEnd p s a ∨ p (bt s (runEnd p s a)) = false := runTo_end p s (s.size - a) a (Nat.le_refl _)
      refine runEnd_eq (by omega) ?_ _ b rfl (by omega) (fun j j1 j2 => ?_)
      · rcases hst with h3 | h3
        · exact .inl (by omega)
        · refine .inr ?_
          have := drop_bt h (runEnd p s a - a)
          rw [show a + (runEnd p s a - a) = runEnd p s a by omega] at this
          rw [this]; exact h3
      · have := drop_bt h (j - b)
        rw [show b + (j - b) = j by omega] at this
        rw [this]; exact runEnd_inside (a := a) (by omega) (by omega)
    unfold pieceEnd
    rw [e0]
    by_cases h3 : cls (bt s a) = 3
    · rw [if_pos h3, if_pos h3]; exact run _
    · rw [if_neg h3, if_neg h3]
      by_cases h4 : cls (bt s a) = 4 ∨ cls (bt s a) = 6
      · rw [if_pos h4, if_pos h4]; exact run _
      · rw [if_neg h4, if_neg h4]
        have : two t b = two s a := by unfold two; rw [e0, drop_bt h 1]
        rw [this]
        split <;> omega
  have hx : t.extract b (pieceEnd t b) = s.extract a (pieceEnd s a) := by
    refine str_of_list' ?_
    rw [extract_list, extract_list, h, key, show b + (pieceEnd s a - a) - b = pieceEnd s a - a by omega]
  refine ⟨hb, key, ?_, ?_, ?_⟩
  · unfold piece; rw [hx]
  · unfold piece; rw [hx]
  · have e1 : t.data.toList.drop (pieceEnd t b) = (t.data.toList.drop b).drop (pieceEnd s a - a) := by rw [List.drop_drop, key]
    rw [e1, h, List.drop_drop, show a + (pieceEnd s a - a) = pieceEnd s a by omega]
theorem moved_drop {s t : ByteArray} {g : Int} : ∀ (f a b : Nat), s.size - a ≤ f → (b : Int) = a + g → t.data.toList.drop b = s.data.toList.drop a → Moved_ g (toksOf (piecesFrom s a)) (toksOf (piecesFrom t b)) := by
  intro f
  induction f with
  | zero =>
    intro a b hf _ h
    have hlen := congrArg List.length h
    rw [List.length_drop, List.length_drop, len_list, len_list] at hlen
    rw [pieces_end (by omega), pieces_end (by omega)]; exact trivial
  | succ f ih =>
    intro a b hf hg h
    have hlen := congrArg List.length h
    rw [List.length_drop, List.length_drop, len_list, len_list] at hlen
    by_cases ha : a < s.size
    · have e0 : bt t b = bt s a := by have := drop_bt h 0; simpa using this
      by_cases h2 : cls (bt s a) = 2
      · rw [pieces_blank ha h2, pieces_blank (s := t) (a := b) (by omega) (by rw [e0]; exact h2)]
        refine ih (a + 1) (b + 1) (by omega) (by omega) ?_
        rw [← List.drop_drop, ← List.drop_drop, h]
      · obtain ⟨hb, k1, k2, k3, k4⟩ := piece_drop ha h
        have hlt := lt_pieceEnd ha
        have hle := pieceEnd_le ha
        have i1 := ih (pieceEnd s a) (pieceEnd t b) (by omega) (by omega) k4
        by_cases h3 : cls (bt s a) = 3
        · have e1 : toksOf (piecesFrom s a) = toksOf (piecesFrom s (pieceEnd s a)) := by
            rw [pieces_piece ha h2]; unfold toksOf; rw [List.filter_cons_of_neg (by simpa using (kind5 ha).2 h3)]
          have e2 : toksOf (piecesFrom t b) = toksOf (piecesFrom t (pieceEnd t b)) := by
            rw [pieces_piece hb (by rw [e0]; exact h2)]; unfold toksOf; rw [List.filter_cons_of_neg (by simpa using (kind5 hb).2 (by rw [e0]; exact h3))]
          rw [e1, e2]; exact i1
        · rw [toks_cons ha h2 h3, toks_cons hb (by rw [e0]; exact h2) (by rw [e0]; exact h3)]
          refine ⟨?_, i1⟩
          unfold moveT
          rw [k2, k3, decide_eq_true rfl, decide_eq_true rfl]
          exact decide_eq_true (show (a : Int) + g = b by omega)
    · rw [pieces_end (by omega), pieces_end (by omega)]; exact trivial

/-- The end of two lists is the same, but for what is counted at the beginning. -/
theorem tail_ge {g : Int} {X Y X' Y' : List Tk} (h : Moved_ g Y Y') (n : Nat) : min (min Y.length ((X ++ Y).length - n)) ((X' ++ Y').length - n) ≤ comL (moveT g) ((X ++ Y).drop n).reverse ((X' ++ Y').drop n).reverse := by
  obtain ⟨h1, h2⟩ := Moved_.at_ h
  refine comL_ge _ _ _ _ (by rw [List.length_reverse, List.length_drop]; omega) (by rw [List.length_reverse, List.length_drop]; omega) (fun i hi => ?_)
  have l1 : i < ((X ++ Y).drop n).length := by rw [List.length_drop]; omega
  have l2 : i < ((X' ++ Y').drop n).length := by rw [List.length_drop]; omega
  have hy : Y.length - 1 - i < Y.length := by omega
  have hy' : Y'.length - 1 - i < Y'.length := by omega
  refine ⟨Y[Y.length - 1 - i], Y'[Y'.length - 1 - i], ?_, ?_, h2 (Y.length - 1 - i) _ _ (List.getElem?_eq_getElem hy) (by rw [h1]; exact List.getElem?_eq_getElem hy')⟩
  · rw [List.getElem?_reverse l1, List.getElem?_drop, List.length_drop, List.length_append, List.getElem?_append_right (by rw [List.length_append] at hi; omega), show n + (X.length + Y.length - n - 1 - i) - X.length = Y.length - 1 - i by rw [List.length_append] at hi; omega]
    exact List.getElem?_eq_getElem hy
  · rw [List.getElem?_reverse l2, List.getElem?_drop, List.length_drop, List.length_append, List.getElem?_append_right (by rw [List.length_append, List.length_append] at hi; omega), show n + (X'.length + Y'.length - n - 1 - i) - X'.length = Y'.length - 1 - i by rw [List.length_append, List.length_append] at hi; omega]
    exact List.getElem?_eq_getElem hy'

end Go.Proofs.YtocogbllhmiefaaGreatDoor.Lx
