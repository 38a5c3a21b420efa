/- The shortest text with the tokens of a text; a text without one of its blanks: plain lists. -/
import Derived.Test.YtocogbllhmiefaaGreatDoorSpecG
namespace Go.Proofs.YtocogbllhmiefaaGreatDoor.Lx
open Go Go.Proofs Go.RowKit Go.Shelf

theorem runTo_full' (p : Nat → Bool) (s : ByteArray) (hp : ∀ j, j < s.size → p (bt s j) = true) : ∀ (f a : Nat), s.size - a ≤ f → a ≤ s.size → runTo p s f a = s.size := by
  intro f
  induction f with
  | zero => intro a h1 h2; rw [runTo]; omega
  | succ f ih =>
    intro a h1 h2
    rw [runTo]
    by_cases h : a < s.size
    · rw [if_pos ⟨h, hp a h⟩]; exact ih (a + 1) (by omega) (by omega)
    · rw [if_neg (fun x => h x.1)]; omega
theorem runEnd_full' {p : Nat → Bool} {s : ByteArray} (hp : ∀ j, j < s.size → p (bt s j) = true) : runEnd p s 0 = s.size := runTo_full' p s hp _ 0 (Nat.le_refl _) (Nat.zero_le _)
theorem runTo_end (p : Nat → Bool) (s : ByteArray) : ∀ (f a : Nat), s.size - a ≤ f → s.size ≤ runTo p s f a ∨ p (bt s (runTo p s f a)) = false := by
  intro f
  induction f with
  | zero => intro a h; rw [runTo]; exact .inl (by omega)
  | succ f ih =>
    intro a h
    rw [runTo]
    split
    · exact ih (a + 1) (by omega)
    · rename_i h2
      by_cases h3 : a < s.size
      · refine .inr ?_
        cases hp : p (bt s a) with
        | false => rfl
        | true => exact absurd ⟨h3, hp⟩ h2
      · exact .inl (by omega)
theorem runEnd_idem (p : Nat → Bool) (s : ByteArray) (a : Nat) : runEnd p s (runEnd p s a) = runEnd p s a := runEnd_stop (runTo_end p s _ a (Nat.le_refl _))
theorem col_place : ∀ (l : List Pc) (acc : List Tk), (collect l acc).2.2 = 0 → (collect l acc).2.1 = 0 := by
  intro l
  induction l with
  | nil => intro acc _; rfl
  | cons p r ih =>
    intro acc h
    rw [collect] at h ⊢
    split at h
    · rename_i h5; rw [if_pos h5]; exact ih acc h
    · rename_i h5
      rw [if_neg h5]
      split at h
      · rename_i he
        rw [if_pos he]
        split at h
        · exact absurd (show (5 : Nat) = 0 from h) (by decide)
        · rename_i hl; rw [if_neg hl]; exact ih _ h
      · rename_i he; exact absurd h he
theorem col_most : ∀ (l : List Pc) (acc : List Tk), acc.length ≤ 900 → (collect l acc).2.2 = 0 → (collect l acc).1.length ≤ 900 := by
  intro l
  induction l with
  | nil => intro acc h _; exact h
  | cons p r ih =>
    intro acc hl h
    rw [collect] at h ⊢
    split at h
    · rename_i h5; rw [if_pos h5]; exact ih acc hl h
    · rename_i h5
      rw [if_neg h5]
      split at h
      · rename_i he
        rw [if_pos he]
        split at h
        · exact absurd (show (5 : Nat) = 0 from h) (by decide)
        · rename_i hl2; rw [if_neg hl2]; exact ih _ (by simp; omega) h
      · rename_i he; exact absurd h he
/-- What is read of a text as a token is right. -/
theorem tok_good {s : ByteArray} {a : Nat} (ha : a < s.size) (h3 : cls (bt s a) ≠ 3) (he : (piece s a).err = 0) : goodTk (piece s a).tk = true ∧ (piece s a).tk.text = s.extract a (pieceEnd s a) ∧ (piece s a).tk.pos = a := by
  have hlt := lt_pieceEnd ha
  have hle := pieceEnd_le ha
  have hb0 : bt (s.extract a (pieceEnd s a)) 0 = bt s a := by rw [bt_extract (by omega)]; rfl
  have hsz : (s.extract a (pieceEnd s a)).size = pieceEnd s a - a := by simp; omega
  have he' : (kindOf (s.extract a (pieceEnd s a))).2 = 0 := he
  have htr : trimT (s.extract a (pieceEnd s a)) = s.extract a (pieceEnd s a) := by
    unfold trimT
    rw [hb0, if_neg (fun e => by rw [e] at h3; exact h3 (by decide))]
  have hcl : cls (bt s a) = 4 ∨ cls (bt s a) = 6 ∨ cls (bt s a) = 7 := by
    have hk := he'
    unfold kindOf at hk
    rw [hb0, if_neg h3] at hk
    by_cases h4 : cls (bt s a) = 4
    · exact .inl h4
    · rw [if_neg h4] at hk
      by_cases h6 : cls (bt s a) = 6
      · exact .inr (.inl h6)
      · rw [if_neg h6] at hk
        by_cases h7 : cls (bt s a) = 7
        · exact .inr (.inr h7)
        · rw [if_neg h7] at hk; exact absurd hk (by decide)
  refine ⟨Good.mk_ ?_ ?_ ?_ ?_, htr, rfl⟩
  · show 0 < (trimT (s.extract a (pieceEnd s a))).size
    rw [htr, hsz]; omega
  · show pieceEnd (trimT (s.extract a (pieceEnd s a))) 0 = (trimT (s.extract a (pieceEnd s a))).size
    rw [htr, hsz]
    unfold pieceEnd at hsz hb0 ⊢
    rw [if_neg h3] at hsz hb0 ⊢
    by_cases hw : cls (bt s a) = 4 ∨ cls (bt s a) = 6
    · rw [if_pos hw] at hsz hb0 ⊢
      rw [hb0, if_neg h3, if_pos hw, runEnd_full' (fun j hj => ?_), hsz]
      rw [bt_extract (s := s) (i := a) (j := runEnd aln s a) (k := j) (by omega)]
      exact runEnd_inside (a := a) (by omega) (by omega)
    · rw [if_neg hw] at hsz hb0 ⊢
      by_cases h2 : cls (bt s a) = 7 ∧ two s a = true
      · rw [if_pos h2] at hsz hb0 ⊢
        have hb1 : bt (s.extract a (a + 2)) 1 = bt s (a + 1) := bt_extract (by omega)
        have ht : two (s.extract a (a + 2)) 0 = true := by
          have := h2.2
          unfold two at this ⊢
          rw [hb0, Nat.zero_add, hb1]; exact this
        rw [hb0, if_neg h3, if_neg hw, if_pos ⟨h2.1, ht⟩]; omega
      · rw [if_neg h2] at hsz hb0 ⊢
        have hb1 : bt (s.extract a (a + 1)) 1 = 0 := by
          unfold bt
          rw [List.getD_eq_getElem?_getD, List.getElem?_eq_none (by rw [len_list, hsz]; omega)]; rfl
        have ht : two (s.extract a (a + 1)) 0 = false := by
          unfold two
          rw [Nat.zero_add, hb1]; simp
        rw [hb0, if_neg h3, if_neg hw, if_neg (fun e => by rw [ht] at e; exact absurd e.2 (by decide))]; omega
  · show kindOf (trimT (s.extract a (pieceEnd s a))) = ((kindOf (s.extract a (pieceEnd s a))).1, 0)
    rw [htr]; exact Prod.ext rfl he'
  · intro h5
    exact h3 ((kind5 ha).1 h5)

/-- A token right behind another one: no blank is wanted. -/
theorem next_apart {s : ByteArray} {a : Nat} (ha : a < s.size) (_h2 : cls (bt s a) ≠ 2) (h3 : cls (bt s a) ≠ 3) (he : (piece s a).err = 0) (hb : pieceEnd s a < s.size) (hb3 : cls (bt s (pieceEnd s a)) ≠ 3) (hbe : (piece s (pieceEnd s a)).err = 0) :
    growT (piece s a).tk (piece s (pieceEnd s a)).tk = false := by
  obtain ⟨gx, tx, _⟩ := tok_good ha h3 he
  obtain ⟨gy, ty, _⟩ := tok_good hb hb3 hbe
  have hlt := lt_pieceEnd ha
  have hlt2 := lt_pieceEnd hb
  have hx := Good.of gx
  have hy := Good.of gy
  have hx0 : bt (piece s a).tk.text 0 = bt s a := by rw [tx, bt_extract (by omega)]; rfl
  have hy0 : bt (piece s (pieceEnd s a)).tk.text 0 = bt s (pieceEnd s a) := by rw [ty, bt_extract (by omega)]; rfl
  have hcx := hx.cls_
  rw [hx0] at hcx
  have hsx := hx.sign_
  have hsy := hy.sign_
  rw [hx0] at hsx
  rw [hy0] at hsy
  unfold growT
  rw [Bool.or_eq_false_iff]
  constructor
  · by_cases h7 : cls (bt s a) = 7
    · rw [decide_eq_false (fun e => e (hsx.2 h7))]; rfl
    · have hpe : pieceEnd s a = runEnd aln s a := by unfold pieceEnd; rw [if_neg h3, if_pos (by omega)]
      have hst : aln (bt s (pieceEnd s a)) = false := by
        cases hal : aln (bt s (pieceEnd s a)) with
        | false => rfl
        | true =>
          have e1 := runEnd_step hb hal
          have e2 : runEnd aln s (pieceEnd s a) = pieceEnd s a := by
            rw [hpe]; exact runEnd_idem aln s a
          have := le_runEnd aln s (pieceEnd s a + 1)
          omega
      have hy7 : cls (bt s (pieceEnd s a)) = 7 := by
        have := hy.cls_
        rw [hy0] at this
        rcases this with e | e | e
        · unfold aln at hst; rw [e] at hst; exact absurd hst (by decide)
        · unfold aln at hst; rw [e] at hst; exact absurd hst (by decide)
        · exact e
      rw [decide_eq_false (fun e : (piece s (pieceEnd s a)).tk.kind ≠ 4 => e (hsy.2 hy7)), Bool.and_false]
  · cases hd : decide ((piece s a).tk.text.data.toList = [58]) with
    | false => rfl
    | true =>
      have hl := of_decide_eq_true hd
      have hsz : (piece s a).tk.text.size = 1 := by rw [← len_list, hl]; rfl
      have e0 : bt s a = 58 := by rw [← hx0]; unfold bt; rw [hl]; rfl
      have h7 : cls (bt s a) = 7 := by rw [e0]; decide
      have hpe : pieceEnd s a = a + 1 := by
        have : (s.extract a (pieceEnd s a)).size = pieceEnd s a - a := by have := pieceEnd_le ha; simp; omega
        rw [← tx, hsz] at this; omega
      have ht : two s a = false := by
        cases ht : two s a with
        | false => rfl
        | true =>
          exfalso
          unfold pieceEnd at hpe
          rw [if_neg h3, if_neg (by omega), if_pos ⟨h7, ht⟩] at hpe; omega
      rw [Bool.true_and]
      refine decide_eq_false fun hl2 => ?_
      have e1 : bt s (a + 1) = 61 := by rw [← hpe, ← hy0]; unfold bt; rw [hl2]; rfl
      simp [two, e0, e1] at ht

/-- The shortest text is not longer than what is left. -/
theorem tight_len (s : ByteArray) : ∀ (f a : Nat), s.size - a ≤ f → (∀ p ∈ piecesFrom s a, p.tk.kind ≠ 5 → p.err = 0) →
    (tightL (toksOf (piecesFrom s a))).length ≤ s.size - a ∧ (∀ x ∈ toksOf (piecesFrom s a), goodTk x = true) ∧
    (∀ y r, toksOf (piecesFrom s a) = y :: r → a ≤ y.pos ∧ y.pos < s.size ∧ y = (piece s y.pos).tk ∧ cls (bt s y.pos) ≠ 2 ∧ cls (bt s y.pos) ≠ 3 ∧ (piece s y.pos).err = 0 ∧ (tightL (y :: r)).length ≤ s.size - y.pos) := by
  intro f
  induction f with
  | zero =>
    intro a hf _
    rw [pieces_end (by omega)]
    exact ⟨by simp [toksOf, tightL], fun x hx => by simp [toksOf] at hx, fun y r h => by simp [toksOf] at h⟩
  | succ f ih =>
    intro a hf he
    by_cases ha : a < s.size
    · by_cases h2 : cls (bt s a) = 2
      · rw [pieces_blank ha h2] at he ⊢
        obtain ⟨i1, i2, i3⟩ := ih (a + 1) (by omega) he
        refine ⟨by omega, i2, fun y r h => ?_⟩
        obtain ⟨j1, j2⟩ := i3 y r h
        exact ⟨by omega, j2⟩
      · have hlt := lt_pieceEnd ha
        have hle := pieceEnd_le ha
        rw [pieces_piece ha h2] at he ⊢
        obtain ⟨i1, i2, i3⟩ := ih (pieceEnd s a) (by omega) (fun p hp => he p (List.mem_cons_of_mem _ hp))
        by_cases h3 : cls (bt s a) = 3
        · have e : toksOf (piece s a :: piecesFrom s (pieceEnd s a)) = toksOf (piecesFrom s (pieceEnd s a)) := by
            unfold toksOf; rw [List.filter_cons_of_neg (by simpa using (kind5 ha).2 h3)]
          rw [e]
          refine ⟨by omega, i2, fun y r h => ?_⟩
          obtain ⟨j1, j2⟩ := i3 y r h
          exact ⟨by omega, j2⟩
        · have hk5 : (piece s a).tk.kind ≠ 5 := fun e => h3 ((kind5 ha).1 e)
          have hpe := he _ List.mem_cons_self hk5
          obtain ⟨gx, tx, px⟩ := tok_good ha h3 hpe
          have hsz : (piece s a).tk.text.size = pieceEnd s a - a := by rw [tx]; simp; omega
          have e : toksOf (piece s a :: piecesFrom s (pieceEnd s a)) = (piece s a).tk :: toksOf (piecesFrom s (pieceEnd s a)) := by
            unfold toksOf; rw [List.filter_cons_of_pos (by simpa using hk5)]; rfl
          rw [e]
          have hlen : (tightL ((piece s a).tk :: toksOf (piecesFrom s (pieceEnd s a)))).length ≤ s.size - a := by
            cases hT : toksOf (piecesFrom s (pieceEnd s a)) with
            | nil => rw [tightL, len_list, hsz]; omega
            | cons y r =>
              obtain ⟨j1, j2, j3, j4, j5, j6, j7⟩ := i3 y r hT
              rw [tight_cons, List.length_append, List.length_append, len_list, hsz]
              by_cases hq : y.pos = pieceEnd s a
              · have hg : growT (piece s a).tk y = false := by
                  rw [j3, hq]
                  rw [hq] at j2 j5 j6
                  exact next_apart ha h2 h3 hpe j2 j5 j6
                rw [hg, if_neg (by decide)]
                simp only [List.length_nil]
                omega
              · have : (if growT (piece s a).tk y = true then [(32 : UInt8)] else []).length ≤ 1 := by split <;> simp
                omega
          refine ⟨hlen, fun x hx => ?_, fun y r h => ?_⟩
          · rcases List.mem_cons.1 hx with rfl | hx
            · exact gx
            · exact i2 x hx
          · injection h with h1 h2'
            subst h1
            subst h2'
            rw [px]
            exact ⟨Nat.le_refl _, ha, rfl, h2, h3, hpe, hlen⟩
    · rw [pieces_end (by omega)]
      exact ⟨by simp [toksOf, tightL], fun x hx => by simp [toksOf] at hx, fun y r h => by simp [toksOf] at h⟩

/-- All bytes of tokens that are right stand in texts. -/
theorem okb_aln {c : Nat} (hc : c < 256) (h : aln c = true) : okb c = true := by
  cases ho : okb c with
  | true => rfl
  | false =>
    have := (cls_stray c hc).2 ho
    unfold aln at h
    rw [this] at h; exact absurd h (by decide)
theorem Good.fine {x : Tk} (h : Good x) : fineL x.text.data.toList := by
  refine fine_of (bad_none _ fun j hj => ?_)
  by_cases h7 : cls (bt x.text 0) = 7
  · have h0 : okb (bt x.text 0) = true := by
      cases ho : okb (bt x.text 0) with
      | true => rfl
      | false => have := (cls_stray _ (bt_lt _ _)).2 ho; omega
    rcases h.signs_ h7 with ⟨h2, hz⟩ | ⟨_, hz⟩
    · rcases (show j = 0 ∨ j = 1 by omega) with rfl | rfl
      · exact h0
      · simp only [two, Bool.or_eq_true, Bool.and_eq_true, beq_iff_eq] at h2
        rcases h2 with ⟨_, e⟩ | ⟨_, e⟩ <;> (rw [e]; rfl)
    · rw [show j = 0 by omega]; exact h0
  · exact okb_aln (bt_lt _ _) (h.word h7 j hj)
theorem fine_tight : ∀ (l : List Tk), (∀ x ∈ l, goodTk x = true) → fineL (tightL l) := by
  intro l
  induction l with
  | nil => intro _ c hc; cases hc
  | cons x r ih =>
    intro hg c hc
    have hx := (Good.of (hg x List.mem_cons_self)).fine
    cases r with
    | nil => exact hx c hc
    | cons y r =>
      rw [tight_cons] at hc
      rcases List.mem_append.1 hc with hc | hc
      · exact hx c hc
      · rcases List.mem_append.1 hc with hc | hc
        · split at hc
          · rcases List.mem_singleton.1 hc with rfl; rfl
          · cases hc
        · exact ih (fun z hz => hg z (List.mem_cons_of_mem _ hz)) c hc

theorem SameB.length : ∀ {l m : List Tk}, SameB l m → l.length = m.length
  | [], [], _ => rfl
  | _ :: _, _ :: _, ⟨_, _, h⟩ => congrArg (· + 1) (SameB.length h)
  | [], _ :: _, h => h.elim
  | _ :: _, [], h => h.elim

/-- The tokens of the shortest text. -/
theorem tokens_tight {l : List Tk} (hg : ∀ x ∈ l, goodTk x = true) (hl : l.length ≤ 900) (ht : (tightL l).length ≤ 2500) :
    ∃ m, tokens ⟨(tightL l).toArray⟩ = (m, 0, 0) ∧ SameB l m ∧ Rise 0 m := by
  obtain ⟨m, m1, m2, m3, m4⟩ := lex_tight ⟨(tightL l).toArray⟩ l 0 hg rfl
  have hT : toksOf (m.map (fun k => (⟨k, 0⟩ : Pc))) = m := by
    have : ∀ m : List Tk, (∀ k ∈ m, k.kind ≠ 5) → toksOf (m.map (fun k => (⟨k, 0⟩ : Pc))) = m := by
      intro m
      induction m with
      | nil => intro _; rfl
      | cons x r ih =>
        intro h
        have h5 := h x List.mem_cons_self
        have e := ih (fun k hk => h k (List.mem_cons_of_mem _ hk))
        unfold toksOf at e ⊢
        rw [List.map_cons, List.filter_cons_of_pos (by simpa using h5), List.map_cons, e]
    exact this m m4
  have h0 : (textErr ⟨(tightL l).toArray⟩).2 = 0 := by
    have hb : bad (⟨(tightL l).toArray⟩ : ByteArray) = none := of_fine (fine_tight l hg)
    have hz : ¬ 2500 < (⟨(tightL l).toArray⟩ : ByteArray).size := by rw [← len_list]; show ¬ 2500 < (tightL l).length; omega
    unfold textErr
    rw [if_neg hz, hb]
  refine ⟨m, ?_, m2, m3⟩
  unfold tokens
  rw [if_pos h0, m1]
  have := col_good (m.map (fun k => (⟨k, 0⟩ : Pc))) [] (fun p hp => by obtain ⟨k, _, rfl⟩ := List.mem_map.1 hp; rfl) (by rw [hT]; have := SameB.length m2; simp; omega)
  rw [this, hT]; rfl

/-- The tokens of a text. -/
theorem tokens_parts {s : ByteArray} (h : (tokens s).2.2 = 0) : (textErr s).2 = 0 ∧ (tokens s).1 = toksOf (piecesFrom s 0) ∧ (tokens s).2.1 = 0 ∧ (∀ p ∈ piecesFrom s 0, p.tk.kind ≠ 5 → p.err = 0) ∧ (tokens s).1.length ≤ 900 := by
  unfold tokens at h ⊢
  by_cases h0 : (textErr s).2 = 0
  · rw [if_pos h0] at h ⊢
    obtain ⟨h1, h2⟩ := col_ok _ [] h
    refine ⟨h0, by rw [h1]; rfl, col_place _ _ h, h2, col_most _ [] (by simp) h⟩
  · rw [if_neg h0] at h; exact absurd h h0

/-- The shortest text with the tokens of a text. -/
theorem tight_of {s : ByteArray} (h : (tokens s).2.2 = 0) : tightErr (tokens s).1 = 0 ∧ (tight (tokens s).1).size ≤ s.size ∧ ∃ m, tokens (tight (tokens s).1) = (m, 0, 0) ∧ SameB (tokens s).1 m := by
  obtain ⟨h0, h1, _, h2, h3⟩ := tokens_parts h
  obtain ⟨i1, i2, _⟩ := tight_len s s.size 0 (by omega) h2
  rw [← h1] at i1 i2
  have hz := (text_ok h0).1
  have hte : toksErr (tokens s).1 = 0 := by
    unfold toksErr
    rw [if_neg (by omega), if_neg (by rw [List.all_eq_true.2 i2]; decide)]
  have hti : tightErr (tokens s).1 = 0 := by
    unfold tightErr
    rw [if_neg (by omega), if_neg (by omega)]
  have htt : tight (tokens s).1 = ⟨(tightL (tokens s).1).toArray⟩ := if_pos hti
  obtain ⟨m, m1, m2, _⟩ := tokens_tight i2 h3 (by omega)
  refine ⟨hti, ?_, m, by rw [htt]; exact m1, m2⟩
  rw [htt, ← len_list]
  show (tightL (tokens s).1).length ≤ s.size
  omega

end Go.Proofs.YtocogbllhmiefaaGreatDoor.Lx
