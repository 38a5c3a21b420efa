/- The shortest text without one of its blanks has other tokens: plain lists. -/
import Derived.Test.YtocogbllhmiefaaGreatDoorSpecH
namespace Go.Proofs.YtocogbllhmiefaaGreatDoor.Lx
open Go Go.Proofs Go.RowKit Go.Shelf

theorem runTo_ge (p : Nat → Bool) (s : ByteArray) (b : Nat) (hb : b ≤ s.size) : ∀ (f a : Nat), s.size - a ≤ f → (∀ j, a ≤ j → j < b → p (bt s j) = true) → a ≤ b → b ≤ runTo p s f a := by
  intro f
  induction f with
  | zero => intro a h1 _ h3; rw [runTo]; omega
  | succ f ih =>
    intro a h1 h2 h3
    rw [runTo]
    by_cases e : a = b
    · split
      · have := (runTo_bounds p s f (a + 1)).1; omega
      · omega
    · rw [if_pos ⟨by omega, h2 a (Nat.le_refl _) (by omega)⟩]
      exact ih (a + 1) (by omega) (fun j j1 j2 => h2 j (by omega) j2) (by omega)
theorem runEnd_ge {p : Nat → Bool} {s : ByteArray} {a b : Nat} (hb : b ≤ s.size) (h : ∀ j, a ≤ j → j < b → p (bt s j) = true) (hab : a ≤ b) : b ≤ runEnd p s a := runTo_ge p s b hb _ a (Nat.le_refl _) h hab

theorem Good.noblank {x : Tk} (h : Good x) : ∀ j, j < x.text.size → bt x.text j ≠ 32 := by
  intro j hj e
  by_cases h7 : cls (bt x.text 0) = 7
  · rcases h.signs_ h7 with ⟨h2, hz⟩ | ⟨_, hz⟩
    · rcases (show j = 0 ∨ j = 1 by omega) with rfl | rfl
      · rw [e] at h7; exact absurd h7 (by decide)
      · simp [two, e] at h2
    · rw [show j = 0 by omega] at e; rw [e] at h7; exact absurd h7 (by decide)
  · have := h.word h7 j hj
    rw [e] at this; exact absurd this (by decide)

theorem toks_cons {s : ByteArray} {a : Nat} (ha : a < s.size) (h2 : cls (bt s a) ≠ 2) (h3 : cls (bt s a) ≠ 3) : toksOf (piecesFrom s a) = (piece s a).tk :: toksOf (piecesFrom s (pieceEnd s a)) := by
  rw [pieces_piece ha h2]
  have hk5 : (piece s a).tk.kind ≠ 5 := fun e => h3 ((kind5 ha).1 e)
  unfold toksOf
  rw [List.filter_cons_of_pos (by simpa using hk5)]; rfl

theorem list_byte {u : ByteArray} {i : Nat} {c : UInt8} {r : List UInt8} (h : (u.data.toList ++ r)[i]? = some c) (hi : i < u.size) : bt u i = c.toNat := by
  rw [List.getElem?_append_left (by rw [len_list]; exact hi)] at h
  unfold bt
  rw [List.getD_eq_getElem?_getD, h]; rfl

/-- Two tokens that grow together. -/
theorem grown_piece {t : ByteArray} {x y : Tk} {a : Nat} {q : List UInt8} (hx : Good x) (hy : Good y) (hg : growT x y = true) (h : t.data.toList.drop a = x.text.data.toList ++ (y.text.data.toList ++ q)) :
    a + x.text.size < pieceEnd t a ∧ a < t.size ∧ cls (bt t a) = cls (bt x.text 0) := by
  obtain ⟨g1, g2⟩ := bt_drop h
  have hlen := drop_len h
  rw [List.length_append, List.length_append, len_list, len_list, len_list] at hlen
  have hpx := hx.pos_
  have hpy := hy.pos_
  have e0 : bt t a = bt x.text 0 := by have := g1 0 hpx; simpa using this
  have ey : bt t (a + x.text.size) = bt y.text 0 := by
    have := g2 0
    rw [Nat.add_zero] at this
    rw [this]
    unfold bt
    rw [List.getD_eq_getElem?_getD, List.getD_eq_getElem?_getD, List.getElem?_append_left (by rw [len_list]; omega)]
  refine ⟨?_, by omega, by rw [e0]⟩
  unfold growT at hg
  rw [Bool.or_eq_true, Bool.and_eq_true, Bool.and_eq_true] at hg
  rcases hg with ⟨k1, k2⟩ | ⟨k1, k2⟩
  · have n1 : cls (bt x.text 0) ≠ 7 := fun e => of_decide_eq_true k1 (hx.sign_.2 e)
    have n2 : cls (bt y.text 0) ≠ 7 := fun e => of_decide_eq_true k2 (hy.sign_.2 e)
    unfold pieceEnd
    rw [e0, if_neg (by have := hx.cls_; omega), if_pos (by have := hx.cls_; omega)]
    have := runEnd_ge (p := aln) (s := t) (a := a) (b := a + x.text.size + 1) (by omega) (fun j j1 j2 => by
      by_cases hj : j = a + x.text.size
      · rw [hj, ey]; exact hy.word n2 0 hpy
      · have := g1 (j - a) (by omega)
        rw [show a + (j - a) = j by omega] at this
        rw [this]; exact hx.word n1 _ (by omega)) (by omega)
    omega
  · have l1 := of_decide_eq_true k1
    have l2 := of_decide_eq_true k2
    have s1 : x.text.size = 1 := by rw [← len_list, l1]; rfl
    have b0 : bt x.text 0 = 58 := by unfold bt; rw [l1]; rfl
    have b1 : bt y.text 0 = 61 := by unfold bt; rw [l2]; rfl
    have h7 : cls (bt t a) = 7 := by rw [e0, b0]; decide
    have ht : two t a = true := by
      unfold two
      rw [s1] at ey
      rw [e0, ey, b0, b1]; rfl
    unfold pieceEnd
    rw [if_neg (by omega), if_neg (by omega), if_pos ⟨h7, ht⟩]; omega

/-- Without one of its blanks the shortest text has other tokens. -/
theorem lex_less (t : ByteArray) : ∀ (l : List Tk) (a i : Nat), (∀ x ∈ l, goodTk x = true) → (tightL l)[i]? = some 32 → t.data.toList.drop a = (tightL l).eraseIdx i →
    (∀ p ∈ piecesFrom t a, p.tk.kind ≠ 5 → p.err = 0) → ¬ SameB l (toksOf (piecesFrom t a)) := by
  intro l
  induction l with
  | nil => intro a i _ h _ _; simp [tightL] at h
  | cons x r ih =>
    intro a i hg hi h he hs
    have hx := Good.of (hg x List.mem_cons_self)
    have hr : ∀ y ∈ r, goodTk y = true := fun y hy => hg y (List.mem_cons_of_mem _ hy)
    cases r with
    | nil =>
      have hi' : (x.text.data.toList ++ [])[i]? = some 32 := by simpa [tightL] using hi
      have hlt : i < x.text.size := by
        have := (List.getElem?_eq_some_iff.1 hi').1
        rw [List.length_append, len_list] at this; simpa using this
      exact hx.noblank i hlt (list_byte hi' hlt)
    | cons y r =>
      have hy := Good.of (hr y List.mem_cons_self)
      obtain ⟨q, hq⟩ := tight_head y r
      rw [tight_cons] at hi h
      by_cases hix : i < x.text.size
      · exact hx.noblank i hix (list_byte hi hix)
      · rw [List.eraseIdx_append_of_length_le (by rw [len_list]; omega), len_list] at h
        rw [List.getElem?_append_right (by rw [len_list]; omega), len_list] at hi
        -- the piece at a is x, and the rest is without its blank
        have next : ∀ (j b : Nat) (sep : List UInt8), sep ++ tightL (y :: r) = (if growT x y = true then [32] else []) ++ tightL (y :: r) → (tightL (y :: r))[j]? = some 32 → (sep ++ tightL (y :: r)).eraseIdx (i - x.text.size) = sep ++ (tightL (y :: r)).eraseIdx j →
            (sep = [] ∧ growT x y = false ∨ sep = [32]) → b = a + x.text.size + sep.length → False := by
          intro j b sep hsep hj her hgs hb
          have hyj : y.text.size ≤ j := by
            rcases Nat.lt_or_ge j y.text.size with hlt | hge
            · rw [hq] at hj
              exact absurd (list_byte hj hlt) (hy.noblank j hlt)
            · exact hge
          have hq' : (tightL (y :: r)).eraseIdx j = y.text.data.toList ++ q.eraseIdx (j - y.text.size) := by
            rw [hq, List.eraseIdx_append_of_length_le (by rw [len_list]; omega), len_list]
          rw [← hsep, her] at h
          have key : (cls (bt x.text 0) ≠ 7 → aln ((sep ++ (tightL (y :: r)).eraseIdx j).getD 0 0).toNat = false) ∧ (cls (bt x.text 0) = 7 → x.text.size = 1 → two t a = false) := by
            rcases hgs with ⟨rfl, hgf⟩ | rfl
            · rw [List.nil_append, hq'] at h ⊢
              exact sep_head hx hy hgf h
            · refine ⟨fun _ => rfl, fun h7 h1 => ?_⟩
              obtain ⟨g1, g2⟩ := bt_drop h
              have e1 : bt t (a + 1) = 32 := by have := g2 0; rw [h1] at this; simpa using this
              simp [two, e1]
          obtain ⟨p1, p2, p3, p4⟩ := piece_is hx h key.1 key.2
          have hpx := hx.pos_
          have hdb : t.data.toList.drop b = (tightL (y :: r)).eraseIdx j := by
            rw [hb, show a + x.text.size + sep.length = a + (x.text.size + sep.length) by omega, ← List.drop_drop, h, List.drop_append, List.drop_of_length_le (by rw [len_list]; omega), List.nil_append, len_list, show x.text.size + sep.length - x.text.size = sep.length by omega, List.drop_left]
          have hpb : piecesFrom t (a + x.text.size) = piecesFrom t b := by
            rcases hgs with ⟨rfl, _⟩ | rfl
            · rw [hb]; rfl
            · obtain ⟨g1, g2⟩ := bt_drop h
              have e1 : bt t (a + x.text.size) = 32 := by have := g2 0; simpa using this
              have hlen := drop_len h
              rw [List.length_append, List.length_append, len_list, len_list] at hlen
              simp only [List.length_cons, List.length_nil] at hlen
              rw [hb]
              exact pieces_blank (by omega) (by rw [e1]; decide)
          have hcls : cls (bt t a) ≠ 2 ∧ cls (bt t a) ≠ 3 := by rw [p4]; have := hx.cls_; omega
          rw [toks_cons (by omega) hcls.1 hcls.2, p3, p2, hpb] at hs
          rw [pieces_piece (by omega) hcls.1, p2, hpb] at he
          exact ih b j hr hj hdb (fun p hp => he p (List.mem_cons_of_mem _ hp)) hs.2.2
        cases hgr : growT x y with
        | true =>
          rw [hgr, if_pos rfl] at hi h
          by_cases hi0 : i = x.text.size
          · rw [hi0, Nat.sub_self] at h
            have h' : t.data.toList.drop a = x.text.data.toList ++ (y.text.data.toList ++ q) := by rw [h, hq]; rfl
            obtain ⟨b1, b2, b3⟩ := grown_piece hx hy hgr h'
            have hc := hx.cls_
            have h2 : cls (bt t a) ≠ 2 := by omega
            have h3 : cls (bt t a) ≠ 3 := by omega
            rw [toks_cons b2 h2 h3] at hs
            have hpe := he (piece t a) (by rw [pieces_piece b2 h2]; exact List.mem_cons_self) (fun e => h3 ((kind5 b2).1 e))
            obtain ⟨_, tx, _⟩ := tok_good b2 h3 hpe
            have hle := pieceEnd_le b2
            have hz : (piece t a).tk.text.size = pieceEnd t a - a := by rw [tx]; simp; omega
            have := hs.2.1
            rw [this, hz] at b1
            omega
          · obtain ⟨j, hj⟩ : ∃ j, i - x.text.size = j + 1 := ⟨i - x.text.size - 1, by omega⟩
            rw [hj] at hi h
            exact next j (a + x.text.size + 1) [32] (by rw [hgr, if_pos rfl]) (by simpa using hi) (by rw [hj]; rfl) (.inr rfl) rfl
        | false =>
          rw [hgr, if_neg (by decide), List.nil_append] at hi h
          exact next (i - x.text.size) (a + x.text.size) [] (by rw [hgr, if_neg (by decide)]) hi rfl (.inl ⟨rfl, hgr⟩) rfl

/-- The same, for the tokens of a text. -/
theorem tokens_less {l : List Tk} {t : ByteArray} {i : Nat} (hg : ∀ x ∈ l, goodTk x = true) (hi : (tightL l)[i]? = some 32) (ht : t.data.toList = (tightL l).take i ++ (tightL l).drop (i + 1)) (h : (tokens t).2.2 = 0) : ¬ SameB l (tokens t).1 := by
  obtain ⟨h0, h1, _, h2, _⟩ := tokens_parts h
  rw [h1]
  exact lex_less t l 0 i hg hi (by rw [List.drop_zero, ht, List.eraseIdx_eq_take_drop_succ]) h2

end Go.Proofs.YtocogbllhmiefaaGreatDoor.Lx
