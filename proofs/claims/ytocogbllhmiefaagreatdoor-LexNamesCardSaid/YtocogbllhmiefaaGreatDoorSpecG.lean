/- The shortest text with some tokens: plain lists. -/
import Derived.Test.YtocogbllhmiefaaGreatDoorSpecF
import Derived.Test.YtocogbllhmiefaaGreatDoorWalkP
import Derived.Test.YtocogbllhmiefaaGreatDoorSpecE
namespace Go.Proofs.YtocogbllhmiefaaGreatDoor.Lx
open Go Go.Proofs Go.RowKit Go.Shelf

/-- Would two tokens be read as another one without a blank? -/
def growT (x y : Tk) : Bool := (decide (x.kind ≠ 4) && decide (y.kind ≠ 4)) || (decide (x.text.data.toList = [58]) && decide (y.text.data.toList = [61]))
/-- The shortest text with some tokens. -/
def tightL : List Tk → List UInt8
  | [] => []
  | [x] => x.text.data.toList
  | x :: y :: r => x.text.data.toList ++ (if growT x y = true then [32] else []) ++ tightL (y :: r)
/-- The error of tokens, and of the text of them. -/
def toksErr (l : List Tk) : Nat := if 900 < l.length then 5 else if l.all goodTk = false then 2 else 0
def tightErr (l : List Tk) : Nat := if toksErr l ≠ 0 then toksErr l else if 2500 < (tightL l).length then 5 else 0
def tight (l : List Tk) : ByteArray := if tightErr l = 0 then ⟨(tightL l).toArray⟩ else ⟨#[]⟩

theorem str_of_list' {o x : ByteArray} (h : o.data.toList = x.data.toList) : o = x := by
  obtain ⟨⟨a⟩⟩ := o
  obtain ⟨⟨b⟩⟩ := x
  simpa using h
theorem one_byte {s : ByteArray} {c : Nat} (h : s.size = 1) (hb : bt s 0 = c) (_hc : c < 256) : s.data.toList = [UInt8.ofNat c] := by
  have hl : s.data.toList.length = 1 := by rw [len_list]; exact h
  obtain ⟨x, hx⟩ := List.length_eq_one_iff.1 hl
  unfold bt at hb
  rw [hx] at hb ⊢
  rw [← hb]
  simp
theorem runEnd_eq {p : Nat → Bool} {s : ByteArray} {b : Nat} (hb : b ≤ s.size) (hst : s.size ≤ b ∨ p (bt s b) = false) : ∀ (n a : Nat), b - a = n → a ≤ b → (∀ j, a ≤ j → j < b → p (bt s j) = true) → runEnd p s a = b := by
  intro n
  induction n with
  | zero => intro a h1 h2 _; rw [show a = b by omega]; exact runEnd_stop hst
  | succ n ih =>
    intro a h1 h2 h3
    rw [runEnd_step (by omega) (h3 a (Nat.le_refl _) (by omega))]
    exact ih (a + 1) (by omega) (by omega) (fun j j1 j2 => h3 j (by omega) j2)

/-- What a token that is right is like. -/
structure Good (t : Tk) : Prop where
  pos_ : 0 < t.text.size
  whole : pieceEnd t.text 0 = t.text.size
  kind_ : kindOf t.text = (t.kind, 0)
  cls_ : cls (bt t.text 0) = 4 ∨ cls (bt t.text 0) = 6 ∨ cls (bt t.text 0) = 7
  sign_ : t.kind = 4 ↔ cls (bt t.text 0) = 7
  not5 : t.kind ≠ 5
theorem Good.of {t : Tk} (h : goodTk t = true) : Good t := by
  unfold goodTk at h
  simp only [Bool.and_eq_true, Bool.not_eq_true', Bool.or_eq_false_iff, decide_eq_false_iff_not, decide_eq_true_eq] at h
  obtain ⟨⟨h5, h0, hp⟩, hk2, hk1⟩ := h
  have hpos : 0 < t.text.size := by omega
  have hko : kindOf t.text = (t.kind, 0) := Prod.ext hk1 hk2
  have hc : (cls (bt t.text 0) = 4 ∨ cls (bt t.text 0) = 6 ∨ cls (bt t.text 0) = 7) ∧ (t.kind = 4 ↔ cls (bt t.text 0) = 7) := by
    have hk := hko
    unfold kindOf at hk
    split at hk
    · injection hk with h1 h2; exact absurd h1.symm h5
    · split at hk
      · rename_i h4
        refine ⟨.inl h4, ⟨fun e => ?_, fun e => by omega⟩⟩
        split at hk
        · injection hk with h1; omega
        · split at hk <;> (injection hk with h1 h2; omega)
      · split at hk
        · rename_i h6
          injection hk with h1 h2
          exact ⟨.inr (.inl h6), ⟨fun e => by omega, fun e => by omega⟩⟩
        · split at hk
          · rename_i h7
            injection hk with h1 h2
            exact ⟨.inr (.inr h7), ⟨fun _ => h7, fun _ => h1.symm⟩⟩
          · injection hk with h1 h2; omega
  exact ⟨hpos, Nat.le_antisymm (pieceEnd_le hpos) (by omega), hko, hc.1, hc.2, h5⟩
theorem Good.mk_ {t : Tk} (h1 : 0 < t.text.size) (h2 : pieceEnd t.text 0 = t.text.size) (h3 : kindOf t.text = (t.kind, 0)) (h5 : t.kind ≠ 5) : goodTk t = true := by
  unfold goodTk
  rw [decide_eq_false h5, decide_eq_false (by omega), decide_eq_false (by omega), h3, decide_eq_true rfl, decide_eq_true rfl]
  rfl
theorem Good.word {t : Tk} (h : Good t) (hc : cls (bt t.text 0) ≠ 7) : ∀ j, j < t.text.size → aln (bt t.text j) = true := by
  intro j hj
  have hw := h.whole
  unfold pieceEnd at hw
  rw [if_neg (by have := h.cls_; omega), if_pos (by have := h.cls_; omega)] at hw
  exact runEnd_inside (Nat.zero_le _) (by rw [hw]; exact hj)
theorem Good.signs_ {t : Tk} (h : Good t) (hc : cls (bt t.text 0) = 7) : (two t.text 0 = true ∧ t.text.size = 2) ∨ (two t.text 0 = false ∧ t.text.size = 1) := by
  have hw := h.whole
  unfold pieceEnd at hw
  rw [if_neg (by omega), if_neg (by omega)] at hw
  cases ht : two t.text 0 with
  | true => rw [if_pos ⟨hc, ht⟩] at hw; exact .inl ⟨rfl, by omega⟩
  | false => rw [if_neg (fun x => by rw [ht] at x; exact absurd x.2 (by decide))] at hw; exact .inr ⟨rfl, by omega⟩

/-- Bytes of a text at a place where another one stands. -/
theorem bt_drop {t u : ByteArray} {a : Nat} {r : List UInt8} (h : t.data.toList.drop a = u.data.toList ++ r) : (∀ j, j < u.size → bt t (a + j) = bt u j) ∧ (∀ j, bt t (a + u.size + j) = (r.getD j 0).toNat) := by
  have g : ∀ j, t.data.toList.getD (a + j) 0 = (u.data.toList ++ r).getD j 0 := by
    intro j
    rw [← h, List.getD_eq_getElem?_getD, List.getD_eq_getElem?_getD, List.getElem?_drop]
  constructor
  · intro j hj
    unfold bt
    rw [g, List.getD_eq_getElem?_getD, List.getD_eq_getElem?_getD, List.getElem?_append_left (by rw [len_list]; exact hj)]
  · intro j
    unfold bt
    rw [show a + u.size + j = a + (u.size + j) by omega, g, List.getD_eq_getElem?_getD, List.getD_eq_getElem?_getD, List.getElem?_append_right (by rw [len_list]; omega), len_list, show u.size + j - u.size = j by omega]

/-- A token stands at a place and is read as it is. -/
theorem piece_is {t : ByteArray} {x : Tk} {a : Nat} {r : List UInt8} (hx : Good x) (h : t.data.toList.drop a = x.text.data.toList ++ r)
    (hw : cls (bt x.text 0) ≠ 7 → aln (r.getD 0 0).toNat = false) (hs : cls (bt x.text 0) = 7 → x.text.size = 1 → two t a = false) :
    a + x.text.size ≤ t.size ∧ pieceEnd t a = a + x.text.size ∧ piece t a = ⟨⟨x.kind, x.text, a⟩, 0⟩ ∧ cls (bt t a) = cls (bt x.text 0) := by
  obtain ⟨g1, g2⟩ := bt_drop h
  have hpos := hx.pos_
  have hlen := drop_len h
  rw [List.length_append, len_list, len_list] at hlen
  have hle : a + x.text.size ≤ t.size := by omega
  have hb0 : bt t a = bt x.text 0 := by have := g1 0 hpos; simpa using this
  have hpe : pieceEnd t a = a + x.text.size := by
    unfold pieceEnd
    rw [hb0, if_neg (by have := hx.cls_; omega)]
    by_cases h7 : cls (bt x.text 0) = 7
    · rw [if_neg (by omega)]
      rcases hx.signs_ h7 with ⟨h2, hz⟩ | ⟨h2, hz⟩
      · have ht : two t a = true := by
          unfold two at h2 ⊢
          have e1 := g1 1 (by omega)
          rw [hb0, e1]; exact h2
        rw [if_pos ⟨h7, ht⟩]; omega
      · rw [if_neg (fun e => by rw [hs h7 hz] at e; exact absurd e.2 (by decide))]; omega
    · rw [if_pos (by have := hx.cls_; omega)]
      refine runEnd_eq hle (.inr ?_) _ a rfl (by omega) (fun j j1 j2 => ?_)
      · have := g2 0
        rw [Nat.add_zero] at this
        rw [this]; exact hw h7
      · have := g1 (j - a) (by omega)
        rw [show a + (j - a) = j by omega] at this
        rw [this]; exact hx.word h7 _ (by omega)
  have hex : t.extract a (pieceEnd t a) = x.text := by
    refine str_of_list' ?_
    rw [extract_list, hpe, h, show a + x.text.size - a = x.text.size by omega, List.take_append_of_le_length (by rw [len_list]; omega), List.take_of_length_le (by rw [len_list]; omega)]
  refine ⟨hle, hpe, ?_, by rw [hb0]⟩
  unfold piece
  rw [hex, hx.kind_]
  have : trimT x.text = x.text := by unfold trimT; rw [if_neg (fun e => by have := hx.cls_; rw [e] at this; revert this; decide)]
  rw [this]

/-- Tokens that are the same but for their places. -/
def SameB : List Tk → List Tk → Prop
  | [], [] => True
  | x :: r, y :: q => x.kind = y.kind ∧ x.text = y.text ∧ SameB r q
  | _, _ => False
/-- Places that rise, from a place on. -/
def Rise : Nat → List Tk → Prop
  | _, [] => True
  | a, x :: r => a ≤ x.pos ∧ Rise (x.pos + 1) r
theorem Rise.mono : ∀ {l : List Tk} {a b : Nat}, b ≤ a → Rise a l → Rise b l
  | [], _, _, _, _ => trivial
  | _ :: _, _, _, h, ⟨h1, h2⟩ => ⟨Nat.le_trans h h1, h2⟩

theorem sep_head {x y : Tk} (hx : Good x) (hy : Good y) (hg : growT x y = false) {t : ByteArray} {a : Nat} {r : List UInt8} (h : t.data.toList.drop a = x.text.data.toList ++ (y.text.data.toList ++ r)) :
    (cls (bt x.text 0) ≠ 7 → aln ((y.text.data.toList ++ r).getD 0 0).toNat = false) ∧ (cls (bt x.text 0) = 7 → x.text.size = 1 → two t a = false) := by
  have hy0 : ((y.text.data.toList ++ r).getD 0 0).toNat = bt y.text 0 := by
    unfold bt
    rw [List.getD_eq_getElem?_getD, List.getD_eq_getElem?_getD, List.getElem?_append_left (by rw [len_list]; exact hy.pos_)]
  obtain ⟨g1, g2⟩ := bt_drop h
  simp only [growT, Bool.or_eq_false_iff, Bool.and_eq_false_iff, decide_eq_false_iff_not, Classical.not_not] at hg
  constructor
  · intro h7
    have hk : x.kind ≠ 4 := fun e => h7 (hx.sign_.1 e)
    have hy4 : y.kind = 4 := by rcases hg.1 with e | e <;> omega
    have hy7 := hy.sign_.1 hy4
    rw [hy0]
    cases ha : aln (bt y.text 0) with
    | false => rfl
    | true =>
      have := of_decide_eq_true ha
      simp at this; omega
  · intro h7 h1
    have e0 : bt t a = bt x.text 0 := by have := g1 0 hx.pos_; simpa using this
    have e1 : bt t (a + 1) = bt y.text 0 := by
      have := g2 0
      rw [h1, Nat.add_zero, hy0] at this; exact this
    cases ht : two t a with
    | false => rfl
    | true =>
      exfalso
      simp only [two, Bool.or_eq_true, Bool.and_eq_true, beq_iff_eq] at ht
      rw [e0, e1] at ht
      rcases ht with ⟨p, q⟩ | ⟨p, q⟩
      · have hx1 : x.text.data.toList = [58] := one_byte (c := 58) h1 p (by decide)
        have hy7 : cls (bt y.text 0) = 7 := by rw [q]; decide
        have hys : y.text.size = 1 := by
          rcases hy.signs_ hy7 with ⟨h2, _⟩ | ⟨_, h2⟩
          · simp [two, q] at h2
          · exact h2
        have hy1 : y.text.data.toList = [61] := one_byte (c := 61) hys q (by decide)
        rcases hg.2 with e | e
        · exact e hx1
        · exact e hy1
      · have := hy.cls_
        rw [q] at this
        revert this; decide

/-- The tokens among pieces. -/
def toksOf (l : List Pc) : List Tk := (l.filter (fun p => !(p.tk.kind == 5))).map Pc.tk
theorem col_ok : ∀ (l : List Pc) (acc : List Tk), (collect l acc).2.2 = 0 → (collect l acc).1 = acc ++ toksOf l ∧ ∀ p ∈ l, p.tk.kind ≠ 5 → p.err = 0 := by
  intro l
  induction l with
  | nil => intro acc _; exact ⟨by simp [collect, toksOf], fun p hp => by cases hp⟩
  | cons p r ih =>
    intro acc h
    by_cases h5 : p.tk.kind = 5
    · rw [collect, if_pos h5] at h ⊢
      obtain ⟨h1, h2⟩ := ih acc h
      refine ⟨by rw [h1]; simp [toksOf, h5], fun q hq => ?_⟩
      rcases List.mem_cons.1 hq with rfl | hq
      · intro e; exact absurd h5 e
      · exact h2 q hq
    · by_cases he : p.err = 0
      · by_cases hl : acc.length = 900
        · rw [collect, if_neg h5, if_pos he, if_pos hl] at h; exact absurd (show (5 : Nat) = 0 from h) (by decide)
        · rw [collect, if_neg h5, if_pos he, if_neg hl] at h ⊢
          obtain ⟨h1, h2⟩ := ih _ h
          refine ⟨by rw [h1]; simp [toksOf, h5], fun q hq => ?_⟩
          rcases List.mem_cons.1 hq with rfl | hq
          · intro _; exact he
          · exact h2 q hq
      · rw [collect, if_neg h5, if_neg he] at h
        exact absurd h he
theorem col_good : ∀ (l : List Pc) (acc : List Tk), (∀ p ∈ l, p.err = 0) → acc.length + (toksOf l).length ≤ 900 → collect l acc = (acc ++ toksOf l, 0, 0) := by
  intro l
  induction l with
  | nil => intro acc _ _; simp [collect, toksOf]
  | cons p r ih =>
    intro acc h hl
    by_cases h5 : p.tk.kind = 5
    · have e : toksOf (p :: r) = toksOf r := by simp [toksOf, h5]
      rw [collect, if_pos h5, e]
      rw [e] at hl
      exact ih acc (fun q hq => h q (List.mem_cons_of_mem _ hq)) hl
    · have e : toksOf (p :: r) = p.tk :: toksOf r := by simp [toksOf, h5]
      rw [e, List.length_cons] at hl
      rw [collect, if_neg h5, if_pos (h p List.mem_cons_self), if_neg (by omega), e, ih (acc ++ [p.tk]) (fun q hq => h q (List.mem_cons_of_mem _ hq)) (by simp; omega)]
      simp

theorem tight_cons (x y : Tk) (r : List Tk) : tightL (x :: y :: r) = x.text.data.toList ++ ((if growT x y = true then [32] else []) ++ tightL (y :: r)) := by rw [tightL, List.append_assoc]
theorem tight_head (y : Tk) (r : List Tk) : ∃ q, tightL (y :: r) = y.text.data.toList ++ q := by
  cases r with
  | nil => exact ⟨[], by simp [tightL]⟩
  | cons z r => exact ⟨_, tight_cons y z r⟩

/-- The shortest text is read as its tokens. -/
theorem lex_tight (t : ByteArray) : ∀ (l : List Tk) (a : Nat), (∀ x ∈ l, goodTk x = true) → t.data.toList.drop a = tightL l →
    ∃ m, piecesFrom t a = m.map (fun k => ⟨k, 0⟩) ∧ SameB l m ∧ Rise a m ∧ (∀ k ∈ m, k.kind ≠ 5) := by
  intro l
  induction l with
  | nil =>
    intro a _ h
    have hlen := drop_len h
    rw [len_list] at hlen
    refine ⟨[], ?_, trivial, trivial, fun k hk => by cases hk⟩
    rw [pieces_end (by simp [tightL] at hlen; omega)]; rfl
  | cons x r ih =>
    intro a hg h
    have hx := Good.of (hg x List.mem_cons_self)
    have hr : ∀ y ∈ r, goodTk y = true := fun y hy => hg y (List.mem_cons_of_mem _ hy)
    have fin : ∀ (b : Nat) (rest : List UInt8), t.data.toList.drop a = x.text.data.toList ++ rest → (cls (bt x.text 0) ≠ 7 → aln (rest.getD 0 0).toNat = false) → (cls (bt x.text 0) = 7 → x.text.size = 1 → two t a = false) →
        a + x.text.size ≤ b → piecesFrom t (a + x.text.size) = piecesFrom t b → t.data.toList.drop b = tightL r →
        ∃ m, piecesFrom t a = m.map (fun k => ⟨k, 0⟩) ∧ SameB (x :: r) m ∧ Rise a m ∧ (∀ k ∈ m, k.kind ≠ 5) := by
      intro b rest h1 h2 h3 hb h4 h5
      obtain ⟨p1, p2, p3, p4⟩ := piece_is hx h1 h2 h3
      have hpos := hx.pos_
      obtain ⟨m, m1, m2, m3, m4⟩ := ih b hr h5
      refine ⟨⟨x.kind, x.text, a⟩ :: m, ?_, ⟨rfl, rfl, m2⟩, ⟨Nat.le_refl _, Rise.mono (by show a + 1 ≤ b; omega) m3⟩, fun k hk => ?_⟩
      · rw [pieces_piece (by omega) (by rw [p4]; have := hx.cls_; omega), p3, p2, h4, m1]; rfl
      · rcases List.mem_cons.1 hk with rfl | hk
        · exact hx.not5
        · exact m4 k hk
    cases r with
    | nil =>
      have h' : t.data.toList.drop a = x.text.data.toList ++ [] := by rw [h]; simp [tightL]
      refine fin (a + x.text.size) [] h' (fun _ => by decide) (fun h7 h1 => ?_) (Nat.le_refl _) rfl ?_
      · obtain ⟨g1, g2⟩ := bt_drop h'
        have e1 : bt t (a + 1) = 0 := by have := g2 0; rw [h1] at this; simpa using this
        simp [two, e1]
      · have hlen := drop_len h'
        rw [List.length_append, len_list, len_list] at hlen
        rw [List.drop_of_length_le (by rw [len_list]; simp at hlen; have := hx.pos_; omega)]; rfl
    | cons y r =>
      have hy := Good.of (hr y List.mem_cons_self)
      rw [tight_cons] at h
      obtain ⟨q, hq⟩ := tight_head y r
      cases hgr : growT x y with
      | true =>
        rw [hgr, if_pos rfl] at h
        have hlen := drop_len h
        rw [List.length_append, List.length_append, len_list, len_list] at hlen
        have hpos := hx.pos_
        simp only [List.length_cons, List.length_nil] at hlen
        obtain ⟨g1, g2⟩ := bt_drop h
        have e0 : bt t (a + x.text.size) = 32 := by have := g2 0; simpa using this
        refine fin (a + x.text.size + 1) _ h (fun _ => rfl) (fun h7 h1 => ?_) (by omega) ?_ ?_
        · have e1 : bt t (a + 1) = 32 := by rw [← e0, h1]
          simp [two, e1]
        · exact pieces_blank (by omega) (by rw [e0]; decide)
        · rw [show a + x.text.size + 1 = a + (x.text.size + 1) by omega, ← List.drop_drop, h, List.drop_append, List.drop_of_length_le (by rw [len_list]; omega), List.nil_append, len_list, show x.text.size + 1 - x.text.size = 1 by omega]
          rfl
      | false =>
        rw [hgr, if_neg (by decide), List.nil_append] at h
        have h' := h
        rw [hq] at h'
        obtain ⟨s1, s2⟩ := sep_head hx hy hgr h'
        refine fin (a + x.text.size) _ h (by rw [hq]; exact s1) s2 (Nat.le_refl _) rfl ?_
        rw [← List.drop_drop, h, List.drop_append, List.drop_of_length_le (by rw [len_list]; omega), List.nil_append, len_list, Nat.sub_self, List.drop_zero]

end Go.Proofs.YtocogbllhmiefaaGreatDoor.Lx
