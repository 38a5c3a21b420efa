/- Names that become other ones: the tokens of the text after, and back: plain lists. -/
import Derived.Test.YthjnoboceibjjaaGreatDoorSpecF
import Derived.Test.YthjnoboceibjjaaGreatDoorWalkP
import Derived.Test.YthjnoboceibjjaaGreatDoorWalkY
import Derived.Test.YthjnoboceibjjaaGreatDoorWalkQ
namespace Go.Proofs.YthjnoboceibjjaaGreatDoor.Lx
open Go Go.Proofs Go.RowKit Go.Shelf

/-- Would two tokens be read as another one without a blank? -/
def growT (x y : Tk) : Bool := (decide (x.kind ≠ 4) && decide (y.kind ≠ 4)) || (decide (x.text.data.toList = [58]) && decide (y.text.data.toList = [61]))
/-- The shortest text with some tokens. -/
def tightL : List Tk → List UInt8
  | [] => []
  | [x] => x.text.data.toList
  | x :: y :: r => x.text.data.toList ++ (if growT x y = true then [32] else []) ++ tightL (y :: r)
/-- The error of tokens, and of the text of them. -/
def toksErr (l : List Tk) : Nat := if 900 < l.length then 5 else if l.all goodTk = false then 2 else 0
def tightErr (l : List Tk) : Nat := if toksErr l ≠ 0 then toksErr l else if 2500 < (tightL l).length then 5 else 0
def tight (l : List Tk) : ByteArray := if tightErr l = 0 then ⟨(tightL l).toArray⟩ else ⟨#[]⟩

theorem str_of_list' {o x : ByteArray} (h : o.data.toList = x.data.toList) : o = x := by
  obtain ⟨⟨a⟩⟩ := o
  obtain ⟨⟨b⟩⟩ := x
  simpa using h
theorem one_byte {s : ByteArray} {c : Nat} (h : s.size = 1) (hb : bt s 0 = c) (_hc : c < 256) : s.data.toList = [UInt8.ofNat c] := by
  have hl : s.data.toList.length = 1 := by rw [len_list]; exact h
  obtain ⟨x, hx⟩ := List.length_eq_one_iff.1 hl
  unfold bt at hb
  rw [hx] at hb ⊢
  rw [← hb]
  simp
theorem runEnd_eq {p : Nat → Bool} {s : ByteArray} {b : Nat} (hb : b ≤ s.size) (hst : s.size ≤ b ∨ p (bt s b) = false) : ∀ (n a : Nat), b - a = n → a ≤ b → (∀ j, a ≤ j → j < b → p (bt s j) = true) → runEnd p s a = b := by
  intro n
  induction n with
  | zero => intro a h1 h2 _; rw [show a = b by omega]; exact runEnd_stop hst
  | succ n ih =>
    intro a h1 h2 h3
    rw [runEnd_step (by omega) (h3 a (Nat.le_refl _) (by omega))]
    exact ih (a + 1) (by omega) (by omega) (fun j j1 j2 => h3 j (by omega) j2)

/-- What a token that is right is like. -/
structure Good (t : Tk) : Prop where
  pos_ : 0 < t.text.size
  whole : pieceEnd t.text 0 = t.text.size
  kind_ : kindOf t.text = (t.kind, 0)
  cls_ : cls (bt t.text 0) = 4 ∨ cls (bt t.text 0) = 6 ∨ cls (bt t.text 0) = 7
  sign_ : t.kind = 4 ↔ cls (bt t.text 0) = 7
  not5 : t.kind ≠ 5
theorem Good.of {t : Tk} (h : goodTk t = true) : Good t := by
  unfold goodTk at h
  simp only [Bool.and_eq_true, Bool.not_eq_true', Bool.or_eq_false_iff, decide_eq_false_iff_not, decide_eq_true_eq] at h
  obtain ⟨⟨h5, h0, hp⟩, hk2, hk1⟩ := h
  have hpos : 0 < t.text.size := by omega
  have hko : kindOf t.text = (t.kind, 0) := Prod.ext hk1 hk2
  have hc : (cls (bt t.text 0) = 4 ∨ cls (bt t.text 0) = 6 ∨ cls (bt t.text 0) = 7) ∧ (t.kind = 4 ↔ cls (bt t.text 0) = 7) := by
    have hk := hko
    unfold kindOf at hk
    split at hk
    · injection hk with h1 h2; exact absurd h1.symm h5
    · split at hk
      · rename_i h4
        refine ⟨.inl h4, ⟨fun e => ?_, fun e => by omega⟩⟩
        split at hk
        · injection hk with h1; omega
        · split at hk <;> (injection hk with h1 h2; omega)
      · split at hk
        · rename_i h6
          injection hk with h1 h2
          exact ⟨.inr (.inl h6), ⟨fun e => by omega, fun e => by omega⟩⟩
        · split at hk
          · rename_i h7
            injection hk with h1 h2
            exact ⟨.inr (.inr h7), ⟨fun _ => h7, fun _ => h1.symm⟩⟩
          · injection hk with h1 h2; omega
  exact ⟨hpos, Nat.le_antisymm (pieceEnd_le hpos) (by omega), hko, hc.1, hc.2, h5⟩
theorem Good.mk_ {t : Tk} (h1 : 0 < t.text.size) (h2 : pieceEnd t.text 0 = t.text.size) (h3 : kindOf t.text = (t.kind, 0)) (h5 : t.kind ≠ 5) : goodTk t = true := by
  unfold goodTk
  rw [decide_eq_false h5, decide_eq_false (by omega), decide_eq_false (by omega), h3, decide_eq_true rfl, decide_eq_true rfl]
  rfl
theorem Good.word {t : Tk} (h : Good t) (hc : cls (bt t.text 0) ≠ 7) : ∀ j, j < t.text.size → aln (bt t.text j) = true := by
  intro j hj
  have hw := h.whole
  unfold pieceEnd at hw
  rw [if_neg (by have := h.cls_; omega), if_pos (by have := h.cls_; omega)] at hw
  exact runEnd_inside (Nat.zero_le _) (by rw [hw]; exact hj)
theorem Good.signs_ {t : Tk} (h : Good t) (hc : cls (bt t.text 0) = 7) : (two t.text 0 = true ∧ t.text.size = 2) ∨ (two t.text 0 = false ∧ t.text.size = 1) := by
  have hw := h.whole
  unfold pieceEnd at hw
  rw [if_neg (by omega), if_neg (by omega)] at hw
  cases ht : two t.text 0 with
  | true => rw [if_pos ⟨hc, ht⟩] at hw; exact .inl ⟨rfl, by omega⟩
  | false => rw [if_neg (fun x => by rw [ht] at x; exact absurd x.2 (by decide))] at hw; exact .inr ⟨rfl, by omega⟩

/-- Bytes of a text at a place where another one stands. -/
theorem bt_drop {t u : ByteArray} {a : Nat} {r : List UInt8} (h : t.data.toList.drop a = u.data.toList ++ r) : (∀ j, j < u.size → bt t (a + j) = bt u j) ∧ (∀ j, bt t (a + u.size + j) = (r.getD j 0).toNat) := by
  have g : ∀ j, t.data.toList.getD (a + j) 0 = (u.data.toList ++ r).getD j 0 := by
    intro j
    rw [← h, List.getD_eq_getElem?_getD, List.getD_eq_getElem?_getD, List.getElem?_drop]
  constructor
  · intro j hj
    unfold bt
    rw [g, List.getD_eq_getElem?_getD, List.getD_eq_getElem?_getD, List.getElem?_append_left (by rw [len_list]; exact hj)]
  · intro j
    unfold bt
    rw [show a + u.size + j = a + (u.size + j) by omega, g, List.getD_eq_getElem?_getD, List.getD_eq_getElem?_getD, List.getElem?_append_right (by rw [len_list]; omega), len_list, show u.size + j - u.size = j by omega]

/-- A token stands at a place and is read as it is. -/
theorem piece_is {t : ByteArray} {x : Tk} {a : Nat} {r : List UInt8} (hx : Good x) (h : t.data.toList.drop a = x.text.data.toList ++ r)
    (hw : cls (bt x.text 0) ≠ 7 → aln (r.getD 0 0).toNat = false) (hs : cls (bt x.text 0) = 7 → x.text.size = 1 → two t a = false) :
    a + x.text.size ≤ t.size ∧ pieceEnd t a = a + x.text.size ∧ piece t a = ⟨⟨x.kind, x.text, a⟩, 0⟩ ∧ cls (bt t a) = cls (bt x.text 0) := by
  obtain ⟨g1, g2⟩ := bt_drop h
  have hpos := hx.pos_
  have hlen := drop_len h
  rw [List.length_append, len_list, len_list] at hlen
  have hle : a + x.text.size ≤ t.size := by omega
  have hb0 : bt t a = bt x.text 0 := by have := g1 0 hpos; simpa using this
  have hpe : pieceEnd t a = a + x.text.size := by
    unfold pieceEnd
    rw [hb0, if_neg (by have := hx.cls_; omega)]
    by_cases h7 : cls (bt x.text 0) = 7
    · rw [if_neg (by omega)]
      rcases hx.signs_ h7 with ⟨h2, hz⟩ | ⟨h2, hz⟩
      · have ht : two t a = true := by
          unfold two at h2 ⊢
          have e1 := g1 1 (by omega)
          rw [hb0, e1]; exact h2
        rw [if_pos ⟨h7, ht⟩]; omega
      · rw [if_neg (fun e => by rw [hs h7 hz] at e; exact absurd e.2 (by decide))]; omega
    · rw [if_pos (by have := hx.cls_; omega)]
      refine runEnd_eq hle (.inr ?_) _ a rfl (by omega) (fun j j1 j2 => ?_)
      · have := g2 0
        rw [Nat.add_zero] at this
        rw [this]; exact hw h7
      · have := g1 (j - a) (by omega)
        rw [show a + (j - a) = j by omega] at this
        rw [this]; exact hx.word h7 _ (by omega)
  have hex : t.extract a (pieceEnd t a) = x.text := by
    refine str_of_list' ?_
    rw [extract_list, hpe, h, show a + x.text.size - a = x.text.size by omega, List.take_append_of_le_length (by rw [len_list]; omega), List.take_of_length_le (by rw [len_list]; omega)]
  refine ⟨hle, hpe, ?_, by rw [hb0]⟩
  unfold piece
  rw [hex, hx.kind_]
  have : trimT x.text = x.text := by unfold trimT; rw [if_neg (fun e => by have := hx.cls_; rw [e] at this; revert this; decide)]
  rw [this]

/-- Tokens that are the same but for their places. -/
def SameB : List Tk → List Tk → Prop
  | [], [] => True
  | x :: r, y :: q => x.kind = y.kind ∧ x.text = y.text ∧ SameB r q
  | _, _ => False
/-- Places that rise, from a place on. -/
def Rise : Nat → List Tk → Prop
  | _, [] => True
  | a, x :: r => a ≤ x.pos ∧ Rise (x.pos + 1) r
theorem Rise.mono : ∀ {l : List Tk} {a b : Nat}, b ≤ a → Rise a l → Rise b l
  | [], _, _, _, _ => trivial
  | _ :: _, _, _, h, ⟨h1, h2⟩ => ⟨Nat.le_trans h h1, h2⟩

theorem sep_head {x y : Tk} (hx : Good x) (hy : Good y) (hg : growT x y = false) {t : ByteArray} {a : Nat} {r : List UInt8} (h : t.data.toList.drop a = x.text.data.toList ++ (y.text.data.toList ++ r)) :
    (cls (bt x.text 0) ≠ 7 → aln ((y.text.data.toList ++ r).getD 0 0).toNat = false) ∧ (cls (bt x.text 0) = 7 → x.text.size = 1 → two t a = false) := by
  have hy0 : ((y.text.data.toList ++ r).getD 0 0).toNat = bt y.text 0 := by
    unfold bt
    rw [List.getD_eq_getElem?_getD, List.getD_eq_getElem?_getD, List.getElem?_append_left (by rw [len_list]; exact hy.pos_)]
  obtain ⟨g1, g2⟩ := bt_drop h
  simp only [growT, Bool.or_eq_false_iff, Bool.and_eq_false_iff, decide_eq_false_iff_not, Classical.not_not] at hg
  constructor
  · intro h7
    have hk : x.kind ≠ 4 := fun e => h7 (hx.sign_.1 e)
    have hy4 : y.kind = 4 := by rcases hg.1 with e | e <;> omega
    have hy7 := hy.sign_.1 hy4
    rw [hy0]
    cases ha : aln (bt y.text 0) with
    | false => rfl
    | true =>
      have := of_decide_eq_true ha
      simp at this; omega
  · intro h7 h1
    have e0 : bt t a = bt x.text 0 := by have := g1 0 hx.pos_; simpa using this
    have e1 : bt t (a + 1) = bt y.text 0 := by
      have := g2 0
      rw [h1, Nat.add_zero, hy0] at this; exact this
    cases ht : two t a with
    | false => rfl
    | true =>
      exfalso
      simp only [two, Bool.or_eq_true, Bool.and_eq_true, beq_iff_eq] at ht
      rw [e0, e1] at ht
      rcases ht with ⟨p, q⟩ | ⟨p, q⟩
      · have hx1 : x.text.data.toList = [58] := one_byte (c := 58) h1 p (by decide)
        have hy7 : cls (bt y.text 0) = 7 := by rw [q]; decide
        have hys : y.text.size = 1 := by
          rcases hy.signs_ hy7 with ⟨h2, _⟩ | ⟨_, h2⟩
          · simp [two, q] at h2
          · exact h2
        have hy1 : y.text.data.toList = [61] := one_byte (c := 61) hys q (by decide)
        rcases hg.2 with e | e
        · exact e hx1
        · exact e hy1
      · have := hy.cls_
        rw [q] at this
        revert this; decide

/-- The tokens among pieces. -/
def toksOf (l : List Pc) : List Tk := (l.filter (fun p => !(p.tk.kind == 5))).map Pc.tk
theorem col_ok : ∀ (l : List Pc) (acc : List Tk), (collect l acc).2.2 = 0 → (collect l acc).1 = acc ++ toksOf l ∧ ∀ p ∈ l, p.tk.kind ≠ 5 → p.err = 0 := by
  intro l
  induction l with
  | nil => intro acc _; exact ⟨by simp [collect, toksOf], fun p hp => by cases hp⟩
  | cons p r ih =>
    intro acc h
    by_cases h5 : p.tk.kind = 5
    · rw [collect, if_pos h5] at h ⊢
      obtain ⟨h1, h2⟩ := ih acc h
      refine ⟨by rw [h1]; simp [toksOf, h5], fun q hq => ?_⟩
      rcases List.mem_cons.1 hq with rfl | hq
      · intro e; exact absurd h5 e
      · exact h2 q hq
    · by_cases he : p.err = 0
      · by_cases hl : acc.length = 900
        · rw [collect, if_neg h5, if_pos he, if_pos hl] at h; exact absurd (show (5 : Nat) = 0 from h) (by decide)
        · rw [collect, if_neg h5, if_pos he, if_neg hl] at h ⊢
          obtain ⟨h1, h2⟩ := ih _ h
          refine ⟨by rw [h1]; simp [toksOf, h5], fun q hq => ?_⟩
          rcases List.mem_cons.1 hq with rfl | hq
          · intro _; exact he
          · exact h2 q hq
      · rw [collect, if_neg h5, if_neg he] at h
        exact absurd h he
theorem col_good : ∀ (l : List Pc) (acc : List Tk), (∀ p ∈ l, p.err = 0) → acc.length + (toksOf l).length ≤ 900 → collect l acc = (acc ++ toksOf l, 0, 0) := by
  intro l
  induction l with
  | nil => intro acc _ _; simp [collect, toksOf]
  | cons p r ih =>
    intro acc h hl
    by_cases h5 : p.tk.kind = 5
    · have e : toksOf (p :: r) = toksOf r := by simp [toksOf, h5]
      rw [collect, if_pos h5, e]
      rw [e] at hl
      exact ih acc (fun q hq => h q (List.mem_cons_of_mem _ hq)) hl
    · have e : toksOf (p :: r) = p.tk :: toksOf r := by simp [toksOf, h5]
      rw [e, List.length_cons] at hl
      rw [collect, if_neg h5, if_pos (h p List.mem_cons_self), if_neg (by omega), e, ih (acc ++ [p.tk]) (fun q hq => h q (List.mem_cons_of_mem _ hq)) (by simp; omega)]
      simp

theorem tight_cons (x y : Tk) (r : List Tk) : tightL (x :: y :: r) = x.text.data.toList ++ ((if growT x y = true then [32] else []) ++ tightL (y :: r)) := by rw [tightL, List.append_assoc]
theorem tight_head (y : Tk) (r : List Tk) : ∃ q, tightL (y :: r) = y.text.data.toList ++ q := by
  cases r with
  | nil => exact ⟨[], by simp [tightL]⟩
  | cons z r => exact ⟨_, tight_cons y z r⟩

/-- The shortest text is read as its tokens. -/
theorem lex_tight (t : ByteArray) : ∀ (l : List Tk) (a : Nat), (∀ x ∈ l, goodTk x = true) → t.data.toList.drop a = tightL l →
    ∃ m, piecesFrom t a = m.map (fun k => ⟨k, 0⟩) ∧ SameB l m ∧ Rise a m ∧ (∀ k ∈ m, k.kind ≠ 5) := by
  intro l
  induction l with
  | nil =>
    intro a _ h
    have hlen := drop_len h
    rw [len_list] at hlen
    refine ⟨[], ?_, trivial, trivial, fun k hk => by cases hk⟩
    rw [pieces_end (by simp [tightL] at hlen; omega)]; rfl
  | cons x r ih =>
    intro a hg h
    have hx := Good.of (hg x List.mem_cons_self)
    have hr : ∀ y ∈ r, goodTk y = true := fun y hy => hg y (List.mem_cons_of_mem _ hy)
    have fin : ∀ (b : Nat) (rest : List UInt8), t.data.toList.drop a = x.text.data.toList ++ rest → (cls (bt x.text 0) ≠ 7 → aln (rest.getD 0 0).toNat = false) → (cls (bt x.text 0) = 7 → x.text.size = 1 → two t a = false) →
        a + x.text.size ≤ b → piecesFrom t (a + x.text.size) = piecesFrom t b → t.data.toList.drop b = tightL r →
        ∃ m, piecesFrom t a = m.map (fun k => ⟨k, 0⟩) ∧ SameB (x :: r) m ∧ Rise a m ∧ (∀ k ∈ m, k.kind ≠ 5) := by
      intro b rest h1 h2 h3 hb h4 h5
      obtain ⟨p1, p2, p3, p4⟩ := piece_is hx h1 h2 h3
      have hpos := hx.pos_
      obtain ⟨m, m1, m2, m3, m4⟩ := ih b hr h5
      refine ⟨⟨x.kind, x.text, a⟩ :: m, ?_, ⟨rfl, rfl, m2⟩, ⟨Nat.le_refl _, Rise.mono (by show a + 1 ≤ b; omega) m3⟩, fun k hk => ?_⟩
      · rw [pieces_piece (by omega) (by rw [p4]; have := hx.cls_; omega), p3, p2, h4, m1]; rfl
      · rcases List.mem_cons.1 hk with rfl | hk
        · exact hx.not5
        · exact m4 k hk
    cases r with
    | nil =>
      have h' : t.data.toList.drop a = x.text.data.toList ++ [] := by rw [h]; simp [tightL]
      refine fin (a + x.text.size) [] h' (fun _ => by decide) (fun h7 h1 => ?_) (Nat.le_refl _) rfl ?_
      · obtain ⟨g1, g2⟩ := bt_drop h'
        have e1 : bt t (a + 1) = 0 := by have := g2 0; rw [h1] at this; simpa using this
        simp [two, e1]
      · have hlen := drop_len h'
        rw [List.length_append, len_list, len_list] at hlen
        rw [List.drop_of_length_le (by rw [len_list]; simp at hlen; have := hx.pos_; omega)]; rfl
    | cons y r =>
      have hy := Good.of (hr y List.mem_cons_self)
      rw [tight_cons] at h
      obtain ⟨q, hq⟩ := tight_head y r
      cases hgr : growT x y with
      | true =>
        rw [hgr, if_pos rfl] at h
        have hlen := drop_len h
        rw [List.length_append, List.length_append, len_list, len_list] at hlen
        have hpos := hx.pos_
        simp only [List.length_cons, List.length_nil] at hlen
        obtain ⟨g1, g2⟩ := bt_drop h
        have e0 : bt t (a + x.text.size) = 32 := by have := g2 0; simpa using this
        refine fin (a + x.text.size + 1) _ h (fun _ => rfl) (fun h7 h1 => ?_) (by omega) ?_ ?_
        · have e1 : bt t (a + 1) = 32 := by rw [← e0, h1]
          simp [two, e1]
        · exact pieces_blank (by omega) (by rw [e0]; decide)
        · rw [show a + x.text.size + 1 = a + (x.text.size + 1) by omega, ← List.drop_drop, h, List.drop_append, List.drop_of_length_le (by rw [len_list]; omega), List.nil_append, len_list, show x.text.size + 1 - x.text.size = 1 by omega]
          rfl
      | false =>
        rw [hgr, if_neg (by decide), List.nil_append] at h
        have h' := h
        rw [hq] at h'
        obtain ⟨s1, s2⟩ := sep_head hx hy hgr h'
        refine fin (a + x.text.size) _ h (by rw [hq]; exact s1) s2 (Nat.le_refl _) rfl ?_
        rw [← List.drop_drop, h, List.drop_append, List.drop_of_length_le (by rw [len_list]; omega), List.nil_append, len_list, Nat.sub_self, List.drop_zero]

end Go.Proofs.YthjnoboceibjjaaGreatDoor.Lx

namespace Go.Proofs.YthjnoboceibjjaaGreatDoor.Lx
open Go Go.Proofs Go.RowKit Go.Shelf

theorem runTo_full' (p : Nat → Bool) (s : ByteArray) (hp : ∀ j, j < s.size → p (bt s j) = true) : ∀ (f a : Nat), s.size - a ≤ f → a ≤ s.size → runTo p s f a = s.size := by
  intro f
  induction f with
  | zero => intro a h1 h2; rw [runTo]; omega
  | succ f ih =>
    intro a h1 h2
    rw [runTo]
    by_cases h : a < s.size
    · rw [if_pos ⟨h, hp a h⟩]; exact ih (a + 1) (by omega) (by omega)
    · rw [if_neg (fun x => h x.1)]; omega
theorem runEnd_full' {p : Nat → Bool} {s : ByteArray} (hp : ∀ j, j < s.size → p (bt s j) = true) : runEnd p s 0 = s.size := runTo_full' p s hp _ 0 (Nat.le_refl _) (Nat.zero_le _)
theorem runTo_end (p : Nat → Bool) (s : ByteArray) : ∀ (f a : Nat), s.size - a ≤ f → s.size ≤ runTo p s f a ∨ p (bt s (runTo p s f a)) = false := by
  intro f
  induction f with
  | zero => intro a h; rw [runTo]; exact .inl (by omega)
  | succ f ih =>
    intro a h
    rw [runTo]
    split
    · exact ih (a + 1) (by omega)
    · rename_i h2
      by_cases h3 : a < s.size
      · refine .inr ?_
        cases hp : p (bt s a) with
        | false => rfl
        | true => exact absurd ⟨h3, hp⟩ h2
      · exact .inl (by omega)
theorem runEnd_idem (p : Nat → Bool) (s : ByteArray) (a : Nat) : runEnd p s (runEnd p s a) = runEnd p s a := runEnd_stop (runTo_end p s _ a (Nat.le_refl _))
theorem col_place : ∀ (l : List Pc) (acc : List Tk), (collect l acc).2.2 = 0 → (collect l acc).2.1 = 0 := by
  intro l
  induction l with
  | nil => intro acc _; rfl
  | cons p r ih =>
    intro acc h
    rw [collect] at h ⊢
    split at h
    · rename_i h5; rw [if_pos h5]; exact ih acc h
    · rename_i h5
      rw [if_neg h5]
      split at h
      · rename_i he
        rw [if_pos he]
        split at h
        · exact absurd (show (5 : Nat) = 0 from h) (by decide)
        · rename_i hl; rw [if_neg hl]; exact ih _ h
      · rename_i he; exact absurd h he
theorem col_most : ∀ (l : List Pc) (acc : List Tk), acc.length ≤ 900 → (collect l acc).2.2 = 0 → (collect l acc).1.length ≤ 900 := by
  intro l
  induction l with
  | nil => intro acc h _; exact h
  | cons p r ih =>
    intro acc hl h
    rw [collect] at h ⊢
    split at h
    · rename_i h5; rw [if_pos h5]; exact ih acc hl h
    · rename_i h5
      rw [if_neg h5]
      split at h
      · rename_i he
        rw [if_pos he]
        split at h
        · exact absurd (show (5 : Nat) = 0 from h) (by decide)
        · rename_i hl2; rw [if_neg hl2]; exact ih _ (by simp; omega) h
      · rename_i he; exact absurd h he
/-- What is read of a text as a token is right. -/
theorem tok_good {s : ByteArray} {a : Nat} (ha : a < s.size) (h3 : cls (bt s a) ≠ 3) (he : (piece s a).err = 0) : goodTk (piece s a).tk = true ∧ (piece s a).tk.text = s.extract a (pieceEnd s a) ∧ (piece s a).tk.pos = a := by
  have hlt := lt_pieceEnd ha
  have hle := pieceEnd_le ha
  have hb0 : bt (s.extract a (pieceEnd s a)) 0 = bt s a := by rw [bt_extract (by omega)]; rfl
  have hsz : (s.extract a (pieceEnd s a)).size = pieceEnd s a - a := by simp; omega
  have he' : (kindOf (s.extract a (pieceEnd s a))).2 = 0 := he
  have htr : trimT (s.extract a (pieceEnd s a)) = s.extract a (pieceEnd s a) := by
    unfold trimT
    rw [hb0, if_neg (fun e => by rw [e] at h3; exact h3 (by decide))]
  have hcl : cls (bt s a) = 4 ∨ cls (bt s a) = 6 ∨ cls (bt s a) = 7 := by
    have hk := he'
    unfold kindOf at hk
    rw [hb0, if_neg h3] at hk
    by_cases h4 : cls (bt s a) = 4
    · exact .inl h4
    · rw [if_neg h4] at hk
      by_cases h6 : cls (bt s a) = 6
      · exact .inr (.inl h6)
      · rw [if_neg h6] at hk
        by_cases h7 : cls (bt s a) = 7
        · exact .inr (.inr h7)
        · rw [if_neg h7] at hk; exact absurd hk (by decide)
  refine ⟨Good.mk_ ?_ ?_ ?_ ?_, htr, rfl⟩
  · show 0 < (trimT (s.extract a (pieceEnd s a))).size
    rw [htr, hsz]; omega
  · show pieceEnd (trimT (s.extract a (pieceEnd s a))) 0 = (trimT (s.extract a (pieceEnd s a))).size
    rw [htr, hsz]
    unfold pieceEnd at hsz hb0 ⊢
    rw [if_neg h3] at hsz hb0 ⊢
    by_cases hw : cls (bt s a) = 4 ∨ cls (bt s a) = 6
    · rw [if_pos hw] at hsz hb0 ⊢
      rw [hb0, if_neg h3, if_pos hw, runEnd_full' (fun j hj => ?_), hsz]
      rw [bt_extract (s := s) (i := a) (j := runEnd aln s a) (k := j) (by omega)]
      exact runEnd_inside (a := a) (by omega) (by omega)
    · rw [if_neg hw] at hsz hb0 ⊢
      by_cases h2 : cls (bt s a) = 7 ∧ two s a = true
      · rw [if_pos h2] at hsz hb0 ⊢
        have hb1 : bt (s.extract a (a + 2)) 1 = bt s (a + 1) := bt_extract (by omega)
        have ht : two (s.extract a (a + 2)) 0 = true := by
          have := h2.2
          unfold two at this ⊢
          rw [hb0, Nat.zero_add, hb1]; exact this
        rw [hb0, if_neg h3, if_neg hw, if_pos ⟨h2.1, ht⟩]; omega
      · rw [if_neg h2] at hsz hb0 ⊢
        have hb1 : bt (s.extract a (a + 1)) 1 = 0 := by
          unfold bt
          rw [List.getD_eq_getElem?_getD, List.getElem?_eq_none (by rw [len_list, hsz]; omega)]; rfl
        have ht : two (s.extract a (a + 1)) 0 = false := by
          unfold two
          rw [Nat.zero_add, hb1]; simp
        rw [hb0, if_neg h3, if_neg hw, if_neg (fun e => by rw [ht] at e; exact absurd e.2 (by decide))]; omega
  · show kindOf (trimT (s.extract a (pieceEnd s a))) = ((kindOf (s.extract a (pieceEnd s a))).1, 0)
    rw [htr]; exact Prod.ext rfl he'
  · intro h5
    exact h3 ((kind5 ha).1 h5)

/-- A token right behind another one: no blank is wanted. -/
theorem next_apart {s : ByteArray} {a : Nat} (ha : a < s.size) (_h2 : cls (bt s a) ≠ 2) (h3 : cls (bt s a) ≠ 3) (he : (piece s a).err = 0) (hb : pieceEnd s a < s.size) (hb3 : cls (bt s (pieceEnd s a)) ≠ 3) (hbe : (piece s (pieceEnd s a)).err = 0) :
    growT (piece s a).tk (piece s (pieceEnd s a)).tk = false := by
  obtain ⟨gx, tx, _⟩ := tok_good ha h3 he
  obtain ⟨gy, ty, _⟩ := tok_good hb hb3 hbe
  have hlt := lt_pieceEnd ha
  have hlt2 := lt_pieceEnd hb
  have hx := Good.of gx
  have hy := Good.of gy
  have hx0 : bt (piece s a).tk.text 0 = bt s a := by rw [tx, bt_extract (by omega)]; rfl
  have hy0 : bt (piece s (pieceEnd s a)).tk.text 0 = bt s (pieceEnd s a) := by rw [ty, bt_extract (by omega)]; rfl
  have hcx := hx.cls_
  rw [hx0] at hcx
  have hsx := hx.sign_
  have hsy := hy.sign_
  rw [hx0] at hsx
  rw [hy0] at hsy
  unfold growT
  rw [Bool.or_eq_false_iff]
  constructor
  · by_cases h7 : cls (bt s a) = 7
    · rw [decide_eq_false (fun e => e (hsx.2 h7))]; rfl
    · have hpe : pieceEnd s a = runEnd aln s a := by unfold pieceEnd; rw [if_neg h3, if_pos (by omega)]
      have hst : aln (bt s (pieceEnd s a)) = false := by
        cases hal : aln (bt s (pieceEnd s a)) with
        | false => rfl
        | true =>
          have e1 := runEnd_step hb hal
          have e2 : runEnd aln s (pieceEnd s a) = pieceEnd s a := by
            rw [hpe]; exact runEnd_idem aln s a
          have := le_runEnd aln s (pieceEnd s a + 1)
          omega
      have hy7 : cls (bt s (pieceEnd s a)) = 7 := by
        have := hy.cls_
        rw [hy0] at this
        rcases this with e | e | e
        · unfold aln at hst; rw [e] at hst; exact absurd hst (by decide)
        · unfold aln at hst; rw [e] at hst; exact absurd hst (by decide)
        · exact e
      rw [decide_eq_false (fun e : (piece s (pieceEnd s a)).tk.kind ≠ 4 => e (hsy.2 hy7)), Bool.and_false]
  · cases hd : decide ((piece s a).tk.text.data.toList = [58]) with
    | false => rfl
    | true =>
      have hl := of_decide_eq_true hd
      have hsz : (piece s a).tk.text.size = 1 := by rw [← len_list, hl]; rfl
      have e0 : bt s a = 58 := by rw [← hx0]; unfold bt; rw [hl]; rfl
      have h7 : cls (bt s a) = 7 := by rw [e0]; decide
      have hpe : pieceEnd s a = a + 1 := by
        have : (s.extract a (pieceEnd s a)).size = pieceEnd s a - a := by have := pieceEnd_le ha; simp; omega
        rw [← tx, hsz] at this; omega
      have ht : two s a = false := by
        cases ht : two s a with
        | false => rfl
        | true =>
          exfalso
          unfold pieceEnd at hpe
          rw [if_neg h3, if_neg (by omega), if_pos ⟨h7, ht⟩] at hpe; omega
      rw [Bool.true_and]
      refine decide_eq_false fun hl2 => ?_
      have e1 : bt s (a + 1) = 61 := by rw [← hpe, ← hy0]; unfold bt; rw [hl2]; rfl
      simp [two, e0, e1] at ht

/-- The shortest text is not longer than what is left. -/
theorem tight_len (s : ByteArray) : ∀ (f a : Nat), s.size - a ≤ f → (∀ p ∈ piecesFrom s a, p.tk.kind ≠ 5 → p.err = 0) →
    (tightL (toksOf (piecesFrom s a))).length ≤ s.size - a ∧ (∀ x ∈ toksOf (piecesFrom s a), goodTk x = true) ∧
    (∀ y r, toksOf (piecesFrom s a) = y :: r → a ≤ y.pos ∧ y.pos < s.size ∧ y = (piece s y.pos).tk ∧ cls (bt s y.pos) ≠ 2 ∧ cls (bt s y.pos) ≠ 3 ∧ (piece s y.pos).err = 0 ∧ (tightL (y :: r)).length ≤ s.size - y.pos) := by
  intro f
  induction f with
  | zero =>
    intro a hf _
    rw [pieces_end (by omega)]
    exact ⟨by simp [toksOf, tightL], fun x hx => by simp [toksOf] at hx, fun y r h => by simp [toksOf] at h⟩
  | succ f ih =>
    intro a hf he
    by_cases ha : a < s.size
    · by_cases h2 : cls (bt s a) = 2
      · rw [pieces_blank ha h2] at he ⊢
        obtain ⟨i1, i2, i3⟩ := ih (a + 1) (by omega) he
        refine ⟨by omega, i2, fun y r h => ?_⟩
        obtain ⟨j1, j2⟩ := i3 y r h
        exact ⟨by omega, j2⟩
      · have hlt := lt_pieceEnd ha
        have hle := pieceEnd_le ha
        rw [pieces_piece ha h2] at he ⊢
        obtain ⟨i1, i2, i3⟩ := ih (pieceEnd s a) (by omega) (fun p hp => he p (List.mem_cons_of_mem _ hp))
        by_cases h3 : cls (bt s a) = 3
        · have e : toksOf (piece s a :: piecesFrom s (pieceEnd s a)) = toksOf (piecesFrom s (pieceEnd s a)) := by
            unfold toksOf; rw [List.filter_cons_of_neg (by simpa using (kind5 ha).2 h3)]
          rw [e]
          refine ⟨by omega, i2, fun y r h => ?_⟩
          obtain ⟨j1, j2⟩ := i3 y r h
          exact ⟨by omega, j2⟩
        · have hk5 : (piece s a).tk.kind ≠ 5 := fun e => h3 ((kind5 ha).1 e)
          have hpe := he _ List.mem_cons_self hk5
          obtain ⟨gx, tx, px⟩ := tok_good ha h3 hpe
          have hsz : (piece s a).tk.text.size = pieceEnd s a - a := by rw [tx]; simp; omega
          have e : toksOf (piece s a :: piecesFrom s (pieceEnd s a)) = (piece s a).tk :: toksOf (piecesFrom s (pieceEnd s a)) := by
            unfold toksOf; rw [List.filter_cons_of_pos (by simpa using hk5)]; rfl
          rw [e]
          have hlen : (tightL ((piece s a).tk :: toksOf (piecesFrom s (pieceEnd s a)))).length ≤ s.size - a := by
            cases hT : toksOf (piecesFrom s (pieceEnd s a)) with
            | nil => rw [tightL, len_list, hsz]; omega
            | cons y r =>
              obtain ⟨j1, j2, j3, j4, j5, j6, j7⟩ := i3 y r hT
              rw [tight_cons, List.length_append, List.length_append, len_list, hsz]
              by_cases hq : y.pos = pieceEnd s a
              · have hg : growT (piece s a).tk y = false := by
                  rw [j3, hq]
                  rw [hq] at j2 j5 j6
                  exact next_apart ha h2 h3 hpe j2 j5 j6
                rw [hg, if_neg (by decide)]
                simp only [List.length_nil]
                omega
              · have : (if growT (piece s a).tk y = true then [(32 : UInt8)] else []).length ≤ 1 := by split <;> simp
                omega
          refine ⟨hlen, fun x hx => ?_, fun y r h => ?_⟩
          · rcases List.mem_cons.1 hx with rfl | hx
            · exact gx
            · exact i2 x hx
          · injection h with h1 h2'
            subst h1
            subst h2'
            rw [px]
            exact ⟨Nat.le_refl _, ha, rfl, h2, h3, hpe, hlen⟩
    · rw [pieces_end (by omega)]
      exact ⟨by simp [toksOf, tightL], fun x hx => by simp [toksOf] at hx, fun y r h => by simp [toksOf] at h⟩

/-- All bytes of tokens that are right stand in texts. -/
theorem okb_aln {c : Nat} (hc : c < 256) (h : aln c = true) : okb c = true := by
  cases ho : okb c with
  | true => rfl
  | false =>
    have := (cls_stray c hc).2 ho
    unfold aln at h
    rw [this] at h; exact absurd h (by decide)
theorem Good.fine {x : Tk} (h : Good x) : fineL x.text.data.toList := by
  refine fine_of (bad_none _ fun j hj => ?_)
  by_cases h7 : cls (bt x.text 0) = 7
  · have h0 : okb (bt x.text 0) = true := by
      cases ho : okb (bt x.text 0) with
      | true => rfl
      | false => have := (cls_stray _ (bt_lt _ _)).2 ho; omega
    rcases h.signs_ h7 with ⟨h2, hz⟩ | ⟨_, hz⟩
    · rcases (show j = 0 ∨ j = 1 by omega) with rfl | rfl
      · exact h0
      · simp only [two, Bool.or_eq_true, Bool.and_eq_true, beq_iff_eq] at h2
        rcases h2 with ⟨_, e⟩ | ⟨_, e⟩ <;> (rw [e]; rfl)
    · rw [show j = 0 by omega]; exact h0
  · exact okb_aln (bt_lt _ _) (h.word h7 j hj)
theorem fine_tight : ∀ (l : List Tk), (∀ x ∈ l, goodTk x = true) → fineL (tightL l) := by
  intro l
  induction l with
  | nil => intro _ c hc; cases hc
  | cons x r ih =>
    intro hg c hc
    have hx := (Good.of (hg x List.mem_cons_self)).fine
    cases r with
    | nil => exact hx c hc
    | cons y r =>
      rw [tight_cons] at hc
      rcases List.mem_append.1 hc with hc | hc
      · exact hx c hc
      · rcases List.mem_append.1 hc with hc | hc
        · split at hc
          · rcases List.mem_singleton.1 hc with rfl; rfl
          · cases hc
        · exact ih (fun z hz => hg z (List.mem_cons_of_mem _ hz)) c hc

theorem SameB.length : ∀ {l m : List Tk}, SameB l m → l.length = m.length
  | [], [], _ => rfl
  | _ :: _, _ :: _, ⟨_, _, h⟩ => congrArg (· + 1) (SameB.length h)
  | [], _ :: _, h => h.elim
  | _ :: _, [], h => h.elim

/-- The tokens of the shortest text. -/
theorem tokens_tight {l : List Tk} (hg : ∀ x ∈ l, goodTk x = true) (hl : l.length ≤ 900) (ht : (tightL l).length ≤ 2500) :
    ∃ m, tokens ⟨(tightL l).toArray⟩ = (m, 0, 0) ∧ SameB l m ∧ Rise 0 m := by
  obtain ⟨m, m1, m2, m3, m4⟩ := lex_tight ⟨(tightL l).toArray⟩ l 0 hg rfl
  have hT : toksOf (m.map (fun k => (⟨k, 0⟩ : Pc))) = m := by
    have : ∀ m : List Tk, (∀ k ∈ m, k.kind ≠ 5) → toksOf (m.map (fun k => (⟨k, 0⟩ : Pc))) = m := by
      intro m
      induction m with
      | nil => intro _; rfl
      | cons x r ih =>
        intro h
        have h5 := h x List.mem_cons_self
        have e := ih (fun k hk => h k (List.mem_cons_of_mem _ hk))
        unfold toksOf at e ⊢
        rw [List.map_cons, List.filter_cons_of_pos (by simpa using h5), List.map_cons, e]
    exact this m m4
  have h0 : (textErr ⟨(tightL l).toArray⟩).2 = 0 := by
    have hb : bad (⟨(tightL l).toArray⟩ : ByteArray) = none := of_fine (fine_tight l hg)
    have hz : ¬ 2500 < (⟨(tightL l).toArray⟩ : ByteArray).size := by rw [← len_list]; show ¬ 2500 < (tightL l).length; omega
    unfold textErr
    rw [if_neg hz, hb]
  refine ⟨m, ?_, m2, m3⟩
  unfold tokens
  rw [if_pos h0, m1]
  have := col_good (m.map (fun k => (⟨k, 0⟩ : Pc))) [] (fun p hp => by obtain ⟨k, _, rfl⟩ := List.mem_map.1 hp; rfl) (by rw [hT]; have := SameB.length m2; simp; omega)
  rw [this, hT]; rfl

/-- The tokens of a text. -/
theorem tokens_parts {s : ByteArray} (h : (tokens s).2.2 = 0) : (textErr s).2 = 0 ∧ (tokens s).1 = toksOf (piecesFrom s 0) ∧ (tokens s).2.1 = 0 ∧ (∀ p ∈ piecesFrom s 0, p.tk.kind ≠ 5 → p.err = 0) ∧ (tokens s).1.length ≤ 900 := by
  unfold tokens at h ⊢
  by_cases h0 : (textErr s).2 = 0
  · rw [if_pos h0] at h ⊢
    obtain ⟨h1, h2⟩ := col_ok _ [] h
    refine ⟨h0, by rw [h1]; rfl, col_place _ _ h, h2, col_most _ [] (by simp) h⟩
  · rw [if_neg h0] at h; exact absurd h h0

/-- The shortest text with the tokens of a text. -/
theorem tight_of {s : ByteArray} (h : (tokens s).2.2 = 0) : tightErr (tokens s).1 = 0 ∧ (tight (tokens s).1).size ≤ s.size ∧ ∃ m, tokens (tight (tokens s).1) = (m, 0, 0) ∧ SameB (tokens s).1 m := by
  obtain ⟨h0, h1, _, h2, h3⟩ := tokens_parts h
  obtain ⟨i1, i2, _⟩ := tight_len s s.size 0 (by omega) h2
  rw [← h1] at i1 i2
  have hz := (text_ok h0).1
  have hte : toksErr (tokens s).1 = 0 := by
    unfold toksErr
    rw [if_neg (by omega), if_neg (by rw [List.all_eq_true.2 i2]; decide)]
  have hti : tightErr (tokens s).1 = 0 := by
    unfold tightErr
    rw [if_neg (by omega), if_neg (by omega)]
  have htt : tight (tokens s).1 = ⟨(tightL (tokens s).1).toArray⟩ := if_pos hti
  obtain ⟨m, m1, m2, _⟩ := tokens_tight i2 h3 (by omega)
  refine ⟨hti, ?_, m, by rw [htt]; exact m1, m2⟩
  rw [htt, ← len_list]
  show (tightL (tokens s).1).length ≤ s.size
  omega

end Go.Proofs.YthjnoboceibjjaaGreatDoor.Lx

namespace Go.Proofs.YthjnoboceibjjaaGreatDoor.Lx
open Go Go.Proofs Go.RowKit Go.Shelf

theorem runTo_ge (p : Nat → Bool) (s : ByteArray) (b : Nat) (hb : b ≤ s.size) : ∀ (f a : Nat), s.size - a ≤ f → (∀ j, a ≤ j → j < b → p (bt s j) = true) → a ≤ b → b ≤ runTo p s f a := by
  intro f
  induction f with
  | zero => intro a h1 _ h3; rw [runTo]; omega
  | succ f ih =>
    intro a h1 h2 h3
    rw [runTo]
    by_cases e : a = b
    · split
      · have := (runTo_bounds p s f (a + 1)).1; omega
      · omega
    · rw [if_pos ⟨by omega, h2 a (Nat.le_refl _) (by omega)⟩]
      exact ih (a + 1) (by omega) (fun j j1 j2 => h2 j (by omega) j2) (by omega)
theorem runEnd_ge {p : Nat → Bool} {s : ByteArray} {a b : Nat} (hb : b ≤ s.size) (h : ∀ j, a ≤ j → j < b → p (bt s j) = true) (hab : a ≤ b) : b ≤ runEnd p s a := runTo_ge p s b hb _ a (Nat.le_refl _) h hab

theorem Good.noblank {x : Tk} (h : Good x) : ∀ j, j < x.text.size → bt x.text j ≠ 32 := by
  intro j hj e
  by_cases h7 : cls (bt x.text 0) = 7
  · rcases h.signs_ h7 with ⟨h2, hz⟩ | ⟨_, hz⟩
    · rcases (show j = 0 ∨ j = 1 by omega) with rfl | rfl
      · rw [e] at h7; exact absurd h7 (by decide)
      · simp [two, e] at h2
    · rw [show j = 0 by omega] at e; rw [e] at h7; exact absurd h7 (by decide)
  · have := h.word h7 j hj
    rw [e] at this; exact absurd this (by decide)

theorem toks_cons {s : ByteArray} {a : Nat} (ha : a < s.size) (h2 : cls (bt s a) ≠ 2) (h3 : cls (bt s a) ≠ 3) : toksOf (piecesFrom s a) = (piece s a).tk :: toksOf (piecesFrom s (pieceEnd s a)) := by
  rw [pieces_piece ha h2]
  have hk5 : (piece s a).tk.kind ≠ 5 := fun e => h3 ((kind5 ha).1 e)
  unfold toksOf
  rw [List.filter_cons_of_pos (by simpa using hk5)]; rfl

theorem list_byte {u : ByteArray} {i : Nat} {c : UInt8} {r : List UInt8} (h : (u.data.toList ++ r)[i]? = some c) (hi : i < u.size) : bt u i = c.toNat := by
  rw [List.getElem?_append_left (by rw [len_list]; exact hi)] at h
  unfold bt
  rw [List.getD_eq_getElem?_getD, h]; rfl

/-- Two tokens that grow together. -/
theorem grown_piece {t : ByteArray} {x y : Tk} {a : Nat} {q : List UInt8} (hx : Good x) (hy : Good y) (hg : growT x y = true) (h : t.data.toList.drop a = x.text.data.toList ++ (y.text.data.toList ++ q)) :
    a + x.text.size < pieceEnd t a ∧ a < t.size ∧ cls (bt t a) = cls (bt x.text 0) := by
  obtain ⟨g1, g2⟩ := bt_drop h
  have hlen := drop_len h
  rw [List.length_append, List.length_append, len_list, len_list, len_list] at hlen
  have hpx := hx.pos_
  have hpy := hy.pos_
  have e0 : bt t a = bt x.text 0 := by have := g1 0 hpx; simpa using this
  have ey : bt t (a + x.text.size) = bt y.text 0 := by
    have := g2 0
    rw [Nat.add_zero] at this
    rw [this]
    unfold bt
    rw [List.getD_eq_getElem?_getD, List.getD_eq_getElem?_getD, List.getElem?_append_left (by rw [len_list]; omega)]
  refine ⟨?_, by omega, by rw [e0]⟩
  unfold growT at hg
  rw [Bool.or_eq_true, Bool.and_eq_true, Bool.and_eq_true] at hg
  rcases hg with ⟨k1, k2⟩ | ⟨k1, k2⟩
  · have n1 : cls (bt x.text 0) ≠ 7 := fun e => of_decide_eq_true k1 (hx.sign_.2 e)
    have n2 : cls (bt y.text 0) ≠ 7 := fun e => of_decide_eq_true k2 (hy.sign_.2 e)
    unfold pieceEnd
    rw [e0, if_neg (by have := hx.cls_; omega), if_pos (by have := hx.cls_; omega)]
    have := runEnd_ge (p := aln) (s := t) (a := a) (b := a + x.text.size + 1) (by omega) (fun j j1 j2 => by
      by_cases hj : j = a + x.text.size
      · rw [hj, ey]; exact hy.word n2 0 hpy
      · have := g1 (j - a) (by omega)
        rw [show a + (j - a) = j by omega] at this
        rw [this]; exact hx.word n1 _ (by omega)) (by omega)
    omega
  · have l1 := of_decide_eq_true k1
    have l2 := of_decide_eq_true k2
    have s1 : x.text.size = 1 := by rw [← len_list, l1]; rfl
    have b0 : bt x.text 0 = 58 := by unfold bt; rw [l1]; rfl
    have b1 : bt y.text 0 = 61 := by unfold bt; rw [l2]; rfl
    have h7 : cls (bt t a) = 7 := by rw [e0, b0]; decide
    have ht : two t a = true := by
      unfold two
      rw [s1] at ey
      rw [e0, ey, b0, b1]; rfl
    unfold pieceEnd
    rw [if_neg (by omega), if_neg (by omega), if_pos ⟨h7, ht⟩]; omega

/-- Without one of its blanks the shortest text has other tokens. -/
theorem lex_less (t : ByteArray) : ∀ (l : List Tk) (a i : Nat), (∀ x ∈ l, goodTk x = true) → (tightL l)[i]? = some 32 → t.data.toList.drop a = (tightL l).eraseIdx i →
    (∀ p ∈ piecesFrom t a, p.tk.kind ≠ 5 → p.err = 0) → ¬ SameB l (toksOf (piecesFrom t a)) := by
  intro l
  induction l with
  | nil => intro a i _ h _ _; simp [tightL] at h
  | cons x r ih =>
    intro a i hg hi h he hs
    have hx := Good.of (hg x List.mem_cons_self)
    have hr : ∀ y ∈ r, goodTk y = true := fun y hy => hg y (List.mem_cons_of_mem _ hy)
    cases r with
    | nil =>
      have hi' : (x.text.data.toList ++ [])[i]? = some 32 := by simpa [tightL] using hi
      have hlt : i < x.text.size := by
        have := (List.getElem?_eq_some_iff.1 hi').1
        rw [List.length_append, len_list] at this; simpa using this
      exact hx.noblank i hlt (list_byte hi' hlt)
    | cons y r =>
      have hy := Good.of (hr y List.mem_cons_self)
      obtain ⟨q, hq⟩ := tight_head y r
      rw [tight_cons] at hi h
      by_cases hix : i < x.text.size
      · exact hx.noblank i hix (list_byte hi hix)
      · rw [List.eraseIdx_append_of_length_le (by rw [len_list]; omega), len_list] at h
        rw [List.getElem?_append_right (by rw [len_list]; omega), len_list] at hi
        -- the piece at a is x, and the rest is without its blank
        have next : ∀ (j b : Nat) (sep : List UInt8), sep ++ tightL (y :: r) = (if growT x y = true then [32] else []) ++ tightL (y :: r) → (tightL (y :: r))[j]? = some 32 → (sep ++ tightL (y :: r)).eraseIdx (i - x.text.size) = sep ++ (tightL (y :: r)).eraseIdx j →
            (sep = [] ∧ growT x y = false ∨ sep = [32]) → b = a + x.text.size + sep.length → False := by
          intro j b sep hsep hj her hgs hb
          have hyj : y.text.size ≤ j := by
            rcases Nat.lt_or_ge j y.text.size with hlt | hge
            · rw [hq] at hj
              exact absurd (list_byte hj hlt) (hy.noblank j hlt)
            · exact hge
          have hq' : (tightL (y :: r)).eraseIdx j = y.text.data.toList ++ q.eraseIdx (j - y.text.size) := by
            rw [hq, List.eraseIdx_append_of_length_le (by rw [len_list]; omega), len_list]
          rw [← hsep, her] at h
          have key : (cls (bt x.text 0) ≠ 7 → aln ((sep ++ (tightL (y :: r)).eraseIdx j).getD 0 0).toNat = false) ∧ (cls (bt x.text 0) = 7 → x.text.size = 1 → two t a = false) := by
            rcases hgs with ⟨rfl, hgf⟩ | rfl
            · rw [List.nil_append, hq'] at h ⊢
              exact sep_head hx hy hgf h
            · refine ⟨fun _ => rfl, fun h7 h1 => ?_⟩
              obtain ⟨g1, g2⟩ := bt_drop h
              have e1 : bt t (a + 1) = 32 := by have := g2 0; rw [h1] at this; simpa using this
              simp [two, e1]
          obtain ⟨p1, p2, p3, p4⟩ := piece_is hx h key.1 key.2
          have hpx := hx.pos_
          have hdb : t.data.toList.drop b = (tightL (y :: r)).eraseIdx j := by
            rw [hb, show a + x.text.size + sep.length = a + (x.text.size + sep.length) by omega, ← List.drop_drop, h, List.drop_append, List.drop_of_length_le (by rw [len_list]; omega), List.nil_append, len_list, show x.text.size + sep.length - x.text.size = sep.length by omega, List.drop_left]
          have hpb : piecesFrom t (a + x.text.size) = piecesFrom t b := by
            rcases hgs with ⟨rfl, _⟩ | rfl
            · rw [hb]; rfl
            · obtain ⟨g1, g2⟩ := bt_drop h
              have e1 : bt t (a + x.text.size) = 32 := by have := g2 0; simpa using this
              have hlen := drop_len h
              rw [List.length_append, List.length_append, len_list, len_list] at hlen
              simp only [List.length_cons, List.length_nil] at hlen
              rw [hb]
              exact pieces_blank (by omega) (by rw [e1]; decide)
          have hcls : cls (bt t a) ≠ 2 ∧ cls (bt t a) ≠ 3 := by rw [p4]; have := hx.cls_; omega
          rw [toks_cons (by omega) hcls.1 hcls.2, p3, p2, hpb] at hs
          rw [pieces_piece (by omega) hcls.1, p2, hpb] at he
          exact ih b j hr hj hdb (fun p hp => he p (List.mem_cons_of_mem _ hp)) hs.2.2
        cases hgr : growT x y with
        | true =>
          rw [hgr, if_pos rfl] at hi h
          by_cases hi0 : i = x.text.size
          · rw [hi0, Nat.sub_self] at h
            have h' : t.data.toList.drop a = x.text.data.toList ++ (y.text.data.toList ++ q) := by rw [h, hq]; rfl
            obtain ⟨b1, b2, b3⟩ := grown_piece hx hy hgr h'
            have hc := hx.cls_
            have h2 : cls (bt t a) ≠ 2 := by omega
            have h3 : cls (bt t a) ≠ 3 := by omega
            rw [toks_cons b2 h2 h3] at hs
            have hpe := he (piece t a) (by rw [pieces_piece b2 h2]; exact List.mem_cons_self) (fun e => h3 ((kind5 b2).1 e))
            obtain ⟨_, tx, _⟩ := tok_good b2 h3 hpe
            have hle := pieceEnd_le b2
            have hz : (piece t a).tk.text.size = pieceEnd t a - a := by rw [tx]; simp; omega
            have := hs.2.1
            rw [this, hz] at b1
            omega
          · obtain ⟨j, hj⟩ : ∃ j, i - x.text.size = j + 1 := ⟨i - x.text.size - 1, by omega⟩
            rw [hj] at hi h
            exact next j (a + x.text.size + 1) [32] (by rw [hgr, if_pos rfl]) (by simpa using hi) (by rw [hj]; rfl) (.inr rfl) rfl
        | false =>
          rw [hgr, if_neg (by decide), List.nil_append] at hi h
          exact next (i - x.text.size) (a + x.text.size) [] (by rw [hgr, if_neg (by decide)]) hi rfl (.inl ⟨rfl, hgr⟩) rfl

/-- The same, for the tokens of a text. -/
theorem tokens_less {l : List Tk} {t : ByteArray} {i : Nat} (hg : ∀ x ∈ l, goodTk x = true) (hi : (tightL l)[i]? = some 32) (ht : t.data.toList = (tightL l).take i ++ (tightL l).drop (i + 1)) (h : (tokens t).2.2 = 0) : ¬ SameB l (tokens t).1 := by
  obtain ⟨h0, h1, _, h2, _⟩ := tokens_parts h
  rw [h1]
  exact lex_less t l 0 i hg hi (by rw [List.drop_zero, ht, List.eraseIdx_eq_take_drop_succ]) h2

end Go.Proofs.YthjnoboceibjjaaGreatDoor.Lx

namespace Go.Proofs.YthjnoboceibjjaaGreatDoor.Lx
open Go Go.Proofs Go.RowKit Go.Shelf

theorem rightFrom_mono {n : Nat} : ∀ {l : List Sp} {a b : Int}, a ≤ b → rightFrom n b l = true → rightFrom n a l = true
  | [], _, _, _, _ => rfl
  | ⟨lo, hi, t⟩ :: r, a, b, h, hr => by
    obtain ⟨q1, q2, q3, q4⟩ := rightFrom_cons hr
    dsimp only at q1 q2 q3 q4
    rw [rf_cons, decide_eq_false (by omega), decide_eq_false (by omega), decide_eq_false (by omega), q4]; rfl
theorem placesOf_cons (old name : ByteArray) (t : Tk) (l : List Tk) : placesOf old name (t :: l) = if t.text.toList = old.toList then ⟨(t.pos : Int), (t.pos : Int) + old.size, name⟩ :: placesOf old name l else placesOf old name l := by
  by_cases h : t.text.toList = old.toList <;> simp [placesOf, h]
theorem toks_note {s : ByteArray} {a : Nat} (ha : a < s.size) (h3 : cls (bt s a) = 3) : toksOf (piecesFrom s a) = toksOf (piecesFrom s (pieceEnd s a)) := by
  rw [pieces_piece ha (by rw [h3]; decide)]; unfold toksOf; rw [List.filter_cons_of_neg (by simpa using (kind5 ha).2 h3)]
theorem size_of_text {x y : ByteArray} (h : x.toList = y.toList) : x.size = y.size := by rw [str_eq.1 h]
def NoErr (s : ByteArray) (a : Nat) : Prop := ∀ p ∈ piecesFrom s a, p.tk.kind ≠ 5 → p.err = 0
theorem NoErr.blank {s : ByteArray} {a : Nat} (h : NoErr s a) (ha : a < s.size) (h2 : cls (bt s a) = 2) : NoErr s (a + 1) := by unfold NoErr at h ⊢; rw [pieces_blank ha h2] at h; exact h
theorem NoErr.next {s : ByteArray} {a : Nat} (h : NoErr s a) (ha : a < s.size) (h2 : cls (bt s a) ≠ 2) : NoErr s (pieceEnd s a) := by unfold NoErr at h ⊢; rw [pieces_piece ha h2] at h; exact fun p hp => h p (List.mem_cons_of_mem _ hp)
theorem NoErr.here {s : ByteArray} {a : Nat} (h : NoErr s a) (ha : a < s.size) (h2 : cls (bt s a) ≠ 2) (h3 : cls (bt s a) ≠ 3) : (piece s a).err = 0 := by
  unfold NoErr at h
  rw [pieces_piece ha h2] at h
  exact h _ List.mem_cons_self (fun e => h3 ((kind5 ha).1 e))
theorem NoErr.of_blank {s : ByteArray} {a : Nat} (h : NoErr s (a + 1)) (ha : a < s.size) (h2 : cls (bt s a) = 2) : NoErr s a := by unfold NoErr at h ⊢; rw [pieces_blank ha h2]; exact h
theorem NoErr.of_piece {s : ByteArray} {a : Nat} (h : NoErr s (pieceEnd s a)) (ha : a < s.size) (h2 : cls (bt s a) ≠ 2) (he : (piece s a).tk.kind ≠ 5 → (piece s a).err = 0) : NoErr s a := by
  unfold NoErr at h ⊢
  rw [pieces_piece ha h2]
  intro p hp
  rcases List.mem_cons.1 hp with rfl | hp
  · exact he
  · exact h p hp

theorem toks_lt' (s : ByteArray) : ∀ (f a : Nat), s.size - a ≤ f → ∀ x ∈ toksOf (piecesFrom s a), x.pos < s.size := by
  intro f
  induction f with
  | zero => intro a hf x hx; rw [pieces_end (by omega)] at hx; simp [toksOf] at hx
  | succ f ih =>
    intro a hf x hx
    by_cases ha : a < s.size
    · by_cases h2 : cls (bt s a) = 2
      · rw [pieces_blank ha h2] at hx
        exact ih (a + 1) (by omega) x hx
      · have hlt := lt_pieceEnd ha
        by_cases h3 : cls (bt s a) = 3
        · rw [toks_note ha h3] at hx
          exact ih (pieceEnd s a) (by omega) x hx
        · rw [toks_cons ha h2 h3] at hx
          rcases List.mem_cons.1 hx with rfl | hx
          · exact ha
          · exact ih (pieceEnd s a) (by omega) x hx
    · rw [pieces_end (by omega)] at hx; simp [toksOf] at hx
/-- Places of names are right, and lie behind. -/
theorem places_right (s old name : ByteArray) : ∀ (f a : Nat), s.size - a ≤ f → NoErr s a → rightFrom s.size a (placesOf old name (toksOf (piecesFrom s a))) = true ∧ (∀ x ∈ placesOf old name (toksOf (piecesFrom s a)), (a : Int) ≤ x.lo) := by
  intro f
  induction f with
  | zero => intro a hf _; rw [pieces_end (by omega)]; exact ⟨rfl, fun x hx => by simp [toksOf, placesOf] at hx⟩
  | succ f ih =>
    intro a hf he
    by_cases ha : a < s.size
    · by_cases h2 : cls (bt s a) = 2
      · rw [pieces_blank ha h2]
        obtain ⟨i1, i2⟩ := ih (a + 1) (by omega) (he.blank ha h2)
        exact ⟨rightFrom_mono (by omega) i1, fun x hx => by have := i2 x hx; omega⟩
      · have hlt := lt_pieceEnd ha
        have hle := pieceEnd_le ha
        obtain ⟨i1, i2⟩ := ih (pieceEnd s a) (by omega) (he.next ha h2)
        by_cases h3 : cls (bt s a) = 3
        · rw [toks_note ha h3]
          exact ⟨rightFrom_mono (by omega) i1, fun x hx => by have := i2 x hx; omega⟩
        · obtain ⟨gx, tx, px⟩ := tok_good ha h3 (he.here ha h2 h3)
          have hsz : (piece s a).tk.text.size = pieceEnd s a - a := by rw [tx]; simp; omega
          rw [toks_cons ha h2 h3, placesOf_cons]
          split
          · rename_i ho
            have hz := size_of_text ho
            rw [px]
            refine ⟨?_, fun x hx => ?_⟩
            · rw [rf_cons, decide_eq_false (by omega), decide_eq_false (by omega), decide_eq_false (by omega), show (a : Int) + (old.size : Int) = (pieceEnd s a : Nat) by omega, i1]; rfl
            · rcases List.mem_cons.1 hx with rfl | hx
              · exact Int.le_refl _
              · have := i2 x hx; omega
          · exact ⟨rightFrom_mono (by omega) i1, fun x hx => by have := i2 x hx; omega⟩
    · rw [pieces_end (by omega)]; exact ⟨rfl, fun x hx => by simp [toksOf, placesOf] at hx⟩

/-- What is not touched is as it was. -/
theorem edited_skip (s : ByteArray) : ∀ (l : List Sp) (a e : Nat) (g : Int), a ≤ e → (∀ x ∈ l, (e : Int) ≤ x.lo) → editedFrom s a (edsFrom s g l) = (s.data.toList.drop a).take (e - a) ++ editedFrom s e (edsFrom s g l) := by
  intro l a e g hae h
  cases l with
  | nil =>
    rw [ed_nil, edt_nil, edt_nil]
    have : s.data.toList.drop e = (s.data.toList.drop a).drop (e - a) := by rw [List.drop_drop, show a + (e - a) = e by omega]
    rw [this, List.take_append_drop]
  | cons x r =>
    have hx := h x List.mem_cons_self
    rw [ed_cons, edt_cons, edt_cons]
    have e1 : (s.data.toList.drop a).take (x.lo.toNat - a) = (s.data.toList.drop a).take (e - a) ++ (s.data.toList.drop e).take (x.lo.toNat - e) := by
      have e2 : s.data.toList.drop e = (s.data.toList.drop a).drop (e - a) := by rw [List.drop_drop, show a + (e - a) = e by omega]
      rw [e2, ← List.take_add, show e - a + (x.lo.toNat - e) = x.lo.toNat - a by omega]
    rw [e1]
    simp only [List.append_assoc]

/-- The next byte of the text after. -/
theorem next_byte {s old name : ByteArray} (ho : Good ⟨1, old, 0⟩) (hn : Good ⟨1, name, 0⟩) {e : Nat} (g : Int) (he : NoErr s e) (hes : e ≤ s.size) :
    (e = s.size ∧ editedFrom s e (edsFrom s g (placesOf old name (toksOf (piecesFrom s e)))) = []) ∨
    (e < s.size ∧ ((editedFrom s e (edsFrom s g (placesOf old name (toksOf (piecesFrom s e))))).getD 0 0).toNat = bt s e) ∨
    (e < s.size ∧ cls (bt s e) = 4 ∧ cls ((editedFrom s e (edsFrom s g (placesOf old name (toksOf (piecesFrom s e))))).getD 0 0).toNat = 4) := by
  have hcn : cls (bt name 0) = 4 := by
    have h1 : kindOf name = (1, 0) := hn.kind_
    have h7 : cls (bt name 0) ≠ 7 := fun h => by have := hn.sign_.2 h; exact absurd (show (1 : Nat) = 4 from this) (by decide)
    rcases hn.cls_ with h | h | h
    · exact h
    · exfalso
      unfold kindOf at h1
      rw [if_neg (by have : cls (bt name 0) = 6 := h; omega), if_neg (by have : cls (bt name 0) = 6 := h; omega), if_pos h] at h1
      injection h1 with h1 h2; exact absurd h1 (by decide)
    · exact absurd h h7
  by_cases hlt : e < s.size
  · by_cases hall : ∀ x ∈ placesOf old name (toksOf (piecesFrom s e)), ((e + 1 : Nat) : Int) ≤ x.lo
    · refine .inr (.inl ⟨hlt, ?_⟩)
      rw [edited_skip s _ e (e + 1) g (by omega) hall]
      have hl : s.data.toList.drop e = s.data.toList[e]'(by rw [len_list]; exact hlt) :: s.data.toList.drop (e + 1) := List.drop_eq_getElem_cons (by rw [len_list]; exact hlt)
      rw [hl, show e + 1 - e = 1 by omega]
      have hc : bt s e = (s.data.toList[e]'(by rw [len_list]; exact hlt)).toNat := by
        unfold bt
        rw [List.getD_eq_getElem?_getD, List.getElem?_eq_getElem (by rw [len_list]; exact hlt)]; rfl
      rw [hc]; rfl
    · refine .inr (.inr ⟨hlt, ?_⟩)
      have hlo := (places_right s old name _ e (Nat.le_refl _) he).2
      have h2 : cls (bt s e) ≠ 2 := fun h2 => hall (fun x hx => by
        rw [pieces_blank hlt h2] at hx
        have := (places_right s old name _ (e + 1) (Nat.le_refl _) (he.blank hlt h2)).2 x hx; omega)
      have hlt2 := lt_pieceEnd hlt
      have h3 : cls (bt s e) ≠ 3 := fun h3 => hall (fun x hx => by
        rw [toks_note hlt h3] at hx
        have := (places_right s old name _ _ (Nat.le_refl _) (he.next hlt h2)).2 x hx; omega)
      obtain ⟨gx, tx, px⟩ := tok_good hlt h3 (he.here hlt h2 h3)
      rw [toks_cons hlt h2 h3, placesOf_cons] at hall ⊢
      by_cases ho2 : (piece s e).tk.text.toList = old.toList
      · rw [if_pos ho2] at hall ⊢
        have htx : (piece s e).tk.text = old := str_eq.1 ho2
        have hb0 : bt s e = bt old 0 := by rw [← htx, tx, bt_extract (by omega)]; rfl
        have hco : cls (bt old 0) = 4 := by
          have h1 : kindOf old = (1, 0) := ho.kind_
          have h7 : cls (bt old 0) ≠ 7 := fun h => absurd (show (1 : Nat) = 4 from ho.sign_.2 h) (by decide)
          rcases ho.cls_ with h | h | h
          · exact h
          · exfalso
            unfold kindOf at h1
            rw [if_neg (by have : cls (bt old 0) = 6 := h; omega), if_neg (by have : cls (bt old 0) = 6 := h; omega), if_pos h] at h1
            injection h1 with h1 h2; exact absurd h1 (by decide)
          · exact absurd h h7
        refine ⟨by rw [hb0]; exact hco, ?_⟩
        rw [ed_cons, edt_cons, px, Int.toNat_natCast, Nat.sub_self, List.take_zero, List.nil_append]
        have hp : 0 < name.data.toList.length := by rw [len_list]; exact hn.pos_
        rw [List.getD_eq_getElem?_getD, List.getElem?_append_left hp]
        unfold bt at hcn
        rw [List.getD_eq_getElem?_getD] at hcn
        exact hcn
      · exfalso
        rw [if_neg ho2] at hall
        exact hall (fun x hx => by have := (places_right s old name _ _ (Nat.le_refl _) (he.next hlt h2)).2 x hx; omega)
  · refine .inl ⟨by omega, ?_⟩
    rw [pieces_end (by omega)]
    show editedFrom s e [] = []
    rw [edt_nil, List.drop_of_length_le (by rw [len_list]; omega)]

/-- Tokens of which the names old are another one. -/
def RenT (old name : ByteArray) : List Tk → List Tk → Prop
  | [], [] => True
  | x :: r, y :: q => x.kind = y.kind ∧ y.text = (if x.text.toList = old.toList then name else x.text) ∧ (x.text.toList = old.toList → x.kind = 1) ∧ RenT old name r q
  | _, _ => False

set_option maxHeartbeats 4000000 in
theorem ren_lex {s t old name : ByteArray} (ho : Good ⟨1, old, 0⟩) (hn : Good ⟨1, name, 0⟩) : ∀ (f a A : Nat) (g : Int), s.size - a ≤ f → a ≤ s.size → (A : Int) = a + g → NoErr s a →
    t.data.toList.drop A = editedFrom s a (edsFrom s g (placesOf old name (toksOf (piecesFrom s a)))) →
    NoErr t A ∧ RenT old name (toksOf (piecesFrom s a)) (toksOf (piecesFrom t A)) ∧
    ((∀ x ∈ toksOf (piecesFrom s a), x.text.toList ≠ name.toList) → placesOf name old (toksOf (piecesFrom t A)) = (edsFrom s g (placesOf old name (toksOf (piecesFrom s a)))).map backOf) := by
  intro f
  induction f with
  | zero =>
    intro a A g hf has hg he h
    rw [pieces_end (show s.size ≤ a by omega)] at h ⊢
    have h' : t.data.toList.drop A = s.data.toList.drop a := h
    have hlen := congrArg List.length h'
    rw [List.length_drop, List.length_drop, len_list, len_list] at hlen
    have hp := pieces_end (show t.size ≤ A by omega)
    refine ⟨fun p hp' => (by rw [hp] at hp'; cases hp'), by rw [hp]; exact trivial, fun _ => by rw [hp]; rfl⟩
  | succ f ih =>
    intro a A g hf has hg he h
    by_cases ha : a < s.size
    · by_cases h2 : cls (bt s a) = 2
      · rw [pieces_blank ha h2] at h ⊢
        have hall := (places_right s old name _ (a + 1) (Nat.le_refl _) (he.blank ha h2)).2
        rw [edited_skip s _ a (a + 1) g (by omega) hall] at h
        have hl : (s.data.toList.drop a).take (a + 1 - a) = [s.data.toList[a]'(by rw [len_list]; exact ha)] := by
          rw [List.drop_eq_getElem_cons (by rw [len_list]; exact ha), show a + 1 - a = 1 by omega]; rfl
        rw [hl] at h
        have hlen := drop_len h
        rw [len_list t] at hlen
        simp only [List.length_append, List.length_cons, List.length_nil] at hlen
        have hAt : A < t.size := by omega
        have e0 : bt t A = bt s a := by
          have hc : bt s a = (s.data.toList[a]'(by rw [len_list]; exact ha)).toNat := by
            unfold bt
            rw [List.getD_eq_getElem?_getD, List.getElem?_eq_getElem (by rw [len_list]; exact ha)]; rfl
          rw [hc]
          generalize s.data.toList[a]'(by rw [len_list]; exact ha) = c at h
          have := congrArg (fun l : List UInt8 => l[0]?) h
          simp only [List.getElem?_drop, Nat.add_zero] at this
          unfold bt
          rw [List.getD_eq_getElem?_getD, this]
          rfl
        obtain ⟨i1, i2, i3⟩ := ih (a + 1) (A + 1) g (by omega) (by omega) (by omega) (he.blank ha h2) (by rw [← List.drop_drop, h]; rfl)
        have h2' : cls (bt t A) = 2 := by rw [e0]; exact h2
        refine ⟨i1.of_blank hAt h2', ?_, ?_⟩
        · rw [pieces_blank hAt h2']; exact i2
        · rw [pieces_blank hAt h2']; exact i3
      · have hlt := lt_pieceEnd ha
        have hle := pieceEnd_le ha
        have hnx := he.next ha h2
        have hall := (places_right s old name _ (pieceEnd s a) (Nat.le_refl _) hnx).2
        have nb := next_byte ho hn g hnx hle
        have hu : (s.data.toList.drop a).take (pieceEnd s a - a) = (s.extract a (pieceEnd s a)).data.toList := by rw [extract_list]
        have husz : (s.extract a (pieceEnd s a)).size = pieceEnd s a - a := by simp; omega
        have hub : ∀ j, j < pieceEnd s a - a → bt (s.extract a (pieceEnd s a)) j = bt s (a + j) := fun j hj => bt_extract hj
        by_cases h3 : cls (bt s a) = 3
        · rw [toks_note ha h3] at h ⊢
          rw [edited_skip s _ a (pieceEnd s a) g (by omega) hall, hu] at h
          obtain ⟨g1, g2⟩ := bt_drop h
          have hlen := drop_len h
          rw [List.length_append, len_list, len_list, husz] at hlen
          rw [husz] at g1 g2
          have e0 : bt t A = bt s a := by have := g1 0 (by omega); rw [hub 0 (by omega)] at this; simpa using this
          have hAt : A < t.size := by omega
          have h3' : cls (bt t A) = 3 := by rw [e0]; exact h3
          have hpeS : pieceEnd s a = runEnd notFeed s a := by unfold pieceEnd; rw [if_pos h3]
          have hpe : pieceEnd t A = A + (pieceEnd s a - a) := by
            unfold pieceEnd
            rw [if_pos h3']
            show runEnd notFeed t A = A + (pieceEnd s a - a)
            refine runEnd_eq (by omega) ?_ _ A rfl (by omega) (fun j j1 j2 => ?_)
            · have hst : s.size ≤ runEnd notFeed s a ∨ notFeed (bt s (runEnd notFeed s a)) = false := runTo_end notFeed s (s.size - a) a (Nat.le_refl _)
              rw [← hpeS] at hst
              rcases nb with ⟨n1, n2⟩ | ⟨n1, n2⟩ | ⟨n1, n2, n3⟩
              · rw [n2] at hlen; simp at hlen; exact .inl (by omega)
              · refine .inr ?_
                have := g2 0
                rw [Nat.add_zero, n2] at this
                rw [this]
                rcases hst with hst | hst
                · omega
                · exact hst
              · exfalso
                rcases hst with hst | hst
                · omega
                · have : bt s (pieceEnd s a) = 10 := by simpa [notFeed] using hst
                  rw [this] at n2; exact absurd n2 (by decide)
            · have := g1 (j - A) (by omega)
              rw [hub (j - A) (by omega), show A + (j - A) = j by omega] at this
              rw [this]
              exact runEnd_inside (a := a) (by omega) (by omega)
          obtain ⟨i1, i2, i3⟩ := ih (pieceEnd s a) (pieceEnd t A) g (by omega) hle (by omega) hnx (by
            rw [hpe, ← List.drop_drop, h, List.drop_append, List.drop_of_length_le (by rw [len_list, husz]; omega), List.nil_append, len_list, husz, Nat.sub_self, List.drop_zero])
          refine ⟨i1.of_piece hAt (by rw [h3']; decide) (fun e => absurd ((kind5 hAt).2 h3') e), ?_, ?_⟩
          · rw [toks_note hAt h3']; exact i2
          · rw [toks_note hAt h3']; exact i3
        · have hpe := he.here ha h2 h3
          obtain ⟨gx, tx, px⟩ := tok_good ha h3 hpe
          have hx := Good.of gx
          have hxsz : (piece s a).tk.text.size = pieceEnd s a - a := by rw [tx]; exact husz
          have hx0 : bt (piece s a).tk.text 0 = bt s a := by rw [tx, hub 0 (by omega)]; rfl
          have stop : cls (bt s a) ≠ 7 → pieceEnd s a < s.size → aln (bt s (pieceEnd s a)) = false := by
            intro h7 hb
            have hpeS : pieceEnd s a = runEnd aln s a := by unfold pieceEnd; rw [if_neg h3, if_pos (by have := hx.cls_; rw [hx0] at this; omega)]
            have hst : s.size ≤ runEnd aln s a ∨ aln (bt s (runEnd aln s a)) = false := runTo_end aln s (s.size - a) a (Nat.le_refl _)
            rw [← hpeS] at hst
            rcases hst with hst | hst
            · omega
            · exact hst
          have word : cls (bt s a) ≠ 7 → ∀ g' : Int, aln ((editedFrom s (pieceEnd s a) (edsFrom s g' (placesOf old name (toksOf (piecesFrom s (pieceEnd s a)))))).getD 0 0).toNat = false := by
            intro h7 g'
            rcases next_byte ho hn g' hnx hle with ⟨n1, n2⟩ | ⟨n1, n2⟩ | ⟨n1, n2, n3⟩
            · rw [n2]; rfl
            · rw [n2]; exact stop h7 n1
            · have := stop h7 n1
              unfold aln at this
              rw [n2] at this; exact absurd this (by decide)
          rw [toks_cons ha h2 h3, placesOf_cons] at h ⊢
          by_cases hold : (piece s a).tk.text.toList = old.toList
          · have htx : (piece s a).tk.text = old := str_eq.1 hold
            rw [if_pos hold, ed_cons, edt_cons, px, Int.toNat_natCast, Nat.sub_self, List.take_zero, List.nil_append] at h
            have hosz : old.size = pieceEnd s a - a := by rw [← htx]; exact hxsz
            have hhi : ((a : Int) + (old.size : Int)).toNat = pieceEnd s a := by omega
            dsimp only at h
            rw [hhi] at h
            have h7 : cls (bt s a) ≠ 7 := by
              rw [← hx0, htx]
              intro e
              have : (1 : Nat) = 4 := ho.sign_.2 e
              exact absurd this (by decide)
            have hn7 : cls (bt name 0) ≠ 7 := fun e => absurd (show (1 : Nat) = 4 from hn.sign_.2 e) (by decide)
            obtain ⟨p1, p2, p3, p4⟩ := piece_is (x := ⟨1, name, 0⟩) hn h (fun _ => word h7 _) (fun e => absurd e hn7)
            dsimp only at p1 p2 p3 p4
            have hnp := hn.pos_
            dsimp only at hnp
            have hAt : A < t.size := by omega
            have hcA : cls (bt t A) ≠ 2 ∧ cls (bt t A) ≠ 3 := by rw [p4]; have : cls (bt name 0) = 4 ∨ cls (bt name 0) = 6 ∨ cls (bt name 0) = 7 := hn.cls_; omega
            obtain ⟨i1, i2, i3⟩ := ih (pieceEnd s a) (A + name.size) (g + ((name.size : Int) - ((s.extract a (pieceEnd s a)).size : Int))) (by omega) hle (by rw [husz]; omega) hnx (by
              rw [← List.drop_drop, h, List.drop_append, List.drop_of_length_le (by rw [len_list]; omega), List.nil_append, len_list, Nat.sub_self, List.drop_zero])
            have hk1 : (piece s a).tk.kind = 1 := by
              have e1 := hx.kind_
              rw [htx] at e1
              have e2 : kindOf old = (1, 0) := ho.kind_
              rw [e2] at e1
              injection e1 with e1 _; exact e1.symm
            refine ⟨NoErr.of_piece (by rw [p2]; exact i1) hAt hcA.1 (fun _ => by rw [p3]), ?_, fun hno => ?_⟩
            · rw [toks_cons hAt hcA.1 hcA.2, p3, p2]
              exact ⟨hk1, by rw [if_pos hold], fun _ => hk1, i2⟩
            · rw [toks_cons hAt hcA.1 hcA.2, p3, p2, placesOf_cons, if_pos hold, ed_cons, List.map_cons, back_mk, px]
              dsimp only
              rw [if_pos rfl, Int.toNat_natCast, hhi, i3 (fun x hx => hno x (List.mem_cons_of_mem _ hx)), ← tx, htx, show (a : Int) + g = (A : Int) by omega]
          · rw [if_neg hold] at h ⊢
            rw [edited_skip s _ a (pieceEnd s a) g (by omega) hall, hu, ← tx] at h
            have sign1 : cls (bt (piece s a).tk.text 0) = 7 → (piece s a).tk.text.size = 1 → two t A = false := by
              intro h7 h1
              rw [hx0] at h7
              obtain ⟨g1, g2⟩ := bt_drop h
              have e0 : bt t A = bt s a := by have := g1 0 (by omega); rw [hx0] at this; simpa using this
              have hpe1 : pieceEnd s a = a + 1 := by omega
              have hts : two s a = false := by
                cases hts : two s a with
                | false => rfl
                | true =>
                  exfalso
                  unfold pieceEnd at hpe1
                  rw [if_neg h3, if_neg (by omega), if_pos ⟨h7, hts⟩] at hpe1; omega
              have e1 := g2 0
              rw [h1, Nat.add_zero] at e1
              rcases nb with ⟨n1, n2⟩ | ⟨n1, n2⟩ | ⟨n1, n2, n3⟩
              · rw [n2] at e1
                have e2 : bt t (A + 1) = 0 := e1
                simp [two, e2]
              · rw [n2, hpe1] at e1
                unfold two at hts ⊢
                rw [e0, e1]; exact hts
              · rw [← e1] at n3
                cases htt : two t A with
                | false => rfl
                | true =>
                  exfalso
                  simp only [two, Bool.or_eq_true, Bool.and_eq_true, beq_iff_eq] at htt
                  rcases htt with ⟨_, e⟩ | ⟨_, e⟩ <;> (rw [e] at n3; exact absurd n3 (by decide))
            obtain ⟨p1, p2, p3, p4⟩ := piece_is hx h (fun h7 => word (by rw [← hx0]; exact h7) g) sign1
            rw [hxsz] at p1 p2
            have hAt : A < t.size := by omega
            have hcA : cls (bt t A) ≠ 2 ∧ cls (bt t A) ≠ 3 := by rw [p4]; have := hx.cls_; omega
            obtain ⟨i1, i2, i3⟩ := ih (pieceEnd s a) (A + (pieceEnd s a - a)) g (by omega) hle (by omega) hnx (by
              rw [← List.drop_drop, h, List.drop_append, List.drop_of_length_le (by rw [len_list]; omega), List.nil_append, len_list, hxsz, Nat.sub_self, List.drop_zero])
            refine ⟨NoErr.of_piece (by rw [p2]; exact i1) hAt hcA.1 (fun _ => by rw [p3]), ?_, fun hno => ?_⟩
            · rw [toks_cons hAt hcA.1 hcA.2, p3, p2]
              exact ⟨rfl, by rw [if_neg hold], fun e => absurd e hold, i2⟩
            · rw [toks_cons hAt hcA.1 hcA.2, p3, p2, placesOf_cons]
              dsimp only
              rw [if_neg (hno _ List.mem_cons_self)]
              exact i3 (fun x hx => hno x (List.mem_cons_of_mem _ hx))
    · rw [pieces_end (show s.size ≤ a by omega)] at h ⊢
      have h' : t.data.toList.drop A = s.data.toList.drop a := h
      have hlen := congrArg List.length h'
      rw [List.length_drop, List.length_drop, len_list, len_list] at hlen
      have hp := pieces_end (show t.size ≤ A by omega)
      refine ⟨fun p hp' => (by rw [hp] at hp'; cases hp'), by rw [hp]; exact trivial, fun _ => by rw [hp]; rfl⟩

end Go.Proofs.YthjnoboceibjjaaGreatDoor.Lx
