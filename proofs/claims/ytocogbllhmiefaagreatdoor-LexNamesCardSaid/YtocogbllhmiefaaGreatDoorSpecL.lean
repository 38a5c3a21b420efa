/- Names that become other ones: the tokens of the text after, and back: plain lists. -/
import Derived.Test.YtocogbllhmiefaaGreatDoorSpecI
import Derived.Test.YtocogbllhmiefaaGreatDoorSpecE
import Derived.Test.YtocogbllhmiefaaGreatDoorWalkQ
namespace Go.Proofs.YtocogbllhmiefaaGreatDoor.Lx
open Go Go.Proofs Go.RowKit Go.Shelf

theorem rightFrom_mono {n : Nat} : ∀ {l : List Sp} {a b : Int}, a ≤ b → rightFrom n b l = true → rightFrom n a l = true
  | [], _, _, _, _ => rfl
  | ⟨lo, hi, t⟩ :: r, a, b, h, hr => by
    obtain ⟨q1, q2, q3, q4⟩ := rightFrom_cons hr
    dsimp only at q1 q2 q3 q4
    rw [rf_cons, decide_eq_false (by omega), decide_eq_false (by omega), decide_eq_false (by omega), q4]; rfl
theorem placesOf_cons (old name : ByteArray) (t : Tk) (l : List Tk) : placesOf old name (t :: l) = if t.text.toList = old.toList then ⟨(t.pos : Int), (t.pos : Int) + old.size, name⟩ :: placesOf old name l else placesOf old name l := by
  by_cases h : t.text.toList = old.toList <;> simp [placesOf, h]
theorem toks_note {s : ByteArray} {a : Nat} (ha : a < s.size) (h3 : cls (bt s a) = 3) : toksOf (piecesFrom s a) = toksOf (piecesFrom s (pieceEnd s a)) := by
  rw [pieces_piece ha (by rw [h3]; decide)]; unfold toksOf; rw [List.filter_cons_of_neg (by simpa using (kind5 ha).2 h3)]
theorem size_of_text {x y : ByteArray} (h : x.toList = y.toList) : x.size = y.size := by rw [str_eq.1 h]
def NoErr (s : ByteArray) (a : Nat) : Prop := ∀ p ∈ piecesFrom s a, p.tk.kind ≠ 5 → p.err = 0
theorem NoErr.blank {s : ByteArray} {a : Nat} (h : NoErr s a) (ha : a < s.size) (h2 : cls (bt s a) = 2) : NoErr s (a + 1) := by unfold NoErr at h ⊢; rw [pieces_blank ha h2] at h; exact h
theorem NoErr.next {s : ByteArray} {a : Nat} (h : NoErr s a) (ha : a < s.size) (h2 : cls (bt s a) ≠ 2) : NoErr s (pieceEnd s a) := by unfold NoErr at h ⊢; rw [pieces_piece ha h2] at h; exact fun p hp => h p (List.mem_cons_of_mem _ hp)
theorem NoErr.here {s : ByteArray} {a : Nat} (h : NoErr s a) (ha : a < s.size) (h2 : cls (bt s a) ≠ 2) (h3 : cls (bt s a) ≠ 3) : (piece s a).err = 0 := by
  unfold NoErr at h
  rw [pieces_piece ha h2] at h
  exact h _ List.mem_cons_self (fun e => h3 ((kind5 ha).1 e))
theorem NoErr.of_blank {s : ByteArray} {a : Nat} (h : NoErr s (a + 1)) (ha : a < s.size) (h2 : cls (bt s a) = 2) : NoErr s a := by unfold NoErr at h ⊢; rw [pieces_blank ha h2]; exact h
theorem NoErr.of_piece {s : ByteArray} {a : Nat} (h : NoErr s (pieceEnd s a)) (ha : a < s.size) (h2 : cls (bt s a) ≠ 2) (he : (piece s a).tk.kind ≠ 5 → (piece s a).err = 0) : NoErr s a := by
  unfold NoErr at h ⊢
  rw [pieces_piece ha h2]
  intro p hp
  rcases List.mem_cons.1 hp with rfl | hp
  · exact he
  · exact h p hp

theorem toks_lt' (s : ByteArray) : ∀ (f a : Nat), s.size - a ≤ f → ∀ x ∈ toksOf (piecesFrom s a), x.pos < s.size := by
  intro f
  induction f with
  | zero => intro a hf x hx; rw [pieces_end (by omega)] at hx; simp [toksOf] at hx
  | succ f ih =>
    intro a hf x hx
    by_cases ha : a < s.size
    · by_cases h2 : cls (bt s a) = 2
      · rw [pieces_blank ha h2] at hx
        exact ih (a + 1) (by omega) x hx
      · have hlt := lt_pieceEnd ha
        by_cases h3 : cls (bt s a) = 3
        · rw [toks_note ha h3] at hx
          exact ih (pieceEnd s a) (by omega) x hx
        · rw [toks_cons ha h2 h3] at hx
          rcases List.mem_cons.1 hx with rfl | hx
          · exact ha
          · exact ih (pieceEnd s a) (by omega) x hx
    · rw [pieces_end (by omega)] at hx; simp [toksOf] at hx
/-- Places of names are right, and lie behind. -/
theorem places_right (s old name : ByteArray) : ∀ (f a : Nat), s.size - a ≤ f → NoErr s a → rightFrom s.size a (placesOf old name (toksOf (piecesFrom s a))) = true ∧ (∀ x ∈ placesOf old name (toksOf (piecesFrom s a)), (a : Int) ≤ x.lo) := by
  intro f
  induction f with
  | zero => intro a hf _; rw [pieces_end (by omega)]; exact ⟨rfl, fun x hx => by simp [toksOf, placesOf] at hx⟩
  | succ f ih =>
    intro a hf he
    by_cases ha : a < s.size
    · by_cases h2 : cls (bt s a) = 2
      · rw [pieces_blank ha h2]
        obtain ⟨i1, i2⟩ := ih (a + 1) (by omega) (he.blank ha h2)
        exact ⟨rightFrom_mono (by omega) i1, fun x hx => by have := i2 x hx; omega⟩
      · have hlt := lt_pieceEnd ha
        have hle := pieceEnd_le ha
        obtain ⟨i1, i2⟩ := ih (pieceEnd s a) (by omega) (he.next ha h2)
        by_cases h3 : cls (bt s a) = 3
        · rw [toks_note ha h3]
          exact ⟨rightFrom_mono (by omega) i1, fun x hx => by have := i2 x hx; omega⟩
        · obtain ⟨gx, tx, px⟩ := tok_good ha h3 (he.here ha h2 h3)
          have hsz : (piece s a).tk.text.size = pieceEnd s a - a := by rw [tx]; simp; omega
          rw [toks_cons ha h2 h3, placesOf_cons]
          split
          · rename_i ho
            have hz := size_of_text ho
            rw [px]
            refine ⟨?_, fun x hx => ?_⟩
            · rw [rf_cons, decide_eq_false (by omega), decide_eq_false (by omega), decide_eq_false (by omega), show (a : Int) + (old.size : Int) = (pieceEnd s a : Nat) by omega, i1]; rfl
            · rcases List.mem_cons.1 hx with rfl | hx
              · exact Int.le_refl _
              · have := i2 x hx; omega
          · exact ⟨rightFrom_mono (by omega) i1, fun x hx => by have := i2 x hx; omega⟩
    · rw [pieces_end (by omega)]; exact ⟨rfl, fun x hx => by simp [toksOf, placesOf] at hx⟩

/-- What is not touched is as it was. -/
theorem edited_skip (s : ByteArray) : ∀ (l : List Sp) (a e : Nat) (g : Int), a ≤ e → (∀ x ∈ l, (e : Int) ≤ x.lo) → editedFrom s a (edsFrom s g l) = (s.data.toList.drop a).take (e - a) ++ editedFrom s e (edsFrom s g l) := by
  intro l a e g hae h
  cases l with
  | nil =>
    rw [ed_nil, edt_nil, edt_nil]
    have : s.data.toList.drop e = (s.data.toList.drop a).drop (e - a) := by rw [List.drop_drop, show a + (e - a) = e by omega]
    rw [this, List.take_append_drop]
  | cons x r =>
    have hx := h x List.mem_cons_self
    rw [ed_cons, edt_cons, edt_cons]
    have e1 : (s.data.toList.drop a).take (x.lo.toNat - a) = (s.data.toList.drop a).take (e - a) ++ (s.data.toList.drop e).take (x.lo.toNat - e) := by
      have e2 : s.data.toList.drop e = (s.data.toList.drop a).drop (e - a) := by rw [List.drop_drop, show a + (e - a) = e by omega]
      rw [e2, ← List.take_add, show e - a + (x.lo.toNat - e) = x.lo.toNat - a by omega]
    rw [e1]
    simp only [List.append_assoc]

/-- The next byte of the text after. -/
theorem next_byte {s old name : ByteArray} (ho : Good ⟨1, old, 0⟩) (hn : Good ⟨1, name, 0⟩) {e : Nat} (g : Int) (he : NoErr s e) (hes : e ≤ s.size) :
    (e = s.size ∧ editedFrom s e (edsFrom s g (placesOf old name (toksOf (piecesFrom s e)))) = []) ∨
    (e < s.size ∧ ((editedFrom s e (edsFrom s g (placesOf old name (toksOf (piecesFrom s e))))).getD 0 0).toNat = bt s e) ∨
    (e < s.size ∧ cls (bt s e) = 4 ∧ cls ((editedFrom s e (edsFrom s g (placesOf old name (toksOf (piecesFrom s e))))).getD 0 0).toNat = 4) := by
  have hcn : cls (bt name 0) = 4 := by
    have h1 : kindOf name = (1, 0) := hn.kind_
    have h7 : cls (bt name 0) ≠ 7 := fun h => by have := hn.sign_.2 h; exact absurd (show (1 : Nat) = 4 from this) (by decide)
    rcases hn.cls_ with h | h | h
    · exact h
    · exfalso
      unfold kindOf at h1
      rw [if_neg (by have : cls (bt name 0) = 6 := h; omega), if_neg (by have : cls (bt name 0) = 6 := h; omega), if_pos h] at h1
      injection h1 with h1 h2; exact absurd h1 (by decide)
    · exact absurd h h7
  by_cases hlt : e < s.size
  · by_cases hall : ∀ x ∈ placesOf old name (toksOf (piecesFrom s e)), ((e + 1 : Nat) : Int) ≤ x.lo
    · refine .inr (.inl ⟨hlt, ?_⟩)
      rw [edited_skip s _ e (e + 1) g (by omega) hall]
      have hl : s.data.toList.drop e = s.data.toList[e]'(by rw [len_list]; exact hlt) :: s.data.toList.drop (e + 1) := List.drop_eq_getElem_cons (by rw [len_list]; exact hlt)
      rw [hl, show e + 1 - e = 1 by omega]
      have hc : bt s e = (s.data.toList[e]'(by rw [len_list]; exact hlt)).toNat := by
        unfold bt
        rw [List.getD_eq_getElem?_getD, List.getElem?_eq_getElem (by rw [len_list]; exact hlt)]; rfl
      rw [hc]; rfl
    · refine .inr (.inr ⟨hlt, ?_⟩)
      have hlo := (places_right s old name _ e (Nat.le_refl _) he).2
      have h2 : cls (bt s e) ≠ 2 := fun h2 => hall (fun x hx => by
        rw [pieces_blank hlt h2] at hx
        have := (places_right s old name _ (e + 1) (Nat.le_refl _) (he.blank hlt h2)).2 x hx; omega)
      have hlt2 := lt_pieceEnd hlt
      have h3 : cls (bt s e) ≠ 3 := fun h3 => hall (fun x hx => by
        rw [toks_note hlt h3] at hx
        have := (places_right s old name _ _ (Nat.le_refl _) (he.next hlt h2)).2 x hx; omega)
      obtain ⟨gx, tx, px⟩ := tok_good hlt h3 (he.here hlt h2 h3)
      rw [toks_cons hlt h2 h3, placesOf_cons] at hall ⊢
      by_cases ho2 : (piece s e).tk.text.toList = old.toList
      · rw [if_pos ho2] at hall ⊢
        have htx : (piece s e).tk.text = old := str_eq.1 ho2
        have hb0 : bt s e = bt old 0 := by rw [← htx, tx, bt_extract (by omega)]; rfl
        have hco : cls (bt old 0) = 4 := by
          have h1 : kindOf old = (1, 0) := ho.kind_
          have h7 : cls (bt old 0) ≠ 7 := fun h => absurd (show (1 : Nat) = 4 from ho.sign_.2 h) (by decide)
          rcases ho.cls_ with h | h | h
          · exact h
          · exfalso
            unfold kindOf at h1
            rw [if_neg (by have : cls (bt old 0) = 6 := h; omega), if_neg (by have : cls (bt old 0) = 6 := h; omega), if_pos h] at h1
            injection h1 with h1 h2; exact absurd h1 (by decide)
          · exact absurd h h7
        refine ⟨by rw [hb0]; exact hco, ?_⟩
        rw [ed_cons, edt_cons, px, Int.toNat_natCast, Nat.sub_self, List.take_zero, List.nil_append]
        have hp : 0 < name.data.toList.length := by rw [len_list]; exact hn.pos_
        rw [List.getD_eq_getElem?_getD, List.getElem?_append_left hp]
        unfold bt at hcn
        rw [List.getD_eq_getElem?_getD] at hcn
        exact hcn
      · exfalso
        rw [if_neg ho2] at hall
        exact hall (fun x hx => by have := (places_right s old name _ _ (Nat.le_refl _) (he.next hlt h2)).2 x hx; omega)
  · refine .inl ⟨by omega, ?_⟩
    rw [pieces_end (by omega)]
    show editedFrom s e [] = []
    rw [edt_nil, List.drop_of_length_le (by rw [len_list]; omega)]

/-- Tokens of which the names old are another one. -/
def RenT (old name : ByteArray) : List Tk → List Tk → Prop
  | [], [] => True
  | x :: r, y :: q => x.kind = y.kind ∧ y.text = (if x.text.toList = old.toList then name else x.text) ∧ (x.text.toList = old.toList → x.kind = 1) ∧ RenT old name r q
  | _, _ => False

set_option maxHeartbeats 4000000 in
theorem ren_lex {s t old name : ByteArray} (ho : Good ⟨1, old, 0⟩) (hn : Good ⟨1, name, 0⟩) : ∀ (f a A : Nat) (g : Int), s.size - a ≤ f → a ≤ s.size → (A : Int) = a + g → NoErr s a →
    t.data.toList.drop A = editedFrom s a (edsFrom s g (placesOf old name (toksOf (piecesFrom s a)))) →
    NoErr t A ∧ RenT old name (toksOf (piecesFrom s a)) (toksOf (piecesFrom t A)) ∧
    ((∀ x ∈ toksOf (piecesFrom s a), x.text.toList ≠ name.toList) → placesOf name old (toksOf (piecesFrom t A)) = (edsFrom s g (placesOf old name (toksOf (piecesFrom s a)))).map backOf) := by
  intro f
  induction f with
  | zero =>
    intro a A g hf has hg he h
    rw [pieces_end (show s.size ≤ a by omega)] at h ⊢
    have h' : t.data.toList.drop A = s.data.toList.drop a := h
    have hlen := congrArg List.length h'
    rw [List.length_drop, List.length_drop, len_list, len_list] at hlen
    have hp := pieces_end (show t.size ≤ A by omega)
    refine ⟨fun p hp' => (by rw [hp] at hp'; cases hp'), by rw [hp]; exact trivial, fun _ => by rw [hp]; rfl⟩
  | succ f ih =>
    intro a A g hf has hg he h
    by_cases ha : a < s.size
    · by_cases h2 : cls (bt s a) = 2
      · rw [pieces_blank ha h2] at h ⊢
        have hall := (places_right s old name _ (a + 1) (Nat.le_refl _) (he.blank ha h2)).2
        rw [edited_skip s _ a (a + 1) g (by omega) hall] at h
        have hl : (s.data.toList.drop a).take (a + 1 - a) = [s.data.toList[a]'(by rw [len_list]; exact ha)] := by
          rw [List.drop_eq_getElem_cons (by rw [len_list]; exact ha), show a + 1 - a = 1 by omega]; rfl
        rw [hl] at h
        have hlen := drop_len h
        rw [len_list t] at hlen
        simp only [List.length_append, List.length_cons, List.length_nil] at hlen
        have hAt : A < t.size := by omega
        have e0 : bt t A = bt s a := by
          have hc : bt s a = (s.data.toList[a]'(by rw [len_list]; exact ha)).toNat := by
            unfold bt
            rw [List.getD_eq_getElem?_getD, List.getElem?_eq_getElem (by rw [len_list]; exact ha)]; rfl
          rw [hc]
          generalize s.data.toList[a]'(by rw [len_list]; exact ha) = c at h
          have := congrArg (fun l : List UInt8 => l[0]?) h
          simp only [List.getElem?_drop, Nat.add_zero] at this
          unfold bt
          rw [List.getD_eq_getElem?_getD, this]
          rfl
        obtain ⟨i1, i2, i3⟩ := ih (a + 1) (A + 1) g (by omega) (by omega) (by omega) (he.blank ha h2) (by rw [← List.drop_drop, h]; rfl)
        have h2' : cls (bt t A) = 2 := by rw [e0]; exact h2
        refine ⟨i1.of_blank hAt h2', ?_, ?_⟩
        · rw [pieces_blank hAt h2']; exact i2
        · rw [pieces_blank hAt h2']; exact i3
      · have hlt := lt_pieceEnd ha
        have hle := pieceEnd_le ha
        have hnx := he.next ha h2
        have hall := (places_right s old name _ (pieceEnd s a) (Nat.le_refl _) hnx).2
        have nb := next_byte ho hn g hnx hle
        have hu : (s.data.toList.drop a).take (pieceEnd s a - a) = (s.extract a (pieceEnd s a)).data.toList := by rw [extract_list]
        have husz : (s.extract a (pieceEnd s a)).size = pieceEnd s a - a := by simp; omega
        have hub : ∀ j, j < pieceEnd s a - a → bt (s.extract a (pieceEnd s a)) j = bt s (a + j) := fun j hj => bt_extract hj
        by_cases h3 : cls (bt s a) = 3
        · rw [toks_note ha h3] at h ⊢
          rw [edited_skip s _ a (pieceEnd s a) g (by omega) hall, hu] at h
          obtain ⟨g1, g2⟩ := bt_drop h
          have hlen := drop_len h
          rw [List.length_append, len_list, len_list, husz] at hlen
          rw [husz] at g1 g2
          have e0 : bt t A = bt s a := by have := g1 0 (by omega); rw [hub 0 (by omega)] at this; simpa using this
          have hAt : A < t.size := by omega
          have h3' : cls (bt t A) = 3 := by rw [e0]; exact h3
          have hpeS : pieceEnd s a = runEnd notFeed s a := by unfold pieceEnd; rw [if_pos h3]
          have hpe : pieceEnd t A = A + (pieceEnd s a - a) := by
            unfold pieceEnd
            rw [if_pos h3']
            show runEnd notFeed t A = A + (pieceEnd s a - a)
            refine runEnd_eq (by omega) ?_ _ A rfl (by omega) (fun j j1 j2 => ?_)
            · have hst : s.size ≤ runEnd notFeed s a ∨ notFeed (bt s (runEnd notFeed s a)) = false := runTo_end notFeed s (s.size - a) a (Nat.le_refl _)
              rw [← hpeS] at hst
              rcases nb with ⟨n1, n2⟩ | ⟨n1, n2⟩ | ⟨n1, n2, n3⟩
              · rw [n2] at hlen; simp at hlen; exact .inl (by omega)
              · refine .inr ?_
                have := g2 0
                rw [Nat.add_zero, n2] at this
                rw [this]
                rcases hst with hst | hst
                · omega
                · exact hst
              · exfalso
                rcases hst with hst | hst
                · omega
                · have : bt s (pieceEnd s a) = 10 := by simpa [notFeed] using hst
                  rw [this] at n2; exact absurd n2 (by decide)
            · have := g1 (j - A) (by omega)
              rw [hub (j - A) (by omega), show A + (j - A) = j by omega] at this
              rw [this]
              exact runEnd_inside (a := a) (by omega) (by omega)
          obtain ⟨i1, i2, i3⟩ := ih (pieceEnd s a) (pieceEnd t A) g (by omega) hle (by omega) hnx (by
            rw [hpe, ← List.drop_drop, h, List.drop_append, List.drop_of_length_le (by rw [len_list, husz]; omega), List.nil_append, len_list, husz, Nat.sub_self, List.drop_zero])
          refine ⟨i1.of_piece hAt (by rw [h3']; decide) (fun e => absurd ((kind5 hAt).2 h3') e), ?_, ?_⟩
          · rw [toks_note hAt h3']; exact i2
          · rw [toks_note hAt h3']; exact i3
        · have hpe := he.here ha h2 h3
          obtain ⟨gx, tx, px⟩ := tok_good ha h3 hpe
          have hx := Good.of gx
          have hxsz : (piece s a).tk.text.size = pieceEnd s a - a := by rw [tx]; exact husz
          have hx0 : bt (piece s a).tk.text 0 = bt s a := by rw [tx, hub 0 (by omega)]; rfl
          have stop : cls (bt s a) ≠ 7 → pieceEnd s a < s.size → aln (bt s (pieceEnd s a)) = false := by
            intro h7 hb
            have hpeS : pieceEnd s a = runEnd aln s a := by unfold pieceEnd; rw [if_neg h3, if_pos (by have := hx.cls_; rw [hx0] at this; omega)]
            have hst : s.size ≤ runEnd aln s a ∨ aln (bt s (runEnd aln s a)) = false := runTo_end aln s (s.size - a) a (Nat.le_refl _)
            rw [← hpeS] at hst
            rcases hst with hst | hst
            · omega
            · exact hst
          have word : cls (bt s a) ≠ 7 → ∀ g' : Int, aln ((editedFrom s (pieceEnd s a) (edsFrom s g' (placesOf old name (toksOf (piecesFrom s (pieceEnd s a)))))).getD 0 0).toNat = false := by
            intro h7 g'
            rcases next_byte ho hn g' hnx hle with ⟨n1, n2⟩ | ⟨n1, n2⟩ | ⟨n1, n2, n3⟩
            · rw [n2]; rfl
            · rw [n2]; exact stop h7 n1
            · have := stop h7 n1
              unfold aln at this
              rw [n2] at this; exact absurd this (by decide)
          rw [toks_cons ha h2 h3, placesOf_cons] at h ⊢
          by_cases hold : (piece s a).tk.text.toList = old.toList
          · have htx : (piece s a).tk.text = old := str_eq.1 hold
            rw [if_pos hold, ed_cons, edt_cons, px, Int.toNat_natCast, Nat.sub_self, List.take_zero, List.nil_append] at h
            have hosz : old.size = pieceEnd s a - a := by rw [← htx]; exact hxsz
            have hhi : ((a : Int) + (old.size : Int)).toNat = pieceEnd s a := by omega
            dsimp only at h
            rw [hhi] at h
            have h7 : cls (bt s a) ≠ 7 := by
              rw [← hx0, htx]
              intro e
              have : (1 : Nat) = 4 := ho.sign_.2 e
              exact absurd this (by decide)
            have hn7 : cls (bt name 0) ≠ 7 := fun e => absurd (show (1 : Nat) = 4 from hn.sign_.2 e) (by decide)
            obtain ⟨p1, p2, p3, p4⟩ := piece_is (x := ⟨1, name, 0⟩) hn h (fun _ => word h7 _) (fun e => absurd e hn7)
            dsimp only at p1 p2 p3 p4
            have hnp := hn.pos_
            dsimp only at hnp
            have hAt : A < t.size := by omega
            have hcA : cls (bt t A) ≠ 2 ∧ cls (bt t A) ≠ 3 := by rw [p4]; have : cls (bt name 0) = 4 ∨ cls (bt name 0) = 6 ∨ cls (bt name 0) = 7 := hn.cls_; omega
            obtain ⟨i1, i2, i3⟩ := ih (pieceEnd s a) (A + name.size) (g + ((name.size : Int) - ((s.extract a (pieceEnd s a)).size : Int))) (by omega) hle (by rw [husz]; omega) hnx (by
              rw [← List.drop_drop, h, List.drop_append, List.drop_of_length_le (by rw [len_list]; omega), List.nil_append, len_list, Nat.sub_self, List.drop_zero])
            have hk1 : (piece s a).tk.kind = 1 := by
              have e1 := hx.kind_
              rw [htx] at e1
              have e2 : kindOf old = (1, 0) := ho.kind_
              rw [e2] at e1
              injection e1 with e1 _; exact e1.symm
            refine ⟨NoErr.of_piece (by rw [p2]; exact i1) hAt hcA.1 (fun _ => by rw [p3]), ?_, fun hno => ?_⟩
            · rw [toks_cons hAt hcA.1 hcA.2, p3, p2]
              exact ⟨hk1, by rw [if_pos hold], fun _ => hk1, i2⟩
            · rw [toks_cons hAt hcA.1 hcA.2, p3, p2, placesOf_cons, if_pos hold, ed_cons, List.map_cons, back_mk, px]
              dsimp only
              rw [if_pos rfl, Int.toNat_natCast, hhi, i3 (fun x hx => hno x (List.mem_cons_of_mem _ hx)), ← tx, htx, show (a : Int) + g = (A : Int) by omega]
          · rw [if_neg hold] at h ⊢
            rw [edited_skip s _ a (pieceEnd s a) g (by omega) hall, hu, ← tx] at h
            have sign1 : cls (bt (piece s a).tk.text 0) = 7 → (piece s a).tk.text.size = 1 → two t A = false := by
              intro h7 h1
              rw [hx0] at h7
              obtain ⟨g1, g2⟩ := bt_drop h
              have e0 : bt t A = bt s a := by have := g1 0 (by omega); rw [hx0] at this; simpa using this
              have hpe1 : pieceEnd s a = a + 1 := by omega
              have hts : two s a = false := by
                cases hts : two s a with
                | false => rfl
                | true =>
                  exfalso
                  unfold pieceEnd at hpe1
                  rw [if_neg h3, if_neg (by omega), if_pos ⟨h7, hts⟩] at hpe1; omega
              have e1 := g2 0
              rw [h1, Nat.add_zero] at e1
              rcases nb with ⟨n1, n2⟩ | ⟨n1, n2⟩ | ⟨n1, n2, n3⟩
              · rw [n2] at e1
                have e2 : bt t (A + 1) = 0 := e1
                simp [two, e2]
              · rw [n2, hpe1] at e1
                unfold two at hts ⊢
                rw [e0, e1]; exact hts
              · rw [← e1] at n3
                cases htt : two t A with
                | false => rfl
                | true =>
                  exfalso
                  simp only [two, Bool.or_eq_true, Bool.and_eq_true, beq_iff_eq] at htt
                  rcases htt with ⟨_, e⟩ | ⟨_, e⟩ <;> (rw [e] at n3; exact absurd n3 (by decide))
            obtain ⟨p1, p2, p3, p4⟩ := piece_is hx h (fun h7 => word (by rw [← hx0]; exact h7) g) sign1
            rw [hxsz] at p1 p2
            have hAt : A < t.size := by omega
            have hcA : cls (bt t A) ≠ 2 ∧ cls (bt t A) ≠ 3 := by rw [p4]; have := hx.cls_; omega
            obtain ⟨i1, i2, i3⟩ := ih (pieceEnd s a) (A + (pieceEnd s a - a)) g (by omega) hle (by omega) hnx (by
              rw [← List.drop_drop, h, List.drop_append, List.drop_of_length_le (by rw [len_list]; omega), List.nil_append, len_list, hxsz, Nat.sub_self, List.drop_zero])
            refine ⟨NoErr.of_piece (by rw [p2]; exact i1) hAt hcA.1 (fun _ => by rw [p3]), ?_, fun hno => ?_⟩
            · rw [toks_cons hAt hcA.1 hcA.2, p3, p2]
              exact ⟨rfl, by rw [if_neg hold], fun e => absurd e hold, i2⟩
            · rw [toks_cons hAt hcA.1 hcA.2, p3, p2, placesOf_cons]
              dsimp only
              rw [if_neg (hno _ List.mem_cons_self)]
              exact i3 (fun x hx => hno x (List.mem_cons_of_mem _ hx))
    · rw [pieces_end (show s.size ≤ a by omega)] at h ⊢
      have h' : t.data.toList.drop A = s.data.toList.drop a := h
      have hlen := congrArg List.length h'
      rw [List.length_drop, List.length_drop, len_list, len_list] at hlen
      have hp := pieces_end (show t.size ≤ A by omega)
      refine ⟨fun p hp' => (by rw [hp] at hp'; cases hp'), by rw [hp]; exact trivial, fun _ => by rw [hp]; rfl⟩

end Go.Proofs.YtocogbllhmiefaaGreatDoor.Lx
