/- Splices that lead back, and where a byte goes: plain lists. -/
import Derived.Test.YtocogbllhmiefaaGreatDoorSpecD
namespace Go.Proofs.YtocogbllhmiefaaGreatDoor.Lx
open Go Go.Proofs Go.RowKit Go.Shelf

/-- Where a byte at a place goes, to being the place as it is reckoned so far; none: it is taken out. -/
def mvFrom (at_ : Int) : Int → List Ed → Option Int
  | tt, [] => some tt
  | tt, x :: r => if x.sp.hi ≤ at_ then mvFrom at_ (tt + grow x) r else if x.sp.lo ≤ at_ then none else mvFrom at_ tt r
theorem mv_nil (at_ tt : Int) : mvFrom at_ tt [] = some tt := rfl
theorem mv_cons (at_ tt : Int) (x : Ed) (r : List Ed) : mvFrom at_ tt (x :: r) = if x.sp.hi ≤ at_ then mvFrom at_ (tt + grow x) r else if x.sp.lo ≤ at_ then none else mvFrom at_ tt r := rfl
theorem ed_nil (s : ByteArray) (g : Int) : edsFrom s g [] = [] := rfl
theorem ed_cons (s : ByteArray) (g : Int) (x : Sp) (r : List Sp) : edsFrom s g (x :: r) = ⟨x, s.extract x.lo.toNat x.hi.toNat, x.lo + g⟩ :: edsFrom s (g + ((x.text.size : Int) - ((s.extract x.lo.toNat x.hi.toNat).size : Int))) r := rfl
theorem back_mk (x : Sp) (o : ByteArray) (p : Int) : backOf ⟨x, o, p⟩ = ⟨p, p + x.text.size, o⟩ := rfl
theorem edt_nil (s : ByteArray) (a : Nat) : editedFrom s a [] = s.data.toList.drop a := rfl
theorem edt_cons (s : ByteArray) (a : Nat) (x : Sp) (o : ByteArray) (p : Int) (r : List Ed) : editedFrom s a (⟨x, o, p⟩ :: r) = (s.data.toList.drop a).take (x.lo.toNat - a) ++ x.text.data.toList ++ editedFrom s x.hi.toNat r := rfl
theorem grow_mk (x : Sp) (o : ByteArray) (p : Int) : grow ⟨x, o, p⟩ = (x.text.size : Int) - (o.size : Int) := rfl
theorem rf_cons (n : Nat) (a lo hi : Int) (t : ByteArray) (r : List Sp) : rightFrom n a (⟨lo, hi, t⟩ :: r) = (!(decide (lo < a) || (decide (hi < lo) || decide ((n : Int) < hi))) && rightFrom n hi r) := rfl
/-- Where a byte goes, and the error. -/
def moved (s : ByteArray) (l : List Sp) (at_ : Int) : Int × Nat :=
  if splErr s l ≠ 0 then (0, splErr s l) else if at_ < 0 ∨ (s.size : Int) < at_ then (0, 3) else match mvFrom at_ at_ (eds s l) with
    | some n => (n, 0)
    | none => (0, 7)

/-- Behind a place all splices lie: the place stays. -/
theorem mv_far {s : ByteArray} {n : Nat} (at_ : Int) : ∀ (l : List Sp) (a g tt : Int), rightFrom n a l = true → at_ < a → mvFrom at_ tt (edsFrom s g l) = some tt := by
  intro l
  induction l with
  | nil => intro a g tt _ _; rfl
  | cons x r ih =>
    intro a g tt hr ha
    obtain ⟨q1, q2, q3, q4⟩ := rightFrom_cons hr
    rw [ed_cons, mv_cons, if_neg (by show ¬ x.hi ≤ at_; omega), if_neg (by show ¬ x.lo ≤ at_; omega)]
    exact ih x.hi _ tt q4 (by omega)

theorem drop_len {α} {l m : List α} {n : Nat} (h : l.drop n = m) : m.length = l.length - n := by rw [← h, List.length_drop]

/-- What a step of the way back needs. -/
theorem back_step {s t : ByteArray} {x : Sp} {r : List Sp} {a A : Nat} {g : Int} (hA : (A : Int) = a + g) (_has : a ≤ s.size) (hat : A ≤ t.size) (q1 : (a : Int) ≤ x.lo) (q2 : x.lo ≤ x.hi) (q3 : x.hi ≤ s.size)
    (hd : t.data.toList.drop A = editedFrom s a (edsFrom s g (x :: r))) :
    ∃ lo hi A' : Nat, x.lo = lo ∧ x.hi = hi ∧ a ≤ lo ∧ lo ≤ hi ∧ hi ≤ s.size ∧ (A' : Int) = hi + (g + ((x.text.size : Int) - ((s.extract x.lo.toNat x.hi.toNat).size : Int))) ∧ A' = A + (lo - a) + x.text.size ∧ A' ≤ t.size ∧
      t.data.toList.drop A' = editedFrom s hi (edsFrom s (g + ((x.text.size : Int) - ((s.extract x.lo.toNat x.hi.toNat).size : Int))) r) ∧ (s.extract x.lo.toNat x.hi.toNat).size = hi - lo ∧
      (t.data.toList.drop (A + (lo - a))).take x.text.size = x.text.data.toList ∧ (t.data.toList.drop A).take (lo - a) = (s.data.toList.drop a).take (lo - a) := by
  obtain ⟨lo, hlo⟩ := Int.eq_ofNat_of_zero_le (show 0 ≤ x.lo by omega)
  obtain ⟨hi, hhi⟩ := Int.eq_ofNat_of_zero_le (show 0 ≤ x.hi by omega)
  have hsz : (s.extract x.lo.toNat x.hi.toNat).size = hi - lo := by rw [hlo, hhi]; simp; omega
  rw [ed_cons, edt_cons] at hd
  rw [hsz, hhi, hlo, Int.toNat_natCast, Int.toNat_natCast] at hd
  rw [hsz]
  have l1 : ((s.data.toList.drop a).take (lo - a)).length = lo - a := by rw [List.length_take, List.length_drop, len_list]; omega
  have l2 : x.text.data.toList.length = x.text.size := len_list _
  have hlen := drop_len hd
  rw [len_list, List.length_append, List.length_append, l1, l2] at hlen
  have d1 : t.data.toList.drop (A + (lo - a)) = x.text.data.toList ++ editedFrom s hi (edsFrom s (g + ((x.text.size : Int) - ((hi - lo : Nat) : Int))) r) := by
    rw [← List.drop_drop, hd, List.append_assoc, List.drop_append_of_le_length (by omega), List.drop_of_length_le (by omega), List.nil_append]
  refine ⟨lo, hi, A + (lo - a) + x.text.size, hlo, hhi, by omega, by omega, by omega, by omega, rfl, by omega, ?_, rfl, ?_, ?_⟩
  · rw [← List.drop_drop, d1, List.drop_append_of_le_length (by omega), List.drop_of_length_le (by omega), List.nil_append]
  · rw [d1, List.take_append_of_le_length (by omega), List.take_of_length_le (by omega)]
  · rw [hd, List.append_assoc, List.take_append_of_le_length (by omega), List.take_of_length_le (by omega)]

/-- The splices that lead back are right for the text after splices, and lead back. -/
theorem back_from (s t : ByteArray) : ∀ (l : List Sp) (a A : Nat) (g : Int), (A : Int) = a + g → a ≤ s.size → A ≤ t.size → rightFrom s.size a l = true → t.data.toList.drop A = editedFrom s a (edsFrom s g l) →
    rightFrom t.size A ((edsFrom s g l).map backOf) = true ∧ editedFrom t A (edsFrom t (-g) ((edsFrom s g l).map backOf)) = s.data.toList.drop a := by
  intro l
  induction l with
  | nil => intro a A g _ _ _ _ hd; exact ⟨rfl, hd⟩
  | cons x r ih =>
    intro a A g hA has hat hr hd
    obtain ⟨q1, q2, q3, q4⟩ := rightFrom_cons hr
    obtain ⟨lo, hi, A', hlo, hhi, p1, p2, p3, hA', hAA, hAt, hd', hsz, ht, hp⟩ := back_step hA has hat q1 q2 q3 hd
    have hr' : rightFrom s.size (hi : Int) r = true := by rw [← hhi]; exact q4
    obtain ⟨i1, i2⟩ := ih hi A' _ hA' p3 hAt hr' hd'
    have e1 : x.lo + g = ((A + (lo - a) : Nat) : Int) := by omega
    have e2 : x.lo + g + (x.text.size : Int) = (A' : Int) := by omega
    have hex : (t.extract (A + (lo - a)) A').size = x.text.size := by simp; omega
    constructor
    · rw [ed_cons, List.map_cons, back_mk, rf_cons]
      rw [e2, decide_eq_false (by omega), decide_eq_false (by omega), decide_eq_false (by omega), i1]
      rfl
    · rw [ed_cons, List.map_cons, back_mk, ed_cons, edt_cons]
      dsimp only
      rw [e2, e1, Int.toNat_natCast, Int.toNat_natCast, hex]
      have e3 : -g + ((((s.extract x.lo.toNat x.hi.toNat).size : Nat) : Int) - (x.text.size : Int)) = -(g + ((x.text.size : Int) - ((s.extract x.lo.toNat x.hi.toNat).size : Int))) := by omega
      rw [e3, i2, show A + (lo - a) - A = lo - a by omega, hp, extract_list, hlo, hhi, Int.toNat_natCast, Int.toNat_natCast]
      have e4 : s.data.toList.drop hi = (s.data.toList.drop lo).drop (hi - lo) := by rw [List.drop_drop, show lo + (hi - lo) = hi by omega]
      have e5 : s.data.toList.drop lo = (s.data.toList.drop a).drop (lo - a) := by rw [List.drop_drop, show a + (lo - a) = lo by omega]
      rw [e4, List.append_assoc, List.take_append_drop, e5, List.take_append_drop]

/-- A byte that stays is the same at its new place, and goes back. -/
theorem mv_back (s t : ByteArray) (at_ : Nat) (hat_ : at_ < s.size) : ∀ (l : List Sp) (a A : Nat) (g : Int) (n : Int), (A : Int) = a + g → a ≤ at_ → A ≤ t.size → rightFrom s.size a l = true → t.data.toList.drop A = editedFrom s a (edsFrom s g l) →
    mvFrom at_ (at_ + g) (edsFrom s g l) = some n → (A : Int) ≤ n ∧ n < t.size ∧ t.data.toList[n.toNat]? = s.data.toList[at_]? ∧ mvFrom n (n - g) (edsFrom t (-g) ((edsFrom s g l).map backOf)) = some (at_ : Int) := by
  intro l
  induction l with
  | nil =>
    intro a A g n hA ha hat _ hd hm
    rw [ed_nil, mv_nil] at hm
    rw [ed_nil, edt_nil] at hd
    injection hm with hm
    have hlen := drop_len hd
    rw [List.length_drop, len_list, len_list] at hlen
    obtain ⟨k, rfl⟩ := Int.eq_ofNat_of_zero_le (show 0 ≤ n by omega)
    refine ⟨by omega, by omega, ?_, ?_⟩
    · rw [Int.toNat_natCast, show k = A + (at_ - a) by omega, ← List.getElem?_drop, hd, List.getElem?_drop, show a + (at_ - a) = at_ by omega]
    · rw [ed_nil, List.map_nil, ed_nil, mv_nil]; exact congrArg some (by omega)
  | cons x r ih =>
    intro a A g n hA ha hat hr hd hm
    obtain ⟨q1, q2, q3, q4⟩ := rightFrom_cons hr
    obtain ⟨lo, hi, A', hlo, hhi, p1, p2, p3, hA', hAA, hAt, hd', hsz, ht, hp⟩ := back_step hA (by omega) hat q1 q2 q3 hd
    have hr' : rightFrom s.size (hi : Int) r = true := by rw [← hhi]; exact q4
    have e1 : x.lo + g = ((A + (lo - a) : Nat) : Int) := by omega
    have e2 : x.lo + g + (x.text.size : Int) = (A' : Int) := by omega
    have hex : (t.extract (A + (lo - a)) A').size = x.text.size := by simp; omega
    have e3 : -g + ((((s.extract x.lo.toNat x.hi.toNat).size : Nat) : Int) - (x.text.size : Int)) = -(g + ((x.text.size : Int) - ((s.extract x.lo.toNat x.hi.toNat).size : Int))) := by omega
    have hbr := (back_from s t r hi A' _ hA' p3 hAt hr' hd').1
    rw [ed_cons, mv_cons, grow_mk] at hm
    dsimp only at hm
    rw [ed_cons, List.map_cons, back_mk, ed_cons, mv_cons, grow_mk]
    dsimp only
    rw [e2, e1, Int.toNat_natCast, Int.toNat_natCast, hex]
    rw [e3]
    by_cases h1 : x.hi ≤ (at_ : Int)
    · rw [if_pos h1] at hm
      obtain ⟨i1, i2, i3, i4⟩ := ih hi A' _ n hA' (by omega) hAt hr' hd' (by rw [← hm]; congr 1; omega)
      refine ⟨by omega, i2, i3, ?_⟩
      rw [if_pos i1]
      rw [show n - g + ((((s.extract x.lo.toNat x.hi.toNat).size : Nat) : Int) - (x.text.size : Int)) = n - (g + ((x.text.size : Int) - ((s.extract x.lo.toNat x.hi.toNat).size : Int))) by omega]
      exact i4
    · rw [if_neg h1] at hm
      by_cases h2 : x.lo ≤ (at_ : Int)
      · rw [if_pos h2] at hm; cases hm
      · rw [if_neg h2, mv_far (at_ : Int) r x.hi _ _ q4 (by omega)] at hm
        injection hm with hm
        obtain ⟨k, rfl⟩ := Int.eq_ofNat_of_zero_le (show 0 ≤ n by omega)
        have hk : k = A + (at_ - a) := by omega
        refine ⟨by omega, by omega, ?_, ?_⟩
        · have hg := congrArg (fun l : List UInt8 => l[at_ - a]?) hp
          simp only [List.getElem?_take, List.getElem?_drop, if_pos (show at_ - a < lo - a by omega)] at hg
          rw [Int.toNat_natCast, hk, hg, show a + (at_ - a) = at_ by omega]
        · rw [if_neg (by omega), if_neg (by omega), mv_far (k : Int) _ (A' : Int) _ _ hbr (by omega)]
          exact congrArg some (by omega)

/-- Places stay in order. -/
theorem mv_rise (s t : ByteArray) (i j : Nat) (hij : i < j) (hj : j < s.size) : ∀ (l : List Sp) (a A : Nat) (g : Int) (m n : Int), (A : Int) = a + g → a ≤ i → A ≤ t.size → rightFrom s.size a l = true → t.data.toList.drop A = editedFrom s a (edsFrom s g l) →
    mvFrom i (i + g) (edsFrom s g l) = some m → mvFrom j (j + g) (edsFrom s g l) = some n → m < n := by
  intro l
  induction l with
  | nil =>
    intro a A g m n _ _ _ _ _ h1 h2
    rw [ed_nil, mv_nil] at h1 h2
    injection h1 with h1; injection h2 with h2
    omega
  | cons x r ih =>
    intro a A g m n hA ha hat hr hd hm hn
    obtain ⟨q1, q2, q3, q4⟩ := rightFrom_cons hr
    obtain ⟨lo, hi, A', hlo, hhi, p1, p2, p3, hA', hAA, hAt, hd', hsz, ht, hp⟩ := back_step hA (by omega) hat q1 q2 q3 hd
    have hr' : rightFrom s.size (hi : Int) r = true := by rw [← hhi]; exact q4
    rw [ed_cons, mv_cons, grow_mk] at hm hn
    dsimp only at hm hn
    by_cases h1 : x.hi ≤ (i : Int)
    · rw [if_pos h1] at hm
      rw [if_pos (by omega)] at hn
      exact ih hi A' _ m n hA' (by omega) hAt hr' hd' (by rw [← hm]; congr 1; omega) (by rw [← hn]; congr 1; omega)
    · rw [if_neg h1] at hm
      by_cases h2 : x.lo ≤ (i : Int)
      · rw [if_pos h2] at hm; cases hm
      · rw [if_neg h2, mv_far (i : Int) r x.hi _ _ q4 (by omega)] at hm
        injection hm with hm
        by_cases h3 : x.hi ≤ (j : Int)
        · rw [if_pos h3] at hn
          have := (mv_back s t j hj r hi A' _ n hA' (by omega) hAt hr' hd' (by rw [← hn]; congr 1; omega)).1
          omega
        · rw [if_neg h3] at hn
          by_cases h4 : x.lo ≤ (j : Int)
          · rw [if_pos h4] at hn; cases hn
          · rw [if_neg h4, mv_far (j : Int) r x.hi _ _ q4 (by omega)] at hn
            injection hn with hn
            omega

theorem splErr_parts {s : ByteArray} {l : List Sp} (h : splErr s l = 0) : (textErr s).2 = 0 ∧ l.length ≤ 40 ∧ right s.size l = true ∧ l.any (fun x => (bad x.text).isSome) = false ∧ (s.size : Int) + total (eds s l) ≤ 2500 := by
  unfold splErr at h
  split at h
  · contradiction
  · rename_i h1
    split at h
    · cases h
    · rename_i h2
      split at h
      · cases h
      · rename_i h3
        split at h
        · cases h
        · rename_i h4
          split at h
          · cases h
          · rename_i h5
            exact ⟨by omega, by omega, by simpa using h3, by simpa using h4, by omega⟩

theorem total_cons (x : Ed) (l : List Ed) : total (x :: l) = grow x + total l := by
  have hf : ∀ (m : List Int) (a b : Int), m.foldl (· + ·) (a + b) = a + m.foldl (· + ·) b := by
    intro m
    induction m with
    | nil => intro a b; rfl
    | cons y m ih => intro a b; rw [List.foldl_cons, List.foldl_cons, Int.add_assoc, ih]
  simp only [total, List.map_cons, List.foldl_cons]
  rw [show (0 : Int) + grow x = grow x + 0 by omega, hf]

/-- How long the text after splices is. -/
theorem edited_len (s : ByteArray) : ∀ (l : List Sp) (a : Nat) (g : Int), a ≤ s.size → rightFrom s.size a l = true → ((editedFrom s a (edsFrom s g l)).length : Int) = (s.size : Int) - a + total (edsFrom s g l) := by
  intro l
  induction l with
  | nil => intro a g ha _; rw [ed_nil, edt_nil, List.length_drop, len_list]; simp [total]; omega
  | cons x r ih =>
    intro a g ha hr
    obtain ⟨q1, q2, q3, q4⟩ := rightFrom_cons hr
    obtain ⟨lo, hlo⟩ := Int.eq_ofNat_of_zero_le (show 0 ≤ x.lo by omega)
    obtain ⟨hi, hhi⟩ := Int.eq_ofNat_of_zero_le (show 0 ≤ x.hi by omega)
    have hsz : (s.extract x.lo.toNat x.hi.toNat).size = hi - lo := by rw [hlo, hhi]; simp; omega
    rw [ed_cons, edt_cons, total_cons, grow_mk]
    rw [List.length_append, List.length_append, List.length_take, List.length_drop, len_list, len_list, hlo, hhi, Int.toNat_natCast, Int.toNat_natCast]
    have := ih hi (g + ((x.text.size : Int) - ((s.extract x.lo.toNat x.hi.toNat).size : Int))) (by omega) (by rw [← hhi]; exact q4)
    rw [hlo, hhi, Int.toNat_natCast, Int.toNat_natCast] at this hsz
    have h5 : ((s.extract lo hi).size : Int) = (hi : Int) - lo := by rw [hsz]; omega
    rw [h5] at this ⊢
    omega

/-- A list of bytes all of which stand in texts. -/
def fineL (l : List UInt8) : Prop := ∀ c ∈ l, okb c.toNat = true
theorem fine_of {s : ByteArray} (h : bad s = none) : fineL s.data.toList := by
  intro c hc
  obtain ⟨i, hi, rfl⟩ := List.mem_iff_getElem.1 hc
  have := ok_of_bad s h i (by rw [← len_list]; exact hi)
  unfold bt at this
  rw [List.getD_eq_getElem?_getD, List.getElem?_eq_getElem hi] at this
  exact this
theorem of_fine {s : ByteArray} (h : fineL s.data.toList) : bad s = none := by
  refine bad_none s fun j hj => ?_
  have hj' : j < s.data.toList.length := by rw [len_list]; exact hj
  unfold bt
  rw [List.getD_eq_getElem?_getD, List.getElem?_eq_getElem hj']
  exact h _ (List.getElem_mem hj')
theorem fine_edited (s : ByteArray) (hs : bad s = none) : ∀ (l : List Sp) (a : Nat) (g : Int), (∀ x ∈ l, bad x.text = none) → fineL (editedFrom s a (edsFrom s g l)) := by
  intro l
  induction l with
  | nil => intro a g _ c hc; exact fine_of hs c (List.mem_of_mem_drop hc)
  | cons x r ih =>
    intro a g hl c hc
    rw [ed_cons, edt_cons] at hc
    rcases List.mem_append.1 hc with hc | hc
    · rcases List.mem_append.1 hc with hc | hc
      · exact fine_of hs c (List.mem_of_mem_drop (List.mem_of_mem_take hc))
      · exact fine_of (hl x List.mem_cons_self) c hc
    · exact ih _ _ (fun y hy => hl y (List.mem_cons_of_mem _ hy)) c hc

/-- The text after splices that are right is a text. -/
theorem text_after {s : ByteArray} {l : List Sp} (h : splErr s l = 0) : (textErr (applied s l)).2 = 0 ∧ (applied s l).data.toList = editedFrom s 0 (eds s l) ∧ ((applied s l).size : Int) = s.size + total (eds s l) := by
  obtain ⟨h1, h2, h3, h4, h5⟩ := splErr_parts h
  have hap : (applied s l).data.toList = editedFrom s 0 (eds s l) := by unfold applied; rw [if_pos h]; rfl
  have hlen := edited_len s l 0 0 (Nat.zero_le _) h3
  have hsz : ((applied s l).size : Int) = s.size + total (eds s l) := by
    rw [← len_list, hap]
    show ((editedFrom s 0 (edsFrom s 0 l)).length : Int) = s.size + total (edsFrom s 0 l)
    rw [hlen]; omega
  refine ⟨?_, hap, hsz⟩
  have hb : bad (applied s l) = none := by
    refine of_fine ?_
    rw [hap]
    refine fine_edited s (text_ok h1).2 l 0 0 fun x hx => ?_
    have := List.any_eq_false.1 h4 x hx
    simpa using this
  unfold textErr
  rw [if_neg (by omega), hb]

theorem old_bad {s : ByteArray} (hs : bad s = none) : ∀ (l : List Sp) (g : Int), ∀ x ∈ edsFrom s g l, bad x.old = none := by
  intro l
  induction l with
  | nil => intro g x hx; simp [edsFrom] at hx
  | cons y r ih =>
    intro g x hx
    rw [edsFrom] at hx
    rcases List.mem_cons.1 hx with rfl | hx
    · refine of_fine fun c hc => ?_
      rw [extract_list] at hc
      exact fine_of hs c (List.mem_of_mem_drop (List.mem_of_mem_take hc))
    · exact ih _ x hx

/-- Splices, and then those that lead back. -/
theorem undone_back {s : ByteArray} {l : List Sp} (h : splErr s l = 0) : splErr (applied s l) (undone s l) = 0 ∧ applied (applied s l) (undone s l) = s := by
  obtain ⟨h1, h2, h3, h4, h5⟩ := splErr_parts h
  obtain ⟨t1, t2, t3⟩ := text_after h
  have hun : undone s l = (edsFrom s 0 l).map backOf := by unfold undone; rw [if_pos h]; rfl
  obtain ⟨b1, b2⟩ := back_from s (applied s l) l 0 0 0 (by omega) (Nat.zero_le _) (Nat.zero_le _) h3 t2
  have b2' : editedFrom (applied s l) 0 (eds (applied s l) (undone s l)) = s.data.toList := by
    rw [hun]; exact b2
  have hr : right (applied s l).size (undone s l) = true := by rw [hun]; exact b1
  have hsz := edited_len (applied s l) (undone s l) 0 0 (Nat.zero_le _) hr
  have htot : ((applied s l).size : Int) + total (eds (applied s l) (undone s l)) = s.size := by
    have e : (editedFrom (applied s l) 0 (edsFrom (applied s l) 0 (undone s l))).length = s.size := by
      rw [← len_list]; exact congrArg List.length b2'
    rw [e] at hsz
    show ((applied s l).size : Int) + total (edsFrom (applied s l) 0 (undone s l)) = s.size
    omega
  have hok : splErr (applied s l) (undone s l) = 0 := by
    refine splErr_ok t1 ?_ hr ?_ (by rw [htot]; have := (text_ok h1).1; omega)
    · rw [hun, List.length_map, edsFrom_length]; omega
    · rw [hun]
      refine List.any_eq_false.2 fun x hx => ?_
      obtain ⟨y, hy, rfl⟩ := List.mem_map.1 hx
      have := old_bad (text_ok h1).2 l 0 y hy
      simp [backOf, this]
  refine ⟨hok, ?_⟩
  have e : (applied (applied s l) (undone s l)).data.toList = s.data.toList := by
    rw [show applied (applied s l) (undone s l) = edited (applied s l) (eds (applied s l) (undone s l)) from if_pos hok]
    exact b2'
  obtain ⟨⟨x⟩⟩ := s
  generalize applied (applied _ l) (undone _ l) = z at e
  obtain ⟨⟨y⟩⟩ := z
  simpa using e
theorem undone_len {s : ByteArray} {l : List Sp} (h : splErr s l = 0) : (undone s l).length = l.length := by
  unfold undone; rw [if_pos h, List.length_map]; exact eds_length s l

/-- A byte that stays. -/
theorem moved_stays {s : ByteArray} {l : List Sp} (h : splErr s l = 0) (i : Nat) (hi : i < s.size) :
    moved s l i = (0, 7) ∨ ∃ n : Nat, moved s l i = ((n : Int), 0) ∧ n < (applied s l).size ∧ (applied s l).data.toList[n]? = s.data.toList[i]? ∧ moved (applied s l) (undone s l) n = ((i : Int), 0) := by
  obtain ⟨h1, h2, h3, h4, h5⟩ := splErr_parts h
  obtain ⟨t1, t2, t3⟩ := text_after h
  have hun : undone s l = (edsFrom s 0 l).map backOf := by unfold undone; rw [if_pos h]; rfl
  have hm : moved s l i = match mvFrom i i (edsFrom s 0 l) with | some n => (n, 0) | none => (0, 7) := by
    unfold moved; rw [if_neg (by omega), if_neg (by omega)]; rfl
  rw [hm]
  cases hmv : mvFrom i i (edsFrom s 0 l) with
  | none => exact .inl rfl
  | some n =>
    obtain ⟨b1, b2, b3, b4⟩ := mv_back s (applied s l) i hi l 0 0 0 n (by omega) (Nat.zero_le _) (Nat.zero_le _) h3 t2 (by rw [Int.add_zero]; exact hmv)
    obtain ⟨k, rfl⟩ := Int.eq_ofNat_of_zero_le (show 0 ≤ n by omega)
    refine .inr ⟨k, rfl, by omega, by simpa using b3, ?_⟩
    unfold moved
    rw [if_neg (by rw [(undone_back h).1]; omega), if_neg (by omega), hun]
    have e : mvFrom (k : Int) (k : Int) (eds (applied s l) ((edsFrom s 0 l).map backOf)) = some (i : Int) := by have b5 := b4; rw [Int.sub_zero, Int.neg_zero] at b5; exact b5
    rw [e]
theorem moved_rise {s : ByteArray} {l : List Sp} (h : splErr s l = 0) {i j m n : Nat} (hij : i < j) (hj : j < s.size) (hm : moved s l i = ((m : Int), 0)) (hn : moved s l j = ((n : Int), 0)) : m < n := by
  obtain ⟨h1, h2, h3, h4, h5⟩ := splErr_parts h
  obtain ⟨t1, t2, t3⟩ := text_after h
  have key : ∀ (i m : Nat), i < s.size → moved s l i = ((m : Int), 0) → mvFrom i (i + 0) (edsFrom s 0 l) = some (m : Int) := by
    intro i m hi hm
    have hm' : moved s l i = match mvFrom i i (edsFrom s 0 l) with | some n => (n, 0) | none => (0, 7) := by
      unfold moved; rw [if_neg (by omega), if_neg (by omega)]; rfl
    rw [hm'] at hm
    rw [Int.add_zero]
    cases hmv : mvFrom i i (edsFrom s 0 l) with
    | none => rw [hmv] at hm; simp at hm
    | some k => rw [hmv] at hm; simp at hm; rw [hm]
  have := mv_rise s (applied s l) i j hij hj l 0 0 0 m n (by omega) (Nat.zero_le _) (Nat.zero_le _) h3 t2 (key i m (by omega) hm) (key j n hj hn)
  omega

end Go.Proofs.YtocogbllhmiefaaGreatDoor.Lx
