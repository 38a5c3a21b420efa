/- Lines and columns of places, and places of lines and columns (plain). -/
import Derived.Test.YtocogbllhmiefaaGreatDoorSpecA
import Derived.Lib.SplitLaws
import Derived.Lib.LastIndexByte
namespace Go.Proofs.YtocogbllhmiefaaGreatDoor.Lx

/-- The lines of a text. -/
def lns : List UInt8 → List (List UInt8)
  | [] => [[]]
  | c :: r => if c = 10 then [] :: lns r else match lns r with
    | [] => [[c]]
    | x :: q => (c :: x) :: q
theorem lns_ne : ∀ s : List UInt8, lns s ≠ []
  | [] => by simp [lns]
  | c :: r => by
    unfold lns
    split
    · simp
    · split <;> simp
theorem lns_feed (r : List UInt8) : lns (10 :: r) = [] :: lns r := by
  show (if (10 : UInt8) = 10 then [] :: lns r else _) = _
  rw [if_pos rfl]
theorem lns_other {c : UInt8} (r : List UInt8) (h : c ≠ 10) {x : List UInt8} {q : List (List UInt8)} (e : lns r = x :: q) : lns (c :: r) = (c :: x) :: q := by
  rw [lns, if_neg h, e]

/-- How many bytes stand up to the last line feed, and it. -/
def cutL : List UInt8 → Nat
  | [] => 0
  | c :: r => if 0 < cutL r then cutL r + 1 else if c = 10 then 1 else 0
theorem cutL_snoc (c : UInt8) : ∀ l : List UInt8, cutL (l ++ [c]) = if c = 10 then l.length + 1 else cutL l
  | [] => by simp [cutL]
  | d :: r => by
    show (if 0 < cutL (r ++ [c]) then cutL (r ++ [c]) + 1 else if d = 10 then 1 else 0) = if c = 10 then (r.length + 1) + 1 else (if 0 < cutL r then cutL r + 1 else if d = 10 then 1 else 0)
    rw [cutL_snoc c r]
    by_cases h : c = 10
    · rw [if_pos h, if_pos h, if_pos (by omega)]
    · rw [if_neg h, if_neg h]
theorem cutL_le : ∀ l : List UInt8, cutL l ≤ l.length
  | [] => Nat.le_refl _
  | c :: r => by
    have := cutL_le r
    show (if 0 < cutL r then cutL r + 1 else if c = 10 then 1 else 0) ≤ r.length + 1
    split
    · omega
    · split <;> omega
theorem cutL_zero : ∀ l : List UInt8, l.count 10 = 0 → cutL l = 0
  | [], _ => rfl
  | c :: r, h => by
    have hc : c ≠ 10 := by rintro rfl; simp at h
    have h2 : r.count 10 = 0 := by rw [List.count_cons_of_ne hc] at h; exact h
    show (if 0 < cutL r then cutL r + 1 else if c = 10 then 1 else 0) = 0
    rw [if_neg (by rw [cutL_zero r h2]; omega), if_neg hc]
theorem cutL_pos : ∀ l : List UInt8, 0 < l.count 10 → 0 < cutL l
  | [], h => by simp at h
  | c :: r, h => by
    show 0 < (if 0 < cutL r then cutL r + 1 else if c = 10 then 1 else 0)
    by_cases hc : c = 10
    · rw [if_pos hc]
      split <;> omega
    · rw [List.count_cons_of_ne hc] at h
      rw [if_pos (cutL_pos r h)]; omega
/-- Where a line begins. -/
def startL : Nat → List (List UInt8) → Nat
  | 0, _ => 0
  | _ + 1, [] => 0
  | k + 1, x :: r => x.length + 1 + startL k r

/-- The line in which a place stands, and its column. -/
theorem line_of : ∀ (s : List UInt8) (a : Nat), a ≤ s.length → ∃ ln, (lns s)[(s.take a).count 10]? = some ln ∧ startL ((s.take a).count 10) (lns s) = cutL (s.take a) ∧ a ≤ cutL (s.take a) + ln.length
  | s, 0, _ => by
    obtain ⟨x, q, h⟩ := List.exists_cons_of_ne_nil (lns_ne s)
    refine ⟨x, ?_, ?_, by omega⟩
    · rw [List.take_zero, h]; rfl
    · rw [List.take_zero]; rfl
  | [], a + 1, h => by simp at h
  | c :: r, a + 1, h => by
    obtain ⟨ln, h1, h2, h3⟩ := line_of r a (by simpa using h)
    by_cases hc : c = 10
    · subst hc
      refine ⟨ln, ?_, ?_, ?_⟩
      · rw [List.take_succ_cons, List.count_cons_self, lns_feed, List.getElem?_cons_succ]; exact h1
      · rw [List.take_succ_cons, List.count_cons_self, lns_feed]
        show 0 + 1 + startL _ (lns r) = (if 0 < cutL (r.take a) then cutL (r.take a) + 1 else if (10 : UInt8) = 10 then 1 else 0)
        rw [h2]
        split
        · omega
        · rw [if_pos rfl]; omega
      · rw [List.take_succ_cons]
        show a + 1 ≤ (if 0 < cutL (r.take a) then cutL (r.take a) + 1 else if (10 : UInt8) = 10 then 1 else 0) + ln.length
        split
        · omega
        · rw [if_pos rfl]; omega
    · obtain ⟨x, q, hx⟩ := List.exists_cons_of_ne_nil (lns_ne r)
      have hl := lns_other r hc hx
      have hcut : cutL ((c :: r).take (a + 1)) = if 0 < cutL (r.take a) then cutL (r.take a) + 1 else 0 := by
        rw [List.take_succ_cons]
        show (if 0 < cutL (r.take a) then cutL (r.take a) + 1 else if c = 10 then 1 else 0) = _
        rw [if_neg hc]
      have hcnt : ((c :: r).take (a + 1)).count 10 = (r.take a).count 10 := by rw [List.take_succ_cons, List.count_cons_of_ne hc]
      rw [hcut, hcnt, hl]
      rw [hx] at h1 h2
      by_cases hk : (r.take a).count 10 = 0
      · have hz := cutL_zero _ hk
        rw [hk] at h1 ⊢
        rw [hz] at h3 ⊢
        have : ln = x := by simpa using h1.symm
        subst this
        exact ⟨c :: ln, rfl, rfl, by simp; omega⟩
      · have hp := cutL_pos _ (Nat.pos_of_ne_zero hk)
        obtain ⟨k, hk'⟩ : ∃ k, (r.take a).count 10 = k + 1 := ⟨(r.take a).count 10 - 1, by omega⟩
        rw [hk'] at h1 h2 ⊢
        refine ⟨ln, by simpa using h1, ?_, ?_⟩
        · rw [if_pos hp]
          show (c :: x).length + 1 + startL k q = _
          have : x.length + 1 + startL k q = cutL (r.take a) := h2
          simp; omega
        · rw [if_pos hp]; omega

/-- The place of a line and a column, from the line with the number i on, which begins at st. -/
def atFrom (line col : Int) : Nat → Nat → List (List UInt8) → Option Int
  | _, _, [] => none
  | i, st, x :: r => if ((i : Int) + 1 = line ∧ 1 ≤ col) ∧ col - 1 ≤ x.length then some ((st : Int) + col - 1) else atFrom line col (i + 1) (st + x.length + 1) r
theorem atFrom_at (col : Int) (hc : 1 ≤ col) : ∀ (k i st : Nat) (l : List (List UInt8)) (ln : List UInt8), l[k]? = some ln → col - 1 ≤ ln.length → atFrom ((i : Int) + k + 1) col i st l = some ((st : Int) + (startL k l : Nat) + col - 1)
  | _, _, _, [], _, h, _ => by simp at h
  | 0, i, st, x :: r, ln, h, h2 => by
    simp at h; subst h
    unfold atFrom
    rw [if_pos ⟨⟨by omega, hc⟩, h2⟩]
    show some _ = some ((st : Int) + ((0 : Nat) : Int) + col - 1)
    rw [show (st : Int) + ((0 : Nat) : Int) = st from Int.add_zero _]
  | k + 1, i, st, x :: r, ln, h, h2 => by
    unfold atFrom
    rw [if_neg (fun h => by omega)]
    have := atFrom_at col hc k (i + 1) (st + x.length + 1) r ln (by simpa using h) h2
    rw [show (i : Int) + ((k + 1 : Nat) : Int) + 1 = ((i + 1 : Nat) : Int) + k + 1 by omega, this]
    show some _ = some ((st : Int) + ((x.length + 1 + startL k r : Nat) : Int) + col - 1)
    congr 1
    omega

/-- What At finds: the place, if there is one. -/
def atOf (s : ByteArray) (line col : Int) : Option Int := atFrom line col 0 0 (lns s.data.toList)
def lineOf (s : ByteArray) (a : Nat) : Int := ((s.data.toList.take a).count 10 : Nat) + 1
def colOf (s : ByteArray) (a : Nat) : Int := (a : Int) - ((cutL (s.data.toList.take a) : Int) - 1)
theorem atOf_spot (s : ByteArray) (a : Nat) (h : a ≤ s.size) : atOf s (lineOf s a) (colOf s a) = some (a : Int) := by
  have hl : s.data.toList.length = s.size := by simp
  obtain ⟨ln, h1, h2, h3⟩ := line_of s.data.toList a (by omega)
  have h4 := cutL_le (s.data.toList.take a)
  have h5 : (s.data.toList.take a).length = a := by rw [List.length_take]; omega
  rw [h5] at h4
  unfold atOf lineOf colOf
  have := atFrom_at ((a : Int) - ((cutL (s.data.toList.take a) : Int) - 1)) (by omega) _ 0 0 _ ln h1 (by omega)
  rw [show (((s.data.toList.take a).count 10 : Nat) : Int) + 1 = ((0 : Nat) : Int) + ((s.data.toList.take a).count 10 : Nat) + 1 by omega, this, h2]
  congr 1
  omega
theorem take_snoc_bt (s : ByteArray) (a : Nat) (h : a < s.size) : s.data.toList.take (a + 1) = s.data.toList.take a ++ [s[a]'h] := by
  have h' : a < s.data.toList.length := by simpa using h
  rw [List.take_add_one, List.getElem?_eq_getElem h']; rfl
theorem spot_rise (s : ByteArray) (a : Nat) (h : a < s.size) : lineOf s a < lineOf s (a + 1) ∨ lineOf s (a + 1) = lineOf s a ∧ colOf s a < colOf s (a + 1) := by
  have hl : s.data.toList.length = s.size := by simp
  unfold lineOf colOf
  rw [take_snoc_bt s a h]
  by_cases hc : s[a] = 10
  · left
    rw [hc, List.count_append]
    simp; omega
  · right
    rw [List.count_append, cutL_snoc, if_neg hc]
    have : [s[a]].count 10 = 0 := by simp [hc]
    rw [this]
    exact ⟨by omega, by omega⟩
theorem spot_first (s : ByteArray) : lineOf s 0 = 1 ∧ colOf s 0 = 1 := by
  unfold lineOf colOf; simp [cutL]

theorem lastIdx_cut (s : ByteArray) : ∀ k, k ≤ s.size → Go.Lib.lastIdx s 10 k = (cutL (s.data.toList.take k) : Int) - 1
  | 0, _ => by simp [Go.Lib.lastIdx, cutL]
  | k + 1, h => by
    have hk : k < s.size := h
    have hd : s.data[k]! = s[k]'hk := by
      have h' : k < s.data.size := hk
      rw [getElem!_pos s.data k h']; rfl
    unfold Go.Lib.lastIdx
    rw [lastIdx_cut s k (by omega), take_snoc_bt s k hk, cutL_snoc, hd]
    have hl : (s.data.toList.take k).length = k := by rw [List.length_take]; simp; omega
    by_cases hc : s[k] = 10
    · rw [if_pos (by rw [hc]; rfl), if_pos hc, hl]; omega
    · rw [if_neg hc, if_neg (fun e => hc (UInt8.toNat_inj.1 (by show s[k].toNat = 10; omega)))]
theorem last_cut (s : ByteArray) (a : Nat) (h : a ≤ s.size) : Go.Lib.lastIndexByte (s.extract 0 a) 10 = (cutL (s.data.toList.take a) : Int) - 1 := by
  have h1 : (s.extract 0 a).size = a := by rw [ByteArray.size_extract]; omega
  unfold Go.Lib.lastIndexByte
  rw [lastIdx_cut _ _ (Nat.le_refl _), h1, Go.Lib.extract_from_zero, List.take_take, Nat.min_self]
theorem count_cut (s : ByteArray) (a : Nat) : Go.Lib.countByte (s.extract 0 a).data.toList 10 = (s.data.toList.take a).count 10 := by
  unfold Go.Lib.countByte
  rw [Go.Lib.extract_from_zero]

theorem splitK_lns : ∀ s : List UInt8, Go.Lib.splitK [10] 0 (s.count 10) s = lns s
  | [] => rfl
  | c :: r => by
    by_cases hc : c = 10
    · subst hc
      have hix : Go.Lib.index ((10 : UInt8) :: r) [10] = ((0 : Nat) : Int) := by rw [Go.Lib.index]; simp [List.isPrefixOf]
      rw [List.count_cons_self, lns_feed, ← splitK_lns r]
      rw [Go.Lib.splitK, if_neg (by rw [hix]; decide), hix]
      rfl
    · have hp : ([10] : List UInt8).isPrefixOf (c :: r) = false := by simp [List.isPrefixOf, Ne.symm hc]
      have hix : Go.Lib.index (c :: r) [10] = if Go.Lib.index r [10] == -1 then -1 else Go.Lib.index r [10] + 1 := by rw [Go.Lib.index, hp]; simp
      obtain ⟨x, q, hx⟩ := List.exists_cons_of_ne_nil (lns_ne r)
      rw [List.count_cons_of_ne hc, lns_other r hc hx]
      have ih := splitK_lns r
      rw [hx] at ih
      cases hk : r.count 10 with
      | zero =>
        rw [hk] at ih
        have : [r] = x :: q := ih
        injection this with h1 h2
        subst h1; subst h2
        rfl
      | succ k =>
        rw [hk] at ih
        have hm : Go.Lib.index r [10] ≠ -1 := by
          intro hm
          have := Go.Lib.count_miss hm
          rw [Go.Lib.count_one] at this
          omega
        have hge := Go.Lib.index_ge r [10]
        obtain ⟨j, hj⟩ : ∃ j : Nat, Go.Lib.index r [10] = j := ⟨(Go.Lib.index r [10]).toNat, by omega⟩
        rw [Go.Lib.splitK, if_neg (fun e => hm (beq_iff_eq.1 e)), hj] at ih
        injection ih with h1 h2
        have hj' : Go.Lib.index (c :: r) [10] = ((j + 1 : Nat) : Int) := by rw [hix, if_neg (fun e => hm (beq_iff_eq.1 e)), hj]; omega
        rw [Go.Lib.splitK, if_neg (by rw [hj']; simp; omega), hj', ← h1, ← h2]
        rfl
theorem splitB_lns (s : ByteArray) : Go.Lib.splitB ⟨#[10]⟩ 0 (Go.Lib.countB s ⟨#[10]⟩) s = (lns s.data.toList).map fun l => ⟨l.toArray⟩ := by
  have h1 := Go.Lib.splitB_data ⟨#[10]⟩ 0 (Go.Lib.countB s ⟨#[10]⟩) s
  have h2 : Go.Lib.countB s ⟨#[10]⟩ = s.data.toList.count 10 := Go.Lib.count_one 10 _
  rw [h2] at h1 ⊢
  have h3 := h1.trans (splitK_lns s.data.toList)
  rw [← h3, List.map_map]
  conv => lhs; rw [← List.map_id (Go.Lib.splitB _ _ _ _)]
  refine List.map_congr_left fun x _ => ?_
  rfl
theorem countB_lns (s : ByteArray) : Go.Lib.countB s ⟨#[10]⟩ + 1 = (lns s.data.toList).length := by
  have h := Go.Lib.splitB_all ⟨#[10]⟩ (by decide) 0 _ s rfl
  rw [splitB_lns, List.length_map] at h
  exact h.symm
theorem lns_total : ∀ (s : List UInt8) (k : Nat), k ≤ (lns s).length → startL k (lns s) ≤ s.length + 1
  | [], k, h => by
    cases k with
    | zero => simp [startL]
    | succ k =>
      have : k = 0 := by simpa [lns] using h
      subst this
      simp [lns, startL]
  | c :: r, k, h => by
    cases k with
    | zero => simp [startL]
    | succ k =>
      by_cases hc : c = 10
      · subst hc
        rw [lns_feed] at h ⊢
        have := lns_total r k (by simpa using h)
        show 0 + 1 + startL k (lns r) ≤ _
        simp; omega
      · obtain ⟨x, q, hx⟩ := List.exists_cons_of_ne_nil (lns_ne r)
        have ih := lns_total r (k + 1)
        rw [lns_other r hc hx] at h ⊢
        rw [hx] at ih
        have := ih (by simpa using h)
        have e : startL (k + 1) (x :: q) = x.length + 1 + startL k q := rfl
        show (c :: x).length + 1 + startL k q ≤ _
        simp; omega

end Go.Proofs.YtocogbllhmiefaaGreatDoor.Lx
