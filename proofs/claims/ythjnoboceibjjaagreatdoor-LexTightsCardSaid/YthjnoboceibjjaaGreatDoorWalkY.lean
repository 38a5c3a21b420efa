/- Where a byte goes (Moved of package lex); a copy of a slice. -/
import Derived.Test.YthjnoboceibjjaaGreatDoorWalkS
import Derived.Laws.IdiomStrings
import Derived.Laws.AppendOwnNone
import Derived.Deep.CutBlock
import Derived.Deep.LoopGhost
import Derived.Deep.DeepCutAuto
import Derived.OwnWalk
namespace Go.Proofs.YthjnoboceibjjaaGreatDoor.Lx
open Go Go.Proofs Go.RowKit Go.Shelf

/-- A slice value that holds a text's bytes. -/
def SlBy (W : World) (v : Value) (s : ByteArray) : Prop :=
  ∃ A cap, v = .slice A s.size cap ∧ (0 < s.size → ∃ b off, A = some ⟨b, off, none⟩ ∧ b < W.heap.size ∧ ∀ i, i < s.size → W.cell? ⟨b, off + i, none⟩ = some (.int .u8 (bt s i : Int)))
theorem SlBy.below {W W' : World} {v : Value} {s : ByteArray} (h : SlBy W v s) (hb : Below W.heap.size W W') : SlBy W' v s := by
  obtain ⟨A, cap, rfl, hA⟩ := h
  refine ⟨A, cap, rfl, fun h0 => ?_⟩
  obtain ⟨b, off, rfl, hlt, hc⟩ := hA h0
  exact ⟨b, off, rfl, Nat.lt_of_lt_of_le hlt hb.size, fun i hi => (hb.cell (p := ⟨b, off + i, none⟩) hlt).trans (hc i hi)⟩

/-- How many elements are the same, from a place on. -/
def com (f g : Nat → Nat) : Nat → Nat → Nat
  | 0, k => k
  | n + 1, k => if f k = g k then com f g n (k + 1) else k
theorem com_le (f g : Nat → Nat) : ∀ n k, k ≤ com f g n k ∧ com f g n k ≤ k + n := by
  intro n
  induction n with
  | zero => intro k; exact ⟨Nat.le_refl _, Nat.le_refl _⟩
  | succ n ih =>
    intro k
    rw [com]
    split
    · have := ih (k + 1); omega
    · omega

end Go.Proofs.YthjnoboceibjjaaGreatDoor.Lx

namespace Go.Proofs.YthjnoboceibjjaaGreatDoor.Lx
open Go Go.Proofs Go.RowKit Go.Shelf

/-- What a text's bytes are laid as. -/
def cvC (w : World) (s : ByteArray) : Nat := grownCap w s.size 0 5
def cvW (w : World) (s : ByteArray) : World := w.drew.alloc (.cells (bytesRow s (cvC w s)) 5 ((bytesRow s (cvC w s)).size, (bytesRow s (cvC w s)).size + 1))
theorem cv_run (w : World) (s : ByteArray) : (convert 9 46 (.string s)).run Tryz.prog w = .ok (.slice (some ⟨w.heap.size, 0, none⟩) s.size (cvC w s)) (cvW w s) :=
  run_bytes_of_string w 9 46 5 s Tryz.underlying9 Tryz.underlying46 Tryz.underlying5
theorem cv_below (w : World) (s : ByteArray) : Below w.heap.size w (cvW w s) := ((Below.refl w.heap.size w).drew).alloc (Nat.le_refl _) _
theorem cv_size (w : World) (s : ByteArray) : (cvW w s).heap.size = w.heap.size + 1 := by show (w.drew.alloc _).heap.size = _; rw [alloc_sz]; rfl
theorem cv_bytes (w : World) (s : ByteArray) : SlBy (cvW w s) (.slice (some ⟨w.heap.size, 0, none⟩) s.size (cvC w s)) s := by
  refine ⟨_, _, rfl, fun h0 => ⟨_, 0, rfl, by rw [cv_size]; omega, fun i hi => ?_⟩⟩
  rw [Nat.zero_add]
  refine (Lib.cell_of_heap (heap_alloc_new w.drew _) i).trans ?_
  have hd : i < s.data.size := hi
  rw [bytesRow, Array.getElem?_append_left (by simpa using hd), Array.getElem?_map, Array.getElem?_eq_getElem hd]
  show some (Value.int .u8 ((s[i]'hi).toNat : Int)) = _
  rw [bt_eq s i hi]

theorem str_eq {a b : ByteArray} : a.toList = b.toList ↔ a = b := by
  rw [ByteArray.toList_eq, ByteArray.toList_eq]
  obtain ⟨⟨a⟩⟩ := a
  obtain ⟨⟨b⟩⟩ := b
  simp

/-- Where two texts begin to differ, and how much of the rest is the same. -/
def headOf (a b : ByteArray) : Nat := com (bt a) (bt b) (min a.size b.size) 0
def restOf (a b : ByteArray) : ByteArray := a.extract (headOf a b) a.size
def tailIn (a b : ByteArray) : Nat := com (fun i => bt a (a.size - 1 - i)) (fun i => bt b (b.size - 1 - i)) (min a.size b.size) 0
def tailOf (a b : ByteArray) : Nat := tailIn (a.extract (headOf a b) a.size) (b.extract (headOf a b) b.size)
def diffErr (a b : ByteArray) : Nat := if (textErr a).2 ≠ 0 then (textErr a).2 else (textErr b).2
def diffOf (a b : ByteArray) : Sp := ⟨(headOf a b : Int), ((a.size - tailOf a b : Nat) : Int), b.extract (headOf a b) (b.size - tailOf a b)⟩
def diff (a b : ByteArray) : List Sp := if diffErr a b = 0 then (if a.toList = b.toList then [] else [diffOf a b]) else []
theorem head_le (a b : ByteArray) : headOf a b ≤ a.size ∧ headOf a b ≤ b.size := by
  have := com_le (bt a) (bt b) (min a.size b.size) 0
  unfold headOf; omega
theorem tail_le (a b : ByteArray) : tailOf a b ≤ a.size - headOf a b ∧ tailOf a b ≤ b.size - headOf a b := by
  have h := head_le a b
  have := com_le (fun i => bt (a.extract (headOf a b) a.size) ((a.extract (headOf a b) a.size).size - 1 - i)) (fun i => bt (b.extract (headOf a b) b.size) ((b.extract (headOf a b) b.size).size - 1 - i)) (min (a.extract (headOf a b) a.size).size (b.extract (headOf a b) b.size).size) 0
  have h1 : (a.extract (headOf a b) a.size).size = a.size - headOf a b := by simp
  have h2 : (b.extract (headOf a b) b.size).size = b.size - headOf a b := by simp
  unfold tailOf tailIn
  omega

def DiffP (a b : ByteArray) (w : World) (e : Ending) (w' : World) : Prop :=
  ∃ v, e = .returned (.tuple #[v, .int .i64 (diffErr a b : Int)]) ∧ SlSp w' v (diff a b) ∧ (diff a b = [] → v = .slice none 0 0) ∧ Below w.heap.size w w'
theorem SlSp.nil (W : World) : SlSp W (.slice none 0 0) [] := ⟨none, 0, rfl, fun h => absurd h (by decide)⟩

end Go.Proofs.YthjnoboceibjjaaGreatDoor.Lx

namespace Go.Proofs.YthjnoboceibjjaaGreatDoor.Lx
open Go Go.Proofs Go.RowKit Go.Shelf

theorem com_comm (f g : Nat → Nat) : ∀ n k, com f g n k = com g f n k := by
  intro n
  induction n with
  | zero => intro k; rfl
  | succ n ih =>
    intro k
    rw [com, com]
    by_cases h : f k = g k
    · rw [if_pos h, if_pos h.symm, ih]
    · rw [if_neg h, if_neg (fun e => h e.symm)]
theorem com_same (f g : Nat → Nat) : ∀ n k j, k ≤ j → j < com f g n k → f j = g j := by
  intro n
  induction n with
  | zero => intro k j h1 h2; rw [com] at h2; omega
  | succ n ih =>
    intro k j h1 h2
    rw [com] at h2
    by_cases h : f k = g k
    · rw [if_pos h] at h2
      by_cases hj : j = k
      · rw [hj]; exact h
      · exact ih (k + 1) j (by omega) h2
    · rw [if_neg h] at h2; omega
theorem head_comm (a b : ByteArray) : headOf b a = headOf a b := by unfold headOf; rw [Nat.min_comm, com_comm]
theorem tailIn_comm (a b : ByteArray) : tailIn b a = tailIn a b := by unfold tailIn; rw [Nat.min_comm, com_comm]
theorem tail_comm (a b : ByteArray) : tailOf b a = tailOf a b := by unfold tailOf; rw [head_comm a b, tailIn_comm]

theorem bt_extract {s : ByteArray} {i j k : Nat} (h : k < j - i) : bt (s.extract i j) k = bt s (i + k) := by
  unfold bt
  rw [extract_list]
  congr 1
  simp only [List.getD_eq_getElem?_getD, List.getElem?_take, List.getElem?_drop, if_pos h]
theorem bt_list {s t : ByteArray} {i j : Nat} (hi : i < s.size) (hj : j < t.size) (h : bt s i = bt t j) : s.data.toList[i]? = t.data.toList[j]? := by
  have h1 : i < s.data.toList.length := by rw [len_list]; exact hi
  have h2 : j < t.data.toList.length := by rw [len_list]; exact hj
  unfold bt at h
  rw [List.getD_eq_getElem?_getD, List.getD_eq_getElem?_getD, List.getElem?_eq_getElem h1, List.getElem?_eq_getElem h2] at h
  rw [List.getElem?_eq_getElem h1, List.getElem?_eq_getElem h2]
  exact congrArg some (UInt8.toNat_inj.1 h)

theorem heads_same (a b : ByteArray) : a.data.toList.take (headOf a b) = b.data.toList.take (headOf a b) := by
  have hl := head_le a b
  apply List.ext_getElem?
  intro i
  rw [List.getElem?_take, List.getElem?_take]
  by_cases hi : i < headOf a b
  · rw [if_pos hi, if_pos hi]
    exact bt_list (by omega) (by omega) (com_same (bt a) (bt b) _ 0 i (Nat.zero_le _) hi)
  · rw [if_neg hi, if_neg hi]
theorem tails_same (a b : ByteArray) : a.data.toList.drop (a.size - tailOf a b) = b.data.toList.drop (b.size - tailOf a b) := by
  have hl := head_le a b
  have ht := tail_le a b
  have hsa : (a.extract (headOf a b) a.size).size = a.size - headOf a b := by simp
  have hsb : (b.extract (headOf a b) b.size).size = b.size - headOf a b := by simp
  apply List.ext_getElem?
  intro i
  rw [List.getElem?_drop, List.getElem?_drop]
  by_cases hi : i < tailOf a b
  · refine bt_list (by omega) (by omega) ?_
    have h1 := com_same (fun i => bt (a.extract (headOf a b) a.size) ((a.extract (headOf a b) a.size).size - 1 - i)) (fun i => bt (b.extract (headOf a b) b.size) ((b.extract (headOf a b) b.size).size - 1 - i)) _ 0 (tailOf a b - 1 - i) (Nat.zero_le _) (show tailOf a b - 1 - i < tailOf a b by omega)
    rw [hsa, hsb, bt_extract (by omega), bt_extract (by omega)] at h1
    rw [show a.size - tailOf a b + i = headOf a b + (a.size - headOf a b - 1 - (tailOf a b - 1 - i)) by omega, show b.size - tailOf a b + i = headOf a b + (b.size - headOf a b - 1 - (tailOf a b - 1 - i)) by omega]
    exact h1
  · rw [List.getElem?_eq_none (by rw [len_list]; omega), List.getElem?_eq_none (by rw [len_list]; omega)]

theorem text_ok {s : ByteArray} (h : (textErr s).2 = 0) : s.size ≤ 2500 ∧ bad s = none := by
  unfold textErr at h
  split at h
  · cases h
  · split at h
    · cases h
    · exact ⟨by omega, by assumption⟩
theorem diffErr_ok {a b : ByteArray} (h : diffErr a b = 0) : (textErr a).2 = 0 ∧ (textErr b).2 = 0 := by
  unfold diffErr at h
  split at h
  · contradiction
  · rename_i h1; exact ⟨by omega, h⟩
theorem diffErr_comm {a b : ByteArray} (h : diffErr a b = 0) : diffErr b a = 0 := by
  obtain ⟨h1, h2⟩ := diffErr_ok h
  unfold diffErr; rw [h2, h1]; rfl
theorem bad_extract {s : ByteArray} (h : bad s = none) (i j : Nat) (hj : j ≤ s.size) : bad (s.extract i j) = none := by
  refine bad_none _ fun k hk => ?_
  have hk' : k < j - i := by simp at hk; omega
  rw [bt_extract hk']
  exact ok_of_bad s h (i + k) (by omega)

theorem splErr_nil {s : ByteArray} (h : (textErr s).2 = 0) : splErr s [] = 0 := by
  have h1 := (text_ok h).1
  exact splErr_ok h (by decide) rfl rfl (by simp [eds, edsFrom, total]; omega)
theorem edited_nil (s : ByteArray) : edited s (eds s []) = s := by
  show (⟨(s.data.toList.drop 0).toArray⟩ : ByteArray) = s
  rw [List.drop_zero, Array.toArray_toList]

theorem eds_diff (a b : ByteArray) : eds a [diffOf a b] = [⟨diffOf a b, a.extract (headOf a b) (a.size - tailOf a b), (headOf a b : Int)⟩] := by
  simp [eds, edsFrom, diffOf]
theorem diff_total (a b : ByteArray) : (a.size : Int) + total (eds a [diffOf a b]) = b.size := by
  have hl := head_le a b
  have ht := tail_le a b
  rw [eds_diff]
  have h1 : (a.extract (headOf a b) (a.size - tailOf a b)).size = a.size - tailOf a b - headOf a b := by simp <;> omega
  have h2 : (b.extract (headOf a b) (b.size - tailOf a b)).size = b.size - tailOf a b - headOf a b := by simp <;> omega
  simp only [total, List.map_cons, List.map_nil, List.foldl_cons, List.foldl_nil, grow, diffOf, h1, h2]
  omega
theorem right_diff (a b : ByteArray) : right a.size [diffOf a b] = true := by
  have hl := head_le a b
  have ht := tail_le a b
  have h1 : ¬ ((headOf a b : Int) < 0) := by omega
  have h2 : ¬ (((a.size - tailOf a b : Nat) : Int) < (headOf a b : Int)) := by omega
  have h3 : ¬ ((a.size : Int) < ((a.size - tailOf a b : Nat) : Int)) := by omega
  show (!(decide ((headOf a b : Int) < 0) || (decide (((a.size - tailOf a b : Nat) : Int) < (headOf a b : Int)) || decide ((a.size : Int) < ((a.size - tailOf a b : Nat) : Int)))) && true) = true
  rw [decide_eq_false h1, decide_eq_false h2, decide_eq_false h3]
  rfl
theorem splErr_diff {a b : ByteArray} (h : diffErr a b = 0) : splErr a [diffOf a b] = 0 := by
  obtain ⟨h1, h2⟩ := diffErr_ok h
  refine splErr_ok h1 (by simp) (right_diff a b) ?_ (by rw [diff_total]; have := (text_ok h2).1; omega)
  have := bad_extract (text_ok h2).2 (headOf a b) (b.size - tailOf a b) (by omega)
  simp [diffOf, this]
theorem edited_diff (a b : ByteArray) : edited a (eds a [diffOf a b]) = b := by
  have hl := head_le a b
  have ht := tail_le a b
  rw [eds_diff]
  have h1 : editedFrom a 0 [⟨diffOf a b, a.extract (headOf a b) (a.size - tailOf a b), (headOf a b : Int)⟩] = b.data.toList := by
    simp only [editedFrom, diffOf, Int.toNat_natCast, List.drop_zero, Nat.sub_zero]
    rw [heads_same, tails_same, extract_list, List.append_assoc]
    have e1 : b.data.toList.drop (b.size - tailOf a b) = (b.data.toList.drop (headOf a b)).drop (b.size - tailOf a b - headOf a b) := by rw [List.drop_drop, show headOf a b + (b.size - tailOf a b - headOf a b) = b.size - tailOf a b by omega]
    rw [e1, List.take_append_drop, List.take_append_drop]
  rw [edited, h1, Array.toArray_toList]

theorem splErr_ofDiff {a b : ByteArray} (h : diffErr a b = 0) : splErr a (diff a b) = 0 := by
  unfold diff
  rw [if_pos h]
  split
  · exact splErr_nil (diffErr_ok h).1
  · exact splErr_diff h
theorem applied_ofDiff {a b : ByteArray} (h : diffErr a b = 0) : applied a (diff a b) = b := by
  unfold applied
  rw [if_pos (splErr_ofDiff h)]
  unfold diff
  rw [if_pos h]
  split
  · rename_i he; rw [edited_nil]; exact str_eq.1 he
  · exact edited_diff a b
theorem undone_ofDiff {a b : ByteArray} (h : diffErr a b = 0) : undone a (diff a b) = diff b a := by
  have hl := head_le a b
  have ht := tail_le a b
  unfold undone
  rw [if_pos (splErr_ofDiff h)]
  unfold diff
  rw [if_pos h, if_pos (diffErr_comm h)]
  by_cases he : a.toList = b.toList
  · rw [if_pos he, if_pos he.symm]; rfl
  · rw [if_neg he, if_neg (fun e => he e.symm), eds_diff]
    have h2 : (b.extract (headOf a b) (b.size - tailOf a b)).size = b.size - tailOf a b - headOf a b := by simp <;> omega
    simp only [List.map_cons, List.map_nil, backOf, diffOf, head_comm a b, tail_comm a b, h2]
    rw [show ((headOf a b : Nat) : Int) + ((b.size - tailOf a b - headOf a b : Nat) : Int) = ((b.size - tailOf a b : Nat) : Int) by omega]
theorem diff_small (a b : ByteArray) (hs : b.size ≤ 100000) : ∀ x ∈ diff a b, x.text.size ≤ 100000 := by
  intro x hx
  unfold diff at hx
  split at hx
  · split at hx
    · cases hx
    · rcases List.mem_singleton.1 hx with rfl
      simp [diffOf]; omega
  · cases hx
theorem diff_short (a b : ByteArray) : (diff a b).length ≤ 1 := by
  unfold diff
  split
  · split <;> simp
  · simp
theorem diff_len (a b : ByteArray) (h : diffErr a b = 0) : (diff b a).length = (diff a b).length := by
  unfold diff
  rw [if_pos h, if_pos (diffErr_comm h)]
  by_cases he : a.toList = b.toList
  · rw [if_pos he, if_pos he.symm]
  · rw [if_neg he, if_neg (fun e => he e.symm)]; rfl

end Go.Proofs.YthjnoboceibjjaaGreatDoor.Lx

namespace Go.Proofs.YthjnoboceibjjaaGreatDoor.Lx
open Go Go.Proofs Go.RowKit Go.Shelf

theorem sp_fields : Tryz.prog.underlying 40 = some (.struct (Tryz.prog.fieldsOf 40)) := by kernel_rfl
theorem sp_stood : Tryz.prog.stoodInHeld 40 = false := by kernel_rfl
theorem sp_list : (Tryz.prog.fieldsOf 40).toList = [⟨"From", 3, 0, false, "", "", 0⟩, ⟨"To", 3, 1, false, "", "", 8⟩, ⟨"Text", 9, 2, false, "", "", 16⟩] := by kernel_rfl
theorem sp_equal (x : Sp) (W : World) : (Op.equalIn 10000 40 (.agg #[.int .i64 x.lo, .int .i64 x.hi, .string x.text]) (.agg #[.int .i64 x.lo, .int .i64 x.hi, .string x.text])).run Tryz.prog W = .ok true W := by
  rw [run_equalIn_agg W 9999 _ _ _ sp_fields sp_stood, sp_list]
  have u9 : Tryz.prog.underlying 9 = some .string := Tryz.underlying9
  have u3 : Tryz.prog.underlying 3 = some (.int .i64) := Tryz.underlying3
  simp [Op.eqFields, go_sem]

theorem SlSp.news {W : World} {v : Value} {l : List Sp} (h : SlSp W v l) (h0 : 0 < l.length) : ∃ ad c, v = .slice (some ad) l.length c ∧ ∀ j u, (spCells l)[j]? = some u → W.cell? (ad.add j) = some u := by
  obtain ⟨A, c, rfl, hA⟩ := h
  obtain ⟨b, off, rfl, hlt, hc⟩ := hA h0
  refine ⟨_, c, rfl, fun j u hu => ?_⟩
  rw [Lib.addr_add]
  have hlen : (spCells l).length = l.length * 3 := by
    have : ∀ l : List Sp, (spCells l).length = l.length * 3 := by
      intro l
      induction l with
      | nil => rfl
      | cons x r ih => show (spVals x ++ spCells r).length = _; rw [List.length_append, ih]; simp [spVals]; omega
    exact this l
  have hj : j < (spCells l).length := (List.getElem?_eq_some_iff.1 hu).1
  have hi : j / 3 < l.length := by omega
  obtain ⟨q1, q2, q3⟩ := hc (j / 3) _ (List.getElem?_eq_getElem hi)
  have hat := sp_at l (j / 3) _ (List.getElem?_eq_getElem hi)
  rcases (show j = j / 3 * 3 + 0 ∨ j = j / 3 * 3 + 1 ∨ j = j / 3 * 3 + 2 by omega) with h | h | h
  · have := hat 0 _ rfl
    rw [← h, hu] at this
    cases this
    rw [show off + j = off + j / 3 * 3 by omega]; exact q1
  · have := hat 1 _ rfl
    rw [← h, hu] at this
    cases this
    rw [show off + j = off + j / 3 * 3 + 1 by omega]; exact q2
  · have := hat 2 _ rfl
    rw [← h, hu] at this
    cases this
    rw [show off + j = off + j / 3 * 3 + 2 by omega]; exact q3
theorem spCells_one (l : List Sp) : ∀ u ∈ spCells l, u.oneCell' = true := by
  intro u hu
  simp only [spCells, List.mem_flatMap] at hu
  obtain ⟨x, _, hx⟩ := hu
  simp [spVals] at hx
  rcases hx with rfl | rfl | rfl <;> rfl
theorem spCells_len : ∀ l : List Sp, (spCells l).length = l.length * 3 := by
  intro l
  induction l with
  | nil => rfl
  | cons x r ih => show (spVals x ++ spCells r).length = _; rw [List.length_append, ih]; simp [spVals]; omega
theorem below_new {w w' : World} (h : w.grownBy w' (Value.ownBlock (.slice none 0 0))) : Below w.heap.size w w' :=
  (Below.refl w.heap.size w).grown h (Nat.le_refl _) (fun k hk => by simp [Value.ownBlock] at hk)

/-- The words of the contracts that the law's walk takes. -/
def AwakeP (w : World) (e : Ending) (w' : World) : Prop := e = .returned (.bool true) ∧ Below w.heap.size w w'

end Go.Proofs.YthjnoboceibjjaaGreatDoor.Lx

namespace Go.Proofs.YthjnoboceibjjaaGreatDoor.Lx
open Go Go.Proofs Go.RowKit Go.Shelf

theorem com_congr (f g f' g' : Nat → Nat) : ∀ n k, (∀ i, k ≤ i → i < k + n → f i = f' i ∧ g i = g' i) → com f g n k = com f' g' n k := by
  intro n
  induction n with
  | zero => intro k _; rfl
  | succ n ih =>
    intro k h
    obtain ⟨h1, h2⟩ := h k (Nat.le_refl _) (by omega)
    rw [com, com, h1, h2, ih (k + 1) (fun i hi1 hi2 => h i (by omega) (by omega))]
def tailAt (a b : ByteArray) : Nat := com (fun i => bt a (a.size - 1 - i)) (fun i => bt b (b.size - 1 - i)) (min (a.size - headOf a b) (b.size - headOf a b)) 0
theorem tail_at (a b : ByteArray) : tailOf a b = tailAt a b := by
  have hl := head_le a b
  have hsa : (a.extract (headOf a b) a.size).size = a.size - headOf a b := by simp
  have hsb : (b.extract (headOf a b) b.size).size = b.size - headOf a b := by simp
  unfold tailOf tailIn tailAt
  rw [hsa, hsb]
  refine com_congr _ _ _ _ _ _ fun i _ hi => ?_
  rw [bt_extract (by omega), bt_extract (by omega)]
  exact ⟨by rw [show headOf a b + (a.size - headOf a b - 1 - i) = a.size - 1 - i by omega], by rw [show headOf a b + (b.size - headOf a b - 1 - i) = b.size - 1 - i by omega]⟩

end Go.Proofs.YthjnoboceibjjaaGreatDoor.Lx

namespace Go.Proofs.YthjnoboceibjjaaGreatDoor.Lx
open Go Go.Proofs Go.RowKit Go.Shelf

end Go.Proofs.YthjnoboceibjjaaGreatDoor.Lx

namespace Go.Proofs.YthjnoboceibjjaaGreatDoor.Lx
open Go Go.Proofs Go.RowKit Go.Shelf

/-- Where a byte at a place goes, to being the place as it is reckoned so far; none: it is taken out. -/
def mvFrom (at_ : Int) : Int → List Ed → Option Int
  | tt, [] => some tt
  | tt, x :: r => if x.sp.hi ≤ at_ then mvFrom at_ (tt + grow x) r else if x.sp.lo ≤ at_ then none else mvFrom at_ tt r
theorem mv_nil (at_ tt : Int) : mvFrom at_ tt [] = some tt := rfl
theorem mv_cons (at_ tt : Int) (x : Ed) (r : List Ed) : mvFrom at_ tt (x :: r) = if x.sp.hi ≤ at_ then mvFrom at_ (tt + grow x) r else if x.sp.lo ≤ at_ then none else mvFrom at_ tt r := rfl
theorem ed_nil (s : ByteArray) (g : Int) : edsFrom s g [] = [] := rfl
theorem ed_cons (s : ByteArray) (g : Int) (x : Sp) (r : List Sp) : edsFrom s g (x :: r) = ⟨x, s.extract x.lo.toNat x.hi.toNat, x.lo + g⟩ :: edsFrom s (g + ((x.text.size : Int) - ((s.extract x.lo.toNat x.hi.toNat).size : Int))) r := rfl
theorem back_mk (x : Sp) (o : ByteArray) (p : Int) : backOf ⟨x, o, p⟩ = ⟨p, p + x.text.size, o⟩ := rfl
theorem edt_nil (s : ByteArray) (a : Nat) : editedFrom s a [] = s.data.toList.drop a := rfl
theorem edt_cons (s : ByteArray) (a : Nat) (x : Sp) (o : ByteArray) (p : Int) (r : List Ed) : editedFrom s a (⟨x, o, p⟩ :: r) = (s.data.toList.drop a).take (x.lo.toNat - a) ++ x.text.data.toList ++ editedFrom s x.hi.toNat r := rfl
theorem grow_mk (x : Sp) (o : ByteArray) (p : Int) : grow ⟨x, o, p⟩ = (x.text.size : Int) - (o.size : Int) := rfl
theorem rf_cons (n : Nat) (a lo hi : Int) (t : ByteArray) (r : List Sp) : rightFrom n a (⟨lo, hi, t⟩ :: r) = (!(decide (lo < a) || (decide (hi < lo) || decide ((n : Int) < hi))) && rightFrom n hi r) := rfl
/-- Where a byte goes, and the error. -/
def moved (s : ByteArray) (l : List Sp) (at_ : Int) : Int × Nat :=
  if splErr s l ≠ 0 then (0, splErr s l) else if at_ < 0 ∨ (s.size : Int) < at_ then (0, 3) else match mvFrom at_ at_ (eds s l) with
    | some n => (n, 0)
    | none => (0, 7)

/-- Behind a place all splices lie: the place stays. -/
theorem mv_far {s : ByteArray} {n : Nat} (at_ : Int) : ∀ (l : List Sp) (a g tt : Int), rightFrom n a l = true → at_ < a → mvFrom at_ tt (edsFrom s g l) = some tt := by
  intro l
  induction l with
  | nil => intro a g tt _ _; rfl
  | cons x r ih =>
    intro a g tt hr ha
    obtain ⟨q1, q2, q3, q4⟩ := rightFrom_cons hr
    rw [ed_cons, mv_cons, if_neg (by show ¬ x.hi ≤ at_; omega), if_neg (by show ¬ x.lo ≤ at_; omega)]
    exact ih x.hi _ tt q4 (by omega)

theorem drop_len {α} {l m : List α} {n : Nat} (h : l.drop n = m) : m.length = l.length - n := by rw [← h, List.length_drop]

/-- What a step of the way back needs. -/
theorem back_step {s t : ByteArray} {x : Sp} {r : List Sp} {a A : Nat} {g : Int} (hA : (A : Int) = a + g) (_has : a ≤ s.size) (hat : A ≤ t.size) (q1 : (a : Int) ≤ x.lo) (q2 : x.lo ≤ x.hi) (q3 : x.hi ≤ s.size)
    (hd : t.data.toList.drop A = editedFrom s a (edsFrom s g (x :: r))) :
    ∃ lo hi A' : Nat, x.lo = lo ∧ x.hi = hi ∧ a ≤ lo ∧ lo ≤ hi ∧ hi ≤ s.size ∧ (A' : Int) = hi + (g + ((x.text.size : Int) - ((s.extract x.lo.toNat x.hi.toNat).size : Int))) ∧ A' = A + (lo - a) + x.text.size ∧ A' ≤ t.size ∧
      t.data.toList.drop A' = editedFrom s hi (edsFrom s (g + ((x.text.size : Int) - ((s.extract x.lo.toNat x.hi.toNat).size : Int))) r) ∧ (s.extract x.lo.toNat x.hi.toNat).size = hi - lo ∧
      (t.data.toList.drop (A + (lo - a))).take x.text.size = x.text.data.toList ∧ (t.data.toList.drop A).take (lo - a) = (s.data.toList.drop a).take (lo - a) := by
  obtain ⟨lo, hlo⟩ := Int.eq_ofNat_of_zero_le (show 0 ≤ x.lo by omega)
  obtain ⟨hi, hhi⟩ := Int.eq_ofNat_of_zero_le (show 0 ≤ x.hi by omega)
  have hsz : (s.extract x.lo.toNat x.hi.toNat).size = hi - lo := by rw [hlo, hhi]; simp; omega
  rw [ed_cons, edt_cons] at hd
  rw [hsz, hhi, hlo, Int.toNat_natCast, Int.toNat_natCast] at hd
  rw [hsz]
  have l1 : ((s.data.toList.drop a).take (lo - a)).length = lo - a := by rw [List.length_take, List.length_drop, len_list]; omega
  have l2 : x.text.data.toList.length = x.text.size := len_list _
  have hlen := drop_len hd
  rw [len_list, List.length_append, List.length_append, l1, l2] at hlen
  have d1 : t.data.toList.drop (A + (lo - a)) = x.text.data.toList ++ editedFrom s hi (edsFrom s (g + ((x.text.size : Int) - ((hi - lo : Nat) : Int))) r) := by
    rw [← List.drop_drop, hd, List.append_assoc, List.drop_append_of_le_length (by omega), List.drop_of_length_le (by omega), List.nil_append]
  refine ⟨lo, hi, A + (lo - a) + x.text.size, hlo, hhi, by omega, by omega, by omega, by omega, rfl, by omega, ?_, rfl, ?_, ?_⟩
  · rw [← List.drop_drop, d1, List.drop_append_of_le_length (by omega), List.drop_of_length_le (by omega), List.nil_append]
  · rw [d1, List.take_append_of_le_length (by omega), List.take_of_length_le (by omega)]
  · rw [hd, List.append_assoc, List.take_append_of_le_length (by omega), List.take_of_length_le (by omega)]

/-- The splices that lead back are right for the text after splices, and lead back. -/
theorem back_from (s t : ByteArray) : ∀ (l : List Sp) (a A : Nat) (g : Int), (A : Int) = a + g → a ≤ s.size → A ≤ t.size → rightFrom s.size a l = true → t.data.toList.drop A = editedFrom s a (edsFrom s g l) →
    rightFrom t.size A ((edsFrom s g l).map backOf) = true ∧ editedFrom t A (edsFrom t (-g) ((edsFrom s g l).map backOf)) = s.data.toList.drop a := by
  intro l
  induction l with
  | nil => intro a A g _ _ _ _ hd; exact ⟨rfl, hd⟩
  | cons x r ih =>
    intro a A g hA has hat hr hd
    obtain ⟨q1, q2, q3, q4⟩ := rightFrom_cons hr
    obtain ⟨lo, hi, A', hlo, hhi, p1, p2, p3, hA', hAA, hAt, hd', hsz, ht, hp⟩ := back_step hA has hat q1 q2 q3 hd
    have hr' : rightFrom s.size (hi : Int) r = true := by rw [← hhi]; exact q4
    obtain ⟨i1, i2⟩ := ih hi A' _ hA' p3 hAt hr' hd'
    have e1 : x.lo + g = ((A + (lo - a) : Nat) : Int) := by omega
    have e2 : x.lo + g + (x.text.size : Int) = (A' : Int) := by omega
    have hex : (t.extract (A + (lo - a)) A').size = x.text.size := by simp; omega
    constructor
    · rw [ed_cons, List.map_cons, back_mk, rf_cons]
      rw [e2, decide_eq_false (by omega), decide_eq_false (by omega), decide_eq_false (by omega), i1]
      rfl
    · rw [ed_cons, List.map_cons, back_mk, ed_cons, edt_cons]
      dsimp only
      rw [e2, e1, Int.toNat_natCast, Int.toNat_natCast, hex]
      have e3 : -g + ((((s.extract x.lo.toNat x.hi.toNat).size : Nat) : Int) - (x.text.size : Int)) = -(g + ((x.text.size : Int) - ((s.extract x.lo.toNat x.hi.toNat).size : Int))) := by omega
      rw [e3, i2, show A + (lo - a) - A = lo - a by omega, hp, extract_list, hlo, hhi, Int.toNat_natCast, Int.toNat_natCast]
      have e4 : s.data.toList.drop hi = (s.data.toList.drop lo).drop (hi - lo) := by rw [List.drop_drop, show lo + (hi - lo) = hi by omega]
      have e5 : s.data.toList.drop lo = (s.data.toList.drop a).drop (lo - a) := by rw [List.drop_drop, show a + (lo - a) = lo by omega]
      rw [e4, List.append_assoc, List.take_append_drop, e5, List.take_append_drop]

/-- A byte that stays is the same at its new place, and goes back. -/
theorem mv_back (s t : ByteArray) (at_ : Nat) (hat_ : at_ < s.size) : ∀ (l : List Sp) (a A : Nat) (g : Int) (n : Int), (A : Int) = a + g → a ≤ at_ → A ≤ t.size → rightFrom s.size a l = true → t.data.toList.drop A = editedFrom s a (edsFrom s g l) →
    mvFrom at_ (at_ + g) (edsFrom s g l) = some n → (A : Int) ≤ n ∧ n < t.size ∧ t.data.toList[n.toNat]? = s.data.toList[at_]? ∧ mvFrom n (n - g) (edsFrom t (-g) ((edsFrom s g l).map backOf)) = some (at_ : Int) := by
  intro l
  induction l with
  | nil =>
    intro a A g n hA ha hat _ hd hm
    rw [ed_nil, mv_nil] at hm
    rw [ed_nil, edt_nil] at hd
    injection hm with hm
    have hlen := drop_len hd
    rw [List.length_drop, len_list, len_list] at hlen
    obtain ⟨k, rfl⟩ := Int.eq_ofNat_of_zero_le (show 0 ≤ n by omega)
    refine ⟨by omega, by omega, ?_, ?_⟩
    · rw [Int.toNat_natCast, show k = A + (at_ - a) by omega, ← List.getElem?_drop, hd, List.getElem?_drop, show a + (at_ - a) = at_ by omega]
    · rw [ed_nil, List.map_nil, ed_nil, mv_nil]; exact congrArg some (by omega)
  | cons x r ih =>
    intro a A g n hA ha hat hr hd hm
    obtain ⟨q1, q2, q3, q4⟩ := rightFrom_cons hr
    obtain ⟨lo, hi, A', hlo, hhi, p1, p2, p3, hA', hAA, hAt, hd', hsz, ht, hp⟩ := back_step hA (by omega) hat q1 q2 q3 hd
    have hr' : rightFrom s.size (hi : Int) r = true := by rw [← hhi]; exact q4
    have e1 : x.lo + g = ((A + (lo - a) : Nat) : Int) := by omega
    have e2 : x.lo + g + (x.text.size : Int) = (A' : Int) := by omega
    have hex : (t.extract (A + (lo - a)) A').size = x.text.size := by simp; omega
    have e3 : -g + ((((s.extract x.lo.toNat x.hi.toNat).size : Nat) : Int) - (x.text.size : Int)) = -(g + ((x.text.size : Int) - ((s.extract x.lo.toNat x.hi.toNat).size : Int))) := by omega
    have hbr := (back_from s t r hi A' _ hA' p3 hAt hr' hd').1
    rw [ed_cons, mv_cons, grow_mk] at hm
    dsimp only at hm
    rw [ed_cons, List.map_cons, back_mk, ed_cons, mv_cons, grow_mk]
    dsimp only
    rw [e2, e1, Int.toNat_natCast, Int.toNat_natCast, hex]
    rw [e3]
    by_cases h1 : x.hi ≤ (at_ : Int)
    · rw [if_pos h1] at hm
      obtain ⟨i1, i2, i3, i4⟩ := ih hi A' _ n hA' (by omega) hAt hr' hd' (by rw [← hm]; congr 1; omega)
      refine ⟨by omega, i2, i3, ?_⟩
      rw [if_pos i1]
      rw [show n - g + ((((s.extract x.lo.toNat x.hi.toNat).size : Nat) : Int) - (x.text.size : Int)) = n - (g + ((x.text.size : Int) - ((s.extract x.lo.toNat x.hi.toNat).size : Int))) by omega]
      exact i4
    · rw [if_neg h1] at hm
      by_cases h2 : x.lo ≤ (at_ : Int)
      · rw [if_pos h2] at hm; cases hm
      · rw [if_neg h2, mv_far (at_ : Int) r x.hi _ _ q4 (by omega)] at hm
        injection hm with hm
        obtain ⟨k, rfl⟩ := Int.eq_ofNat_of_zero_le (show 0 ≤ n by omega)
        have hk : k = A + (at_ - a) := by omega
        refine ⟨by omega, by omega, ?_, ?_⟩
        · have hg := congrArg (fun l : List UInt8 => l[at_ - a]?) hp
          simp only [List.getElem?_take, List.getElem?_drop, if_pos (show at_ - a < lo - a by omega)] at hg
          rw [Int.toNat_natCast, hk, hg, show a + (at_ - a) = at_ by omega]
        · rw [if_neg (by omega), if_neg (by omega), mv_far (k : Int) _ (A' : Int) _ _ hbr (by omega)]
          exact congrArg some (by omega)

/-- Places stay in order. -/
theorem mv_rise (s t : ByteArray) (i j : Nat) (hij : i < j) (hj : j < s.size) : ∀ (l : List Sp) (a A : Nat) (g : Int) (m n : Int), (A : Int) = a + g → a ≤ i → A ≤ t.size → rightFrom s.size a l = true → t.data.toList.drop A = editedFrom s a (edsFrom s g l) →
    mvFrom i (i + g) (edsFrom s g l) = some m → mvFrom j (j + g) (edsFrom s g l) = some n → m < n := by
  intro l
  induction l with
  | nil =>
    intro a A g m n _ _ _ _ _ h1 h2
    rw [ed_nil, mv_nil] at h1 h2
    injection h1 with h1; injection h2 with h2
    omega
  | cons x r ih =>
    intro a A g m n hA ha hat hr hd hm hn
    obtain ⟨q1, q2, q3, q4⟩ := rightFrom_cons hr
    obtain ⟨lo, hi, A', hlo, hhi, p1, p2, p3, hA', hAA, hAt, hd', hsz, ht, hp⟩ := back_step hA (by omega) hat q1 q2 q3 hd
    have hr' : rightFrom s.size (hi : Int) r = true := by rw [← hhi]; exact q4
    rw [ed_cons, mv_cons, grow_mk] at hm hn
    dsimp only at hm hn
    by_cases h1 : x.hi ≤ (i : Int)
    · rw [if_pos h1] at hm
      rw [if_pos (by omega)] at hn
      exact ih hi A' _ m n hA' (by omega) hAt hr' hd' (by rw [← hm]; congr 1; omega) (by rw [← hn]; congr 1; omega)
    · rw [if_neg h1] at hm
      by_cases h2 : x.lo ≤ (i : Int)
      · rw [if_pos h2] at hm; cases hm
      · rw [if_neg h2, mv_far (i : Int) r x.hi _ _ q4 (by omega)] at hm
        injection hm with hm
        by_cases h3 : x.hi ≤ (j : Int)
        · rw [if_pos h3] at hn
          have := (mv_back s t j hj r hi A' _ n hA' (by omega) hAt hr' hd' (by rw [← hn]; congr 1; omega)).1
          omega
        · rw [if_neg h3] at hn
          by_cases h4 : x.lo ≤ (j : Int)
          · rw [if_pos h4] at hn; cases hn
          · rw [if_neg h4, mv_far (j : Int) r x.hi _ _ q4 (by omega)] at hn
            injection hn with hn
            omega

theorem splErr_parts {s : ByteArray} {l : List Sp} (h : splErr s l = 0) : (textErr s).2 = 0 ∧ l.length ≤ 40 ∧ right s.size l = true ∧ l.any (fun x => (bad x.text).isSome) = false ∧ (s.size : Int) + total (eds s l) ≤ 2500 := by
  unfold splErr at h
  split at h
  · contradiction
  · rename_i h1
    split at h
    · cases h
    · rename_i h2
      split at h
      · cases h
      · rename_i h3
        split at h
        · cases h
        · rename_i h4
          split at h
          · cases h
          · rename_i h5
            exact ⟨by omega, by omega, by simpa using h3, by simpa using h4, by omega⟩

theorem total_cons (x : Ed) (l : List Ed) : total (x :: l) = grow x + total l := by
  have hf : ∀ (m : List Int) (a b : Int), m.foldl (· + ·) (a + b) = a + m.foldl (· + ·) b := by
    intro m
    induction m with
    | nil => intro a b; rfl
    | cons y m ih => intro a b; rw [List.foldl_cons, List.foldl_cons, Int.add_assoc, ih]
  simp only [total, List.map_cons, List.foldl_cons]
  rw [show (0 : Int) + grow x = grow x + 0 by omega, hf]

/-- How long the text after splices is. -/
theorem edited_len (s : ByteArray) : ∀ (l : List Sp) (a : Nat) (g : Int), a ≤ s.size → rightFrom s.size a l = true → ((editedFrom s a (edsFrom s g l)).length : Int) = (s.size : Int) - a + total (edsFrom s g l) := by
  intro l
  induction l with
  | nil => intro a g ha _; rw [ed_nil, edt_nil, List.length_drop, len_list]; simp [total]; omega
  | cons x r ih =>
    intro a g ha hr
    obtain ⟨q1, q2, q3, q4⟩ := rightFrom_cons hr
    obtain ⟨lo, hlo⟩ := Int.eq_ofNat_of_zero_le (show 0 ≤ x.lo by omega)
    obtain ⟨hi, hhi⟩ := Int.eq_ofNat_of_zero_le (show 0 ≤ x.hi by omega)
    have hsz : (s.extract x.lo.toNat x.hi.toNat).size = hi - lo := by rw [hlo, hhi]; simp; omega
    rw [ed_cons, edt_cons, total_cons, grow_mk]
    rw [List.length_append, List.length_append, List.length_take, List.length_drop, len_list, len_list, hlo, hhi, Int.toNat_natCast, Int.toNat_natCast]
    have := ih hi (g + ((x.text.size : Int) - ((s.extract x.lo.toNat x.hi.toNat).size : Int))) (by omega) (by rw [← hhi]; exact q4)
    rw [hlo, hhi, Int.toNat_natCast, Int.toNat_natCast] at this hsz
    have h5 : ((s.extract lo hi).size : Int) = (hi : Int) - lo := by rw [hsz]; omega
    rw [h5] at this ⊢
    omega

/-- A list of bytes all of which stand in texts. -/
def fineL (l : List UInt8) : Prop := ∀ c ∈ l, okb c.toNat = true
theorem fine_of {s : ByteArray} (h : bad s = none) : fineL s.data.toList := by
  intro c hc
  obtain ⟨i, hi, rfl⟩ := List.mem_iff_getElem.1 hc
  have := ok_of_bad s h i (by rw [← len_list]; exact hi)
  unfold bt at this
  rw [List.getD_eq_getElem?_getD, List.getElem?_eq_getElem hi] at this
  exact this
theorem of_fine {s : ByteArray} (h : fineL s.data.toList) : bad s = none := by
  refine bad_none s fun j hj => ?_
  have hj' : j < s.data.toList.length := by rw [len_list]; exact hj
  unfold bt
  rw [List.getD_eq_getElem?_getD, List.getElem?_eq_getElem hj']
  exact h _ (List.getElem_mem hj')
theorem fine_edited (s : ByteArray) (hs : bad s = none) : ∀ (l : List Sp) (a : Nat) (g : Int), (∀ x ∈ l, bad x.text = none) → fineL (editedFrom s a (edsFrom s g l)) := by
  intro l
  induction l with
  | nil => intro a g _ c hc; exact fine_of hs c (List.mem_of_mem_drop hc)
  | cons x r ih =>
    intro a g hl c hc
    rw [ed_cons, edt_cons] at hc
    rcases List.mem_append.1 hc with hc | hc
    · rcases List.mem_append.1 hc with hc | hc
      · exact fine_of hs c (List.mem_of_mem_drop (List.mem_of_mem_take hc))
      · exact fine_of (hl x List.mem_cons_self) c hc
    · exact ih _ _ (fun y hy => hl y (List.mem_cons_of_mem _ hy)) c hc

/-- The text after splices that are right is a text. -/
theorem text_after {s : ByteArray} {l : List Sp} (h : splErr s l = 0) : (textErr (applied s l)).2 = 0 ∧ (applied s l).data.toList = editedFrom s 0 (eds s l) ∧ ((applied s l).size : Int) = s.size + total (eds s l) := by
  obtain ⟨h1, h2, h3, h4, h5⟩ := splErr_parts h
  have hap : (applied s l).data.toList = editedFrom s 0 (eds s l) := by unfold applied; rw [if_pos h]; rfl
  have hlen := edited_len s l 0 0 (Nat.zero_le _) h3
  have hsz : ((applied s l).size : Int) = s.size + total (eds s l) := by
    rw [← len_list, hap]
    show ((editedFrom s 0 (edsFrom s 0 l)).length : Int) = s.size + total (edsFrom s 0 l)
    rw [hlen]; omega
  refine ⟨?_, hap, hsz⟩
  have hb : bad (applied s l) = none := by
    refine of_fine ?_
    rw [hap]
    refine fine_edited s (text_ok h1).2 l 0 0 fun x hx => ?_
    have := List.any_eq_false.1 h4 x hx
    simpa using this
  unfold textErr
  rw [if_neg (by omega), hb]

theorem old_bad {s : ByteArray} (hs : bad s = none) : ∀ (l : List Sp) (g : Int), ∀ x ∈ edsFrom s g l, bad x.old = none := by
  intro l
  induction l with
  | nil => intro g x hx; simp [edsFrom] at hx
  | cons y r ih =>
    intro g x hx
    rw [edsFrom] at hx
    rcases List.mem_cons.1 hx with rfl | hx
    · refine of_fine fun c hc => ?_
      rw [extract_list] at hc
      exact fine_of hs c (List.mem_of_mem_drop (List.mem_of_mem_take hc))
    · exact ih _ x hx

/-- Splices, and then those that lead back. -/
theorem undone_back {s : ByteArray} {l : List Sp} (h : splErr s l = 0) : splErr (applied s l) (undone s l) = 0 ∧ applied (applied s l) (undone s l) = s := by
  obtain ⟨h1, h2, h3, h4, h5⟩ := splErr_parts h
  obtain ⟨t1, t2, t3⟩ := text_after h
  have hun : undone s l = (edsFrom s 0 l).map backOf := by unfold undone; rw [if_pos h]; rfl
  obtain ⟨b1, b2⟩ := back_from s (applied s l) l 0 0 0 (by omega) (Nat.zero_le _) (Nat.zero_le _) h3 t2
  have b2' : editedFrom (applied s l) 0 (eds (applied s l) (undone s l)) = s.data.toList := by
    rw [hun]; exact b2
  have hr : right (applied s l).size (undone s l) = true := by rw [hun]; exact b1
  have hsz := edited_len (applied s l) (undone s l) 0 0 (Nat.zero_le _) hr
  have htot : ((applied s l).size : Int) + total (eds (applied s l) (undone s l)) = s.size := by
    have e : (editedFrom (applied s l) 0 (edsFrom (applied s l) 0 (undone s l))).length = s.size := by
      rw [← len_list]; exact congrArg List.length b2'
    rw [e] at hsz
    show ((applied s l).size : Int) + total (edsFrom (applied s l) 0 (undone s l)) = s.size
    omega
  have hok : splErr (applied s l) (undone s l) = 0 := by
    refine splErr_ok t1 ?_ hr ?_ (by rw [htot]; have := (text_ok h1).1; omega)
    · rw [hun, List.length_map, edsFrom_length]; omega
    · rw [hun]
      refine List.any_eq_false.2 fun x hx => ?_
      obtain ⟨y, hy, rfl⟩ := List.mem_map.1 hx
      have := old_bad (text_ok h1).2 l 0 y hy
      simp [backOf, this]
  refine ⟨hok, ?_⟩
  have e : (applied (applied s l) (undone s l)).data.toList = s.data.toList := by
    rw [show applied (applied s l) (undone s l) = edited (applied s l) (eds (applied s l) (undone s l)) from if_pos hok]
    exact b2'
  obtain ⟨⟨x⟩⟩ := s
  generalize applied (applied _ l) (undone _ l) = z at e
  obtain ⟨⟨y⟩⟩ := z
  simpa using e
theorem undone_len {s : ByteArray} {l : List Sp} (h : splErr s l = 0) : (undone s l).length = l.length := by
  unfold undone; rw [if_pos h, List.length_map]; exact eds_length s l

/-- A byte that stays. -/
theorem moved_stays {s : ByteArray} {l : List Sp} (h : splErr s l = 0) (i : Nat) (hi : i < s.size) :
    moved s l i = (0, 7) ∨ ∃ n : Nat, moved s l i = ((n : Int), 0) ∧ n < (applied s l).size ∧ (applied s l).data.toList[n]? = s.data.toList[i]? ∧ moved (applied s l) (undone s l) n = ((i : Int), 0) := by
  obtain ⟨h1, h2, h3, h4, h5⟩ := splErr_parts h
  obtain ⟨t1, t2, t3⟩ := text_after h
  have hun : undone s l = (edsFrom s 0 l).map backOf := by unfold undone; rw [if_pos h]; rfl
  have hm : moved s l i = match mvFrom i i (edsFrom s 0 l) with | some n => (n, 0) | none => (0, 7) := by
    unfold moved; rw [if_neg (by omega), if_neg (by omega)]; rfl
  rw [hm]
  cases hmv : mvFrom i i (edsFrom s 0 l) with
  | none => exact .inl rfl
  | some n =>
    obtain ⟨b1, b2, b3, b4⟩ := mv_back s (applied s l) i hi l 0 0 0 n (by omega) (Nat.zero_le _) (Nat.zero_le _) h3 t2 (by rw [Int.add_zero]; exact hmv)
    obtain ⟨k, rfl⟩ := Int.eq_ofNat_of_zero_le (show 0 ≤ n by omega)
    refine .inr ⟨k, rfl, by omega, by simpa using b3, ?_⟩
    unfold moved
    rw [if_neg (by rw [(undone_back h).1]; omega), if_neg (by omega), hun]
    have e : mvFrom (k : Int) (k : Int) (eds (applied s l) ((edsFrom s 0 l).map backOf)) = some (i : Int) := by have b5 := b4; rw [Int.sub_zero, Int.neg_zero] at b5; exact b5
    rw [e]
theorem moved_rise {s : ByteArray} {l : List Sp} (h : splErr s l = 0) {i j m n : Nat} (hij : i < j) (hj : j < s.size) (hm : moved s l i = ((m : Int), 0)) (hn : moved s l j = ((n : Int), 0)) : m < n := by
  obtain ⟨h1, h2, h3, h4, h5⟩ := splErr_parts h
  obtain ⟨t1, t2, t3⟩ := text_after h
  have key : ∀ (i m : Nat), i < s.size → moved s l i = ((m : Int), 0) → mvFrom i (i + 0) (edsFrom s 0 l) = some (m : Int) := by
    intro i m hi hm
    have hm' : moved s l i = match mvFrom i i (edsFrom s 0 l) with | some n => (n, 0) | none => (0, 7) := by
      unfold moved; rw [if_neg (by omega), if_neg (by omega)]; rfl
    rw [hm'] at hm
    rw [Int.add_zero]
    cases hmv : mvFrom i i (edsFrom s 0 l) with
    | none => rw [hmv] at hm; simp at hm
    | some k => rw [hmv] at hm; simp at hm; rw [hm]
  have := mv_rise s (applied s l) i j hij hj l 0 0 0 m n (by omega) (Nat.zero_le _) (Nat.zero_le _) h3 t2 (key i m (by omega) hm) (key j n hj hn)
  omega

end Go.Proofs.YthjnoboceibjjaaGreatDoor.Lx

namespace Go.Proofs.YthjnoboceibjjaaGreatDoor.Lx
open Go Go.Proofs Go.RowKit Go.Shelf

/-- A slice value whose elements' cells are known, nil or not. -/
def Src (w : World) (v : Value) (n : Nat) (cells : List Value) : Prop :=
  (v = .slice none 0 0 ∧ n = 0 ∧ cells = []) ∨ ∃ ad c, v = .slice (some ad) n c ∧ ∀ j u, cells[j]? = some u → w.cell? (ad.add j) = some u
theorem Src.of_own {w : World} {base : Nat} {e : TypeId} {size n : Nat} {v : Value} {xs : List Value} (h : w.ownsRow base e size v n xs) (_hs : 0 < size) : Src w v n xs := by
  have hown := h
  rcases h.2 with ⟨rfl, h0⟩ | ⟨g, cap, cur, rfl, _, hgb, _⟩
  · refine .inl ⟨rfl, h0, ?_⟩
    have := h.1
    rw [h0, Nat.zero_mul] at this
    exact List.length_eq_zero_iff.1 this
  · refine .inr ⟨_, cap, rfl, fun j u hu => ?_⟩
    have hj : j < xs.length := (List.getElem?_eq_some_iff.1 hu).1
    rw [add_zero_off]
    exact (World.ownsRow.cellAt hown j (by rw [← h.1]; exact hj)).trans hu
theorem Src.below {w w' : World} {v : Value} {n : Nat} {cells : List Value} (h : Src w v n cells) (hb : ∀ p u, w.cell? p = some u → w'.cell? p = some u) : Src w' v n cells := by
  rcases h with h | ⟨ad, c, e, h⟩
  · exact .inl h
  · exact .inr ⟨ad, c, e, fun j u hu => hb _ u (h j u hu)⟩
theorem below_cells {w w' : World} (hb : Below w.heap.size w w') : ∀ p u, w.cell? p = some u → w'.cell? p = some u := by
  intro p u h
  refine (hb.cell (p := p) ?_).trans h
  rcases Nat.lt_or_ge p.block w.heap.size with h1 | h1
  · exact h1
  · exfalso
    unfold World.cell? at h
    rw [Array.getElem?_eq_none h1] at h
    simp at h
theorem Src.next {w w' : World} {v : Value} {n : Nat} {cells : List Value} (h : Src w v n cells) (hb : Below w.heap.size w w') : Src w' v n cells := h.below (below_cells hb)

theorem cell_plain {w : World} {ad : Addr} {u : Value} (h : w.cell? ad = some u) : ad.spot = none ∧ ad.block < w.heap.size := by
  constructor
  · unfold World.cell? at h
    cases hs : ad.spot with
    | none => rfl
    | some k =>
      rw [hs] at h
      split at h <;> simp at h
  · rcases Nat.lt_or_ge ad.block w.heap.size with h1 | h1
    · exact h1
    · exfalso
      unfold World.cell? at h
      rw [Array.getElem?_eq_none h1] at h
      simp at h
theorem SlSp.of_src {W : World} {v : Value} {l : List Sp} (h : Src W v l.length (spCells l)) : SlSp W v l := by
  rcases h with ⟨rfl, h0, _⟩ | ⟨ad, c, rfl, h⟩
  · exact ⟨none, 0, by rw [h0], fun h1 => absurd h1 (by omega)⟩
  · refine ⟨_, c, rfl, fun h0 => ?_⟩
    have hat := sp_at l
    have h00 := h 0 _ (hat 0 _ (List.getElem?_eq_getElem h0) 0 _ rfl)
    obtain ⟨hs, hb⟩ := cell_plain h00
    obtain ⟨b, off, sp⟩ := ad
    have hsp : sp = none := hs
    subst hsp
    refine ⟨b, off, rfl, hb, fun i t ht => ?_⟩
    have g := fun j u hj => h (i * 3 + j) u (hat i t ht j u hj)
    simp only [Lib.addr_add] at g
    exact ⟨g 0 _ rfl, g 1 _ rfl, g 2 _ rfl⟩

/-- append([]T(nil), l...): a copy of the call's own. -/
theorem wpList_copy {P : Program} {w : World} {ops : Array Oper} {rest : List Oper} {o : Oper} {a : Act} {Q : Exit → Act → World → Prop} (hgd : o.guard = none) (s x : Operand) (t : TypeId)
    (ho : o.op = .call { callee := .builtin .append, args := #[s, x], argTypes := #[t, t] })
    (e : TypeId) (i : TypeInfo) (z : Value) (size bytes : Nat) (ht : P.underlying t = some (.slice e)) (hi : P.info? e = some i) (hz : i.zero = some z)
    (hsize : i.size = size) (hby : i.bytes = bytes) (hzs : z.cells.size = size) (hsz : 0 < size) (hs : a.eval s = .slice none 0 0)
    (v : Value) (n : Nat) (cells : List Value) (hx : a.eval x = v) (hsrc : Src w v n cells) (hl : cells.length = n * size) (h1 : ∀ u ∈ cells, u.oneCell' = true) (h63 : n ≤ maxLen) (hbytes : n * bytes ≤ 140737488355328)
    (h : ∀ v' w', w'.ownsRow w.heap.size e size v' n cells → Below w.heap.size w w' → wpList P ops Q rest (a.put o.dst v') w') : wpList P ops Q (o :: rest) a w := by
  rcases hsrc with ⟨rfl, rfl, rfl⟩ | ⟨ad, c, rfl, hc⟩
  · refine wpList_append_own_none hgd s x t ho w.heap.size e i size ht hi (.slice none 0 0) 0 [] hs (World.ownsRow_nil _ _ _ _) hx ?_
    exact h _ w (World.ownsRow_nil _ _ _ _) (Below.refl _ _)
  · refine wpList_append_own w hgd s x t ho w.heap.size e i z size bytes ht hi hz hsize hby hzs hsz (.slice none 0 0) 0 [] hs (World.ownsRow_nil _ _ _ _) ad n c cells hx hl hc h1 (by omega) (by simpa using hbytes) (Nat.le_refl _) ?_
    intro v' w' h2 h3 _
    exact h v' w' (by simpa using h2) (below_new h3)

theorem moved_err {s : ByteArray} {l : List Sp} {i : Int} (h : splErr s l ≠ 0) : moved s l i = (0, splErr s l) := by unfold moved; rw [if_pos h]
theorem moved_out {s : ByteArray} {l : List Sp} {i : Int} (h : splErr s l = 0) (hi : i < 0 ∨ (s.size : Int) < i) : moved s l i = (0, 3) := by unfold moved; rw [if_neg (by omega), if_pos hi]
theorem moved_some {s : ByteArray} {l : List Sp} {i n : Int} (h : splErr s l = 0) (h1 : 0 ≤ i) (h2 : i ≤ (s.size : Int)) (hm : mvFrom i i (eds s l) = some n) : moved s l i = (n, 0) := by
  unfold moved; rw [if_neg (by omega), if_neg (by omega), hm]
theorem moved_none {s : ByteArray} {l : List Sp} {i : Int} (h : splErr s l = 0) (h1 : 0 ≤ i) (h2 : i ≤ (s.size : Int)) (hm : mvFrom i i (eds s l) = none) : moved s l i = (0, 7) := by
  unfold moved; rw [if_neg (by omega), if_neg (by omega), hm]

def MovedP (s : ByteArray) (l : List Sp) (i : Int) (w : World) (e : Ending) (w' : World) : Prop :=
  e = .returned (.tuple #[.int .i64 (moved s l i).1, .int .i64 ((moved s l i).2 : Int)]) ∧ Below w.heap.size w w'
theorem MovedP.mk {s : ByteArray} {l : List Sp} {i : Int} {w w' : World} {n k : Int} {e : Nat} (h : moved s l i = (n, e)) (hk : k = (e : Int)) (hb : Below w.heap.size w w') : MovedP s l i w (.returned (.tuple #[.int .i64 n, .int .i64 k])) w' := by
  refine ⟨?_, hb⟩
  rw [h, hk]

end Go.Proofs.YthjnoboceibjjaaGreatDoor.Lx
