/- What leads from a text to another one does so, and back: plain lists. -/
import Derived.Test.YtocogbllhmiefaaGreatDoorWalkU
namespace Go.Proofs.YtocogbllhmiefaaGreatDoor.Lx
open Go Go.Proofs Go.RowKit Go.Shelf

theorem com_comm (f g : Nat → Nat) : ∀ n k, com f g n k = com g f n k := by
  intro n
  induction n with
  | zero => intro k; rfl
  | succ n ih =>
    intro k
    rw [com, com]
    by_cases h : f k = g k
    · rw [if_pos h, if_pos h.symm, ih]
    · rw [if_neg h, if_neg (fun e => h e.symm)]
theorem com_same (f g : Nat → Nat) : ∀ n k j, k ≤ j → j < com f g n k → f j = g j := by
  intro n
  induction n with
  | zero => intro k j h1 h2; rw [com] at h2; omega
  | succ n ih =>
    intro k j h1 h2
    rw [com] at h2
    by_cases h : f k = g k
    · rw [if_pos h] at h2
      by_cases hj : j = k
      · rw [hj]; exact h
      · exact ih (k + 1) j (by omega) h2
    · rw [if_neg h] at h2; omega
theorem head_comm (a b : ByteArray) : headOf b a = headOf a b := by unfold headOf; rw [Nat.min_comm, com_comm]
theorem tailIn_comm (a b : ByteArray) : tailIn b a = tailIn a b := by unfold tailIn; rw [Nat.min_comm, com_comm]
theorem tail_comm (a b : ByteArray) : tailOf b a = tailOf a b := by unfold tailOf; rw [head_comm a b, tailIn_comm]

theorem bt_extract {s : ByteArray} {i j k : Nat} (h : k < j - i) : bt (s.extract i j) k = bt s (i + k) := by
  unfold bt
  rw [extract_list]
  congr 1
  simp only [List.getD_eq_getElem?_getD, List.getElem?_take, List.getElem?_drop, if_pos h]
theorem bt_list {s t : ByteArray} {i j : Nat} (hi : i < s.size) (hj : j < t.size) (h : bt s i = bt t j) : s.data.toList[i]? = t.data.toList[j]? := by
  have h1 : i < s.data.toList.length := by rw [len_list]; exact hi
  have h2 : j < t.data.toList.length := by rw [len_list]; exact hj
  unfold bt at h
  rw [List.getD_eq_getElem?_getD, List.getD_eq_getElem?_getD, List.getElem?_eq_getElem h1, List.getElem?_eq_getElem h2] at h
  rw [List.getElem?_eq_getElem h1, List.getElem?_eq_getElem h2]
  exact congrArg some (UInt8.toNat_inj.1 h)

theorem heads_same (a b : ByteArray) : a.data.toList.take (headOf a b) = b.data.toList.take (headOf a b) := by
  have hl := head_le a b
  apply List.ext_getElem?
  intro i
  rw [List.getElem?_take, List.getElem?_take]
  by_cases hi : i < headOf a b
  · rw [if_pos hi, if_pos hi]
    exact bt_list (by omega) (by omega) (com_same (bt a) (bt b) _ 0 i (Nat.zero_le _) hi)
  · rw [if_neg hi, if_neg hi]
theorem tails_same (a b : ByteArray) : a.data.toList.drop (a.size - tailOf a b) = b.data.toList.drop (b.size - tailOf a b) := by
  have hl := head_le a b
  have ht := tail_le a b
  have hsa : (a.extract (headOf a b) a.size).size = a.size - headOf a b := by simp
  have hsb : (b.extract (headOf a b) b.size).size = b.size - headOf a b := by simp
  apply List.ext_getElem?
  intro i
  rw [List.getElem?_drop, List.getElem?_drop]
  by_cases hi : i < tailOf a b
  · refine bt_list (by omega) (by omega) ?_
    have h1 := com_same (fun i => bt (a.extract (headOf a b) a.size) ((a.extract (headOf a b) a.size).size - 1 - i)) (fun i => bt (b.extract (headOf a b) b.size) ((b.extract (headOf a b) b.size).size - 1 - i)) _ 0 (tailOf a b - 1 - i) (Nat.zero_le _) (show tailOf a b - 1 - i < tailOf a b by omega)
    rw [hsa, hsb, bt_extract (by omega), bt_extract (by omega)] at h1
    rw [show a.size - tailOf a b + i = headOf a b + (a.size - headOf a b - 1 - (tailOf a b - 1 - i)) by omega, show b.size - tailOf a b + i = headOf a b + (b.size - headOf a b - 1 - (tailOf a b - 1 - i)) by omega]
    exact h1
  · rw [List.getElem?_eq_none (by rw [len_list]; omega), List.getElem?_eq_none (by rw [len_list]; omega)]

theorem text_ok {s : ByteArray} (h : (textErr s).2 = 0) : s.size ≤ 2500 ∧ bad s = none := by
  unfold textErr at h
  split at h
  · cases h
  · split at h
    · cases h
    · exact ⟨by omega, by assumption⟩
theorem diffErr_ok {a b : ByteArray} (h : diffErr a b = 0) : (textErr a).2 = 0 ∧ (textErr b).2 = 0 := by
  unfold diffErr at h
  split at h
  · contradiction
  · rename_i h1; exact ⟨by omega, h⟩
theorem diffErr_comm {a b : ByteArray} (h : diffErr a b = 0) : diffErr b a = 0 := by
  obtain ⟨h1, h2⟩ := diffErr_ok h
  unfold diffErr; rw [h2, h1]; rfl
theorem bad_extract {s : ByteArray} (h : bad s = none) (i j : Nat) (hj : j ≤ s.size) : bad (s.extract i j) = none := by
  refine bad_none _ fun k hk => ?_
  have hk' : k < j - i := by simp at hk; omega
  rw [bt_extract hk']
  exact ok_of_bad s h (i + k) (by omega)

theorem splErr_nil {s : ByteArray} (h : (textErr s).2 = 0) : splErr s [] = 0 := by
  have h1 := (text_ok h).1
  exact splErr_ok h (by decide) rfl rfl (by simp [eds, edsFrom, total]; omega)
theorem edited_nil (s : ByteArray) : edited s (eds s []) = s := by
  show (⟨(s.data.toList.drop 0).toArray⟩ : ByteArray) = s
  rw [List.drop_zero, Array.toArray_toList]

theorem eds_diff (a b : ByteArray) : eds a [diffOf a b] = [⟨diffOf a b, a.extract (headOf a b) (a.size - tailOf a b), (headOf a b : Int)⟩] := by
  simp [eds, edsFrom, diffOf]
theorem diff_total (a b : ByteArray) : (a.size : Int) + total (eds a [diffOf a b]) = b.size := by
  have hl := head_le a b
  have ht := tail_le a b
  rw [eds_diff]
  have h1 : (a.extract (headOf a b) (a.size - tailOf a b)).size = a.size - tailOf a b - headOf a b := by simp <;> omega
  have h2 : (b.extract (headOf a b) (b.size - tailOf a b)).size = b.size - tailOf a b - headOf a b := by simp <;> omega
  simp only [total, List.map_cons, List.map_nil, List.foldl_cons, List.foldl_nil, grow, diffOf, h1, h2]
  omega
theorem right_diff (a b : ByteArray) : right a.size [diffOf a b] = true := by
  have hl := head_le a b
  have ht := tail_le a b
  have h1 : ¬ ((headOf a b : Int) < 0) := by omega
  have h2 : ¬ (((a.size - tailOf a b : Nat) : Int) < (headOf a b : Int)) := by omega
  have h3 : ¬ ((a.size : Int) < ((a.size - tailOf a b : Nat) : Int)) := by omega
  show (!(decide ((headOf a b : Int) < 0) || (decide (((a.size - tailOf a b : Nat) : Int) < (headOf a b : Int)) || decide ((a.size : Int) < ((a.size - tailOf a b : Nat) : Int)))) && true) = true
  rw [decide_eq_false h1, decide_eq_false h2, decide_eq_false h3]
  rfl
theorem splErr_diff {a b : ByteArray} (h : diffErr a b = 0) : splErr a [diffOf a b] = 0 := by
  obtain ⟨h1, h2⟩ := diffErr_ok h
  refine splErr_ok h1 (by simp) (right_diff a b) ?_ (by rw [diff_total]; have := (text_ok h2).1; omega)
  have := bad_extract (text_ok h2).2 (headOf a b) (b.size - tailOf a b) (by omega)
  simp [diffOf, this]
theorem edited_diff (a b : ByteArray) : edited a (eds a [diffOf a b]) = b := by
  have hl := head_le a b
  have ht := tail_le a b
  rw [eds_diff]
  have h1 : editedFrom a 0 [⟨diffOf a b, a.extract (headOf a b) (a.size - tailOf a b), (headOf a b : Int)⟩] = b.data.toList := by
    simp only [editedFrom, diffOf, Int.toNat_natCast, List.drop_zero, Nat.sub_zero]
    rw [heads_same, tails_same, extract_list, List.append_assoc]
    have e1 : b.data.toList.drop (b.size - tailOf a b) = (b.data.toList.drop (headOf a b)).drop (b.size - tailOf a b - headOf a b) := by rw [List.drop_drop, show headOf a b + (b.size - tailOf a b - headOf a b) = b.size - tailOf a b by omega]
    rw [e1, List.take_append_drop, List.take_append_drop]
  rw [edited, h1, Array.toArray_toList]

theorem splErr_ofDiff {a b : ByteArray} (h : diffErr a b = 0) : splErr a (diff a b) = 0 := by
  unfold diff
  rw [if_pos h]
  split
  · exact splErr_nil (diffErr_ok h).1
  · exact splErr_diff h
theorem applied_ofDiff {a b : ByteArray} (h : diffErr a b = 0) : applied a (diff a b) = b := by
  unfold applied
  rw [if_pos (splErr_ofDiff h)]
  unfold diff
  rw [if_pos h]
  split
  · rename_i he; rw [edited_nil]; exact str_eq.1 he
  · exact edited_diff a b
theorem undone_ofDiff {a b : ByteArray} (h : diffErr a b = 0) : undone a (diff a b) = diff b a := by
  have hl := head_le a b
  have ht := tail_le a b
  unfold undone
  rw [if_pos (splErr_ofDiff h)]
  unfold diff
  rw [if_pos h, if_pos (diffErr_comm h)]
  by_cases he : a.toList = b.toList
  · rw [if_pos he, if_pos he.symm]; rfl
  · rw [if_neg he, if_neg (fun e => he e.symm), eds_diff]
    have h2 : (b.extract (headOf a b) (b.size - tailOf a b)).size = b.size - tailOf a b - headOf a b := by simp <;> omega
    simp only [List.map_cons, List.map_nil, backOf, diffOf, head_comm a b, tail_comm a b, h2]
    rw [show ((headOf a b : Nat) : Int) + ((b.size - tailOf a b - headOf a b : Nat) : Int) = ((b.size - tailOf a b : Nat) : Int) by omega]
theorem diff_small (a b : ByteArray) (hs : b.size ≤ 100000) : ∀ x ∈ diff a b, x.text.size ≤ 100000 := by
  intro x hx
  unfold diff at hx
  split at hx
  · split at hx
    · cases hx
    · rcases List.mem_singleton.1 hx with rfl
      simp [diffOf]; omega
  · cases hx
theorem diff_short (a b : ByteArray) : (diff a b).length ≤ 1 := by
  unfold diff
  split
  · split <;> simp
  · simp
theorem diff_len (a b : ByteArray) (h : diffErr a b = 0) : (diff b a).length = (diff a b).length := by
  unfold diff
  rw [if_pos h, if_pos (diffErr_comm h)]
  by_cases he : a.toList = b.toList
  · rw [if_pos he, if_pos he.symm]
  · rw [if_neg he, if_neg (fun e => he e.symm)]; rfl

end Go.Proofs.YtocogbllhmiefaaGreatDoor.Lx
