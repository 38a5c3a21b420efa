/- Splices as the document's own functions treat them: their error, and the text after them. -/
import Derived.Test.YthjnoboceibjjaaGreatDoorWalkY
namespace Go.Proofs.YthjnoboceibjjaaGreatDoor.Lx
open Go Go.Proofs Go.RowKit Go.Shelf

/-- The error of splices for a text that has none. -/
def splOnly (s : ByteArray) (l : List Sp) : Nat :=
  if 40 < l.length then 5 else if right s.size l = false then 3
  else if l.any (fun x => (bad x.text).isSome) then 2 else if 2500 < (s.size : Int) + total (eds s l) then 5 else 0
theorem splOnly_ok {s : ByteArray} {l : List Sp} (h : (textErr s).2 = 0) : splErr s l = splOnly s l := by unfold splErr splOnly; rw [if_neg (by simp [h])]
theorem splOnly_many {s : ByteArray} {l : List Sp} (h : 40 < l.length) : splOnly s l = 5 := if_pos h
theorem splOnly_wrong {s : ByteArray} {l : List Sp} (h : ¬ 40 < l.length) (h2 : right s.size l = false) : splOnly s l = 3 := by unfold splOnly; rw [if_neg h, if_pos h2]
theorem splOnly_stray {s : ByteArray} {l : List Sp} (h : ¬ 40 < l.length) (h2 : right s.size l = true) (h3 : l.any (fun x => (bad x.text).isSome) = true) : splOnly s l = 2 := by
  unfold splOnly; rw [if_neg h, if_neg (by simp [h2]), if_pos h3]
theorem splOnly_long {s : ByteArray} {l : List Sp} (h : ¬ 40 < l.length) (h2 : right s.size l = true) (h3 : l.any (fun x => (bad x.text).isSome) = false) (h4 : 2500 < (s.size : Int) + total (eds s l)) : splOnly s l = 5 := by
  unfold splOnly; rw [if_neg h, if_neg (by simp [h2]), if_neg (by simp [h3]), if_pos h4]
theorem splOnly_fine {s : ByteArray} {l : List Sp} (h : ¬ 40 < l.length) (h2 : right s.size l = true) (h3 : l.any (fun x => (bad x.text).isSome) = false) (h4 : ¬ 2500 < (s.size : Int) + total (eds s l)) : splOnly s l = 0 := by
  unfold splOnly; rw [if_neg h, if_neg (by simp [h2]), if_neg (by simp [h3]), if_neg h4]
theorem any_at {l : List Sp} {k : Nat} (hk : k < l.length) (h : bad l[k].text ≠ none) : l.any (fun x => (bad x.text).isSome) = true := by
  refine List.any_eq_true.2 ⟨_, List.getElem_mem hk, ?_⟩
  cases hb : bad l[k].text with
  | none => exact absurd hb h
  | some n => rfl
theorem any_none {l : List Sp} (h : ∀ k, (hk : k < l.length) → bad l[k].text = none) : l.any (fun x => (bad x.text).isSome) = false := by
  refine List.any_eq_false.2 fun x hx => ?_
  obtain ⟨k, hk, rfl⟩ := List.mem_iff_getElem.1 hx
  simp [h k hk]

theorem str_of_list {o x : ByteArray} (h : o.data.toList = x.data.toList) : o = x := by
  obtain ⟨⟨a⟩⟩ := o
  obtain ⟨⟨b⟩⟩ := x
  simpa using h
theorem app_list (o x : ByteArray) : (o ++ x).data.toList = o.data.toList ++ x.data.toList := by simp [ByteArray.data_append]
theorem app_size (o x : ByteArray) : (o ++ x).size = o.size + x.size := by simp

end Go.Proofs.YthjnoboceibjjaaGreatDoor.Lx
