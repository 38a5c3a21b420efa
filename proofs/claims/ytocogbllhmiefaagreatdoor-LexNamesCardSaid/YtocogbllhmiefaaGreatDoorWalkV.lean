/- LexDifference: what leads from a text to another one does so; the other way round it is what leads back. -/
import Derived.Test.YtocogbllhmiefaaGreatDoorSpecD
import Derived.Laws.AppendOwnNone
namespace Go.Proofs.YtocogbllhmiefaaGreatDoor.Lx
open Go Go.Proofs Go.RowKit Go.Shelf

theorem sp_fields : Tryz.prog.underlying 40 = some (.struct (Tryz.prog.fieldsOf 40)) := by kernel_rfl
theorem sp_stood : Tryz.prog.stoodInHeld 40 = false := by kernel_rfl
theorem sp_list : (Tryz.prog.fieldsOf 40).toList = [⟨"From", 3, 0, false, "", "", 0⟩, ⟨"To", 3, 1, false, "", "", 8⟩, ⟨"Text", 9, 2, false, "", "", 16⟩] := by kernel_rfl
theorem sp_equal (x : Sp) (W : World) : (Op.equalIn 10000 40 (.agg #[.int .i64 x.lo, .int .i64 x.hi, .string x.text]) (.agg #[.int .i64 x.lo, .int .i64 x.hi, .string x.text])).run Tryz.prog W = .ok true W := by
  rw [run_equalIn_agg W 9999 _ _ _ sp_fields sp_stood, sp_list]
  have u9 : Tryz.prog.underlying 9 = some .string := Tryz.underlying9
  have u3 : Tryz.prog.underlying 3 = some (.int .i64) := Tryz.underlying3
  simp [Op.eqFields, go_sem]

theorem SlSp.news {W : World} {v : Value} {l : List Sp} (h : SlSp W v l) (h0 : 0 < l.length) : ∃ ad c, v = .slice (some ad) l.length c ∧ ∀ j u, (spCells l)[j]? = some u → W.cell? (ad.add j) = some u := by
  obtain ⟨A, c, rfl, hA⟩ := h
  obtain ⟨b, off, rfl, hlt, hc⟩ := hA h0
  refine ⟨_, c, rfl, fun j u hu => ?_⟩
  rw [Lib.addr_add]
  have hlen : (spCells l).length = l.length * 3 := by
    have : ∀ l : List Sp, (spCells l).length = l.length * 3 := by
      intro l
      induction l with
      | nil => rfl
      | cons x r ih => show (spVals x ++ spCells r).length = _; rw [List.length_append, ih]; simp [spVals]; omega
    exact this l
  have hj : j < (spCells l).length := (List.getElem?_eq_some_iff.1 hu).1
  have hi : j / 3 < l.length := by omega
  obtain ⟨q1, q2, q3⟩ := hc (j / 3) _ (List.getElem?_eq_getElem hi)
  have hat := sp_at l (j / 3) _ (List.getElem?_eq_getElem hi)
  rcases (show j = j / 3 * 3 + 0 ∨ j = j / 3 * 3 + 1 ∨ j = j / 3 * 3 + 2 by omega) with h | h | h
  · have := hat 0 _ rfl
    rw [← h, hu] at this
    cases this
    rw [show off + j = off + j / 3 * 3 by omega]; exact q1
  · have := hat 1 _ rfl
    rw [← h, hu] at this
    cases this
    rw [show off + j = off + j / 3 * 3 + 1 by omega]; exact q2
  · have := hat 2 _ rfl
    rw [← h, hu] at this
    cases this
    rw [show off + j = off + j / 3 * 3 + 2 by omega]; exact q3
theorem spCells_one (l : List Sp) : ∀ u ∈ spCells l, u.oneCell' = true := by
  intro u hu
  simp only [spCells, List.mem_flatMap] at hu
  obtain ⟨x, _, hx⟩ := hu
  simp [spVals] at hx
  rcases hx with rfl | rfl | rfl <;> rfl
theorem spCells_len : ∀ l : List Sp, (spCells l).length = l.length * 3 := by
  intro l
  induction l with
  | nil => rfl
  | cons x r ih => show (spVals x ++ spCells r).length = _; rw [List.length_append, ih]; simp [spVals]; omega
theorem below_new {w w' : World} (h : w.grownBy w' (Value.ownBlock (.slice none 0 0))) : Below w.heap.size w w' :=
  (Below.refl w.heap.size w).grown h (Nat.le_refl _) (fun k hk => by simp [Value.ownBlock] at hk)

/-- The words of the contracts that the law's walk takes. -/
def AwakeP (w : World) (e : Ending) (w' : World) : Prop := e = .returned (.bool true) ∧ Below w.heap.size w w'

end Go.Proofs.YtocogbllhmiefaaGreatDoor.Lx
