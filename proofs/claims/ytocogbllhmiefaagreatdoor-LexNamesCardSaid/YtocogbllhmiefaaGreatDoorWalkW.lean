/- The document's own Diff and SameSplices. -/
import Derived.Test.YtocogbllhmiefaaGreatDoorWalkV
namespace Go.Proofs.YtocogbllhmiefaaGreatDoor.Lx
open Go Go.Proofs Go.RowKit Go.Shelf

theorem com_congr (f g f' g' : Nat → Nat) : ∀ n k, (∀ i, k ≤ i → i < k + n → f i = f' i ∧ g i = g' i) → com f g n k = com f' g' n k := by
  intro n
  induction n with
  | zero => intro k _; rfl
  | succ n ih =>
    intro k h
    obtain ⟨h1, h2⟩ := h k (Nat.le_refl _) (by omega)
    rw [com, com, h1, h2, ih (k + 1) (fun i hi1 hi2 => h i (by omega) (by omega))]
def tailAt (a b : ByteArray) : Nat := com (fun i => bt a (a.size - 1 - i)) (fun i => bt b (b.size - 1 - i)) (min (a.size - headOf a b) (b.size - headOf a b)) 0
theorem tail_at (a b : ByteArray) : tailOf a b = tailAt a b := by
  have hl := head_le a b
  have hsa : (a.extract (headOf a b) a.size).size = a.size - headOf a b := by simp
  have hsb : (b.extract (headOf a b) b.size).size = b.size - headOf a b := by simp
  unfold tailOf tailIn tailAt
  rw [hsa, hsb]
  refine com_congr _ _ _ _ _ _ fun i _ hi => ?_
  rw [bt_extract (by omega), bt_extract (by omega)]
  exact ⟨by rw [show headOf a b + (a.size - headOf a b - 1 - i) = a.size - 1 - i by omega], by rw [show headOf a b + (b.size - headOf a b - 1 - i) = b.size - 1 - i by omega]⟩

end Go.Proofs.YtocogbllhmiefaaGreatDoor.Lx
