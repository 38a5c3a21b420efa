/- The document's own Diff and SameSplices. -/
import Derived.Test.YtocogbllhmiefaaDoorWalkV
namespace Go.Proofs.YtocogbllhmiefaaDoor.Lx
open Go Go.Proofs Go.RowKit Go.Shelf

set_option maxRecDepth 100000 in
set_option maxHeartbeats 1000000 in
theorem sameSplices_self (a b : Value) (l : List Sp) (w : World) (ha : SlSp w a l) (hb : SlSp w b l) (hl : l.length ≤ 100000) :
    Calls Tryd.prog 27 #[a, b] w fun e w' => e = .returned (.bool true) ∧ Below w.heap.size w w' := by
  obtain ⟨A, ca, rfl, hA⟩ := ha
  obtain ⟨B, cb, rfl, hB⟩ := hb
  go_enter Tryd.func27, Tryd.ntmps27
  go_wp2
  go_loopw [5] (fun i wr => ∃ k : Nat, k ≤ l.length ∧ i = .int .i64 k ∧ Below w.heap.size w wr) (fun i _ => l.length - (intOf i).toNat)
  case atStart => exact ⟨0, Nat.zero_le _, rfl, Below.refl _ _⟩
  case round =>
    obtain ⟨k, hk, rfl, hbw⟩ := hrel
    by_cases hlt : k < l.length
    · obtain ⟨b1, o1, rfl, hb1, hc1⟩ := hA (by omega)
      obtain ⟨b2, o2, rfl, hb2, hc2⟩ := hB (by omega)
      obtain ⟨p1, p2, p3⟩ := hc1 k _ (List.getElem?_eq_getElem hlt)
      obtain ⟨q1, q2, q3⟩ := hc2 k _ (List.getElem?_eq_getElem hlt)
      have p1' := (hbw.cell (p := ⟨b1, o1 + k * 3, none⟩) hb1).trans p1
      have p2' := (hbw.cell (p := ⟨b1, o1 + k * 3 + 1, none⟩) hb1).trans p2
      have p3' := (hbw.cell (p := ⟨b1, o1 + k * 3 + 2, none⟩) hb1).trans p3
      have q1' := (hbw.cell (p := ⟨b2, o2 + k * 3, none⟩) hb2).trans q1
      have q2' := (hbw.cell (p := ⟨b2, o2 + k * 3 + 1, none⟩) hb2).trans q2
      have q3' := (hbw.cell (p := ⟨b2, o2 + k * 3 + 2, none⟩) hb2).trans q3
      clear p1 p2 p3 q1 q2 q3 hc1 hc2 hA hB
      have heq := sp_equal l[k]
      generalize l[k] = x at p1' p2' p3' q1' q2' q3' heq
      go_wp2
      go_region
      all_goals (
        go_wp2
        go_roundw
        case rel => exact ⟨k + 1, by omega, by go_num, hbw.drew⟩
        case measure => simp [intOf]; omega)
    · go_wp2
      go_ret
      exact ⟨rfl, hbw⟩

theorem com_congr (f g f' g' : Nat → Nat) : ∀ n k, (∀ i, k ≤ i → i < k + n → f i = f' i ∧ g i = g' i) → com f g n k = com f' g' n k := by
  intro n
  induction n with
  | zero => intro k _; rfl
  | succ n ih =>
    intro k h
    obtain ⟨h1, h2⟩ := h k (Nat.le_refl _) (by omega)
    rw [com, com, h1, h2, ih (k + 1) (fun i hi1 hi2 => h i (by omega) (by omega))]
def tailAt (a b : ByteArray) : Nat := com (fun i => bt a (a.size - 1 - i)) (fun i => bt b (b.size - 1 - i)) (min (a.size - headOf a b) (b.size - headOf a b)) 0
theorem tail_at (a b : ByteArray) : tailOf a b = tailAt a b := by
  have hl := head_le a b
  have hsa : (a.extract (headOf a b) a.size).size = a.size - headOf a b := by simp
  have hsb : (b.extract (headOf a b) b.size).size = b.size - headOf a b := by simp
  unfold tailOf tailIn tailAt
  rw [hsa, hsb]
  refine com_congr _ _ _ _ _ _ fun i _ hi => ?_
  rw [bt_extract (by omega), bt_extract (by omega)]
  exact ⟨by rw [show headOf a b + (a.size - headOf a b - 1 - i) = a.size - 1 - i by omega], by rw [show headOf a b + (b.size - headOf a b - 1 - i) = b.size - 1 - i by omega]⟩

end Go.Proofs.YtocogbllhmiefaaDoor.Lx
