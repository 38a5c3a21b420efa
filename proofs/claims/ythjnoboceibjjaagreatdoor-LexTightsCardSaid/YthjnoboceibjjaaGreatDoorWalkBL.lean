/- The document's own look at two lists of numbers that are the same. -/
import Derived.Test.YthjnoboceibjjaaGreatDoorWalkI
namespace Go.Proofs.YthjnoboceibjjaaGreatDoor.Lx
open Go Go.Proofs Go.RowKit Go.Shelf

/-- A slice value that holds numbers. -/
def SlIn (W : World) (v : Value) (l : List Int) : Prop :=
  ∃ A cap, v = .slice A l.length cap ∧ (0 < l.length → ∃ b off, A = some ⟨b, off, none⟩ ∧ b < W.heap.size ∧ ∀ i n, l[i]? = some n → W.cell? ⟨b, off + i, none⟩ = some (.int .i64 n))
theorem SlIn.below {W W' : World} {v : Value} {l : List Int} (h : SlIn W v l) (hb : Below W.heap.size W W') : SlIn W' v l := by
  obtain ⟨A, cap, rfl, hA⟩ := h
  refine ⟨A, cap, rfl, fun h0 => ?_⟩
  obtain ⟨b, off, rfl, hlt, hc⟩ := hA h0
  exact ⟨b, off, rfl, Nat.lt_of_lt_of_le hlt hb.size, fun i n hi => (hb.cell (p := ⟨b, off + i, none⟩) hlt).trans (hc i n hi)⟩

set_option maxRecDepth 100000 in
set_option maxHeartbeats 4000000 in
theorem sameInts_self (a b : Value) (l : List Int) (w : World) (ha : SlIn w a l) (hb : SlIn w b l) (hl : l.length ≤ 100000) :
    Calls Tryz.prog 10 #[a, b] w fun e w' => e = .returned (.bool true) ∧ Below w.heap.size w w' := by
  obtain ⟨A, ca, rfl, hA⟩ := ha
  obtain ⟨B, cb, rfl, hB⟩ := hb
  go_enter Tryz.func10, Tryz.ntmps10
  go_wp2
  go_loopw [5] (fun i wr => ∃ k : Nat, k ≤ l.length ∧ i = .int .i64 (k : Int) ∧ Below w.heap.size w wr) (fun i _ => l.length - (intOf i).toNat)
  case atStart => exact ⟨0, Nat.zero_le _, rfl, Below.refl _ _⟩
  case round =>
    obtain ⟨k, hk, rfl, hbw⟩ := hrel
    by_cases hlt : k < l.length
    · obtain ⟨b1, o1, rfl, hb1, hc1⟩ := hA (by omega)
      obtain ⟨b2, o2, rfl, hb2, hc2⟩ := hB (by omega)
      have p := (hbw.cell (p := ⟨b1, o1 + k, none⟩) hb1).trans (hc1 k _ (List.getElem?_eq_getElem hlt))
      have q := (hbw.cell (p := ⟨b2, o2 + k, none⟩) hb2).trans (hc2 k _ (List.getElem?_eq_getElem hlt))
      clear hc1 hc2 hA hB
      generalize l[k] = n at *
      go_wp2
      repeat (go_quiet (fail); go_wp2)
      go_roundw
      case rel => exact ⟨k + 1, by omega, by go_num, below_draws hbw _⟩
      case measure => simp [intOf]; omega
    · go_wp2
      go_ret
      exact ⟨rfl, hbw⟩

end Go.Proofs.YthjnoboceibjjaaGreatDoor.Lx
