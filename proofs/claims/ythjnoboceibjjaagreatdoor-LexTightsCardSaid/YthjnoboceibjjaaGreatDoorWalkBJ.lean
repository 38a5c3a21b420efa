/- The document's own tokensError and Tight. -/
import Derived.Test.YthjnoboceibjjaaGreatDoorWalkBI
namespace Go.Proofs.YthjnoboceibjjaaGreatDoor.Lx
open Go Go.Proofs Go.RowKit Go.Shelf

set_option maxRecDepth 100000 in
set_option maxHeartbeats 4000000 in
theorem refTokensError_any (v : Value) (l : List Tk) (w : World) (ha : SlTw w v l) (hl : l.length ≤ 100000) (ht : ∀ x ∈ l, x.text.size ≤ 100000) :
    Calls Tryz.prog 22 #[v] w fun e w' => e = .returned (.int .i64 (toksErr l : Int)) ∧ Below w.heap.size w w' := by
  obtain ⟨A, ca, rfl, hA⟩ := ha
  by_cases h9 : 900 < l.length
  · have Hf := Lib.hid (show toksErr l = 5 from if_pos h9)
    go_enter Tryz.func22, Tryz.ntmps22
    go_wp2
    go_ret
    exact ⟨by rw [Hf.out]; rfl, Below.refl _ _⟩
  · have HA := Lib.hid hA
    clear hA
    go_enter Tryz.func22, Tryz.ntmps22
    go_wp2
    go_loopw [3] (fun i wr => ∃ k : Nat, k ≤ l.length ∧ i = .int .i64 (k : Int) ∧ (∀ j x, j < k → l[j]? = some x → goodTk x = true) ∧ Below w.heap.size w wr) (fun i _ => l.length - (intOf i).toNat)
    case atStart => exact ⟨0, Nat.zero_le _, rfl, fun j x h => absurd h (by omega), Below.refl _ _⟩
    case round =>
      obtain ⟨k, hk, rfl, hj, hbw⟩ := hrel
      have Hj := Lib.hid hj
      clear hj
      by_cases hlt : k < l.length
      · obtain ⟨b1, o1, rfl, hb1, hc1⟩ := HA.out (by omega)
        obtain ⟨p1, p2, p, p3⟩ := hc1 k _ (List.getElem?_eq_getElem hlt)
        have p1' := (hbw.cell (p := ⟨b1, o1 + k * 3, none⟩) hb1).trans p1
        have p2' := (hbw.cell (p := ⟨b1, o1 + k * 3 + 1, none⟩) hb1).trans p2
        have p3' := (hbw.cell (p := ⟨b1, o1 + k * 3 + 2, none⟩) hb1).trans p3
        have htx := ht _ (List.getElem_mem hlt)
        have Hx := Lib.hid (List.getElem?_eq_getElem hlt)
        have Hm := Lib.hid (List.getElem_mem hlt)
        clear hc1 p1 p2 p3
        generalize l[k] = x at *
        have hr := fun W => refIsRightW_any x p W htx
        cases hg : goodTk x with
        | true =>
          rw [hg] at hr
          have Hr := Lib.hid hr
          have Hs := Lib.hid (show ∀ j y, j < k + 1 → l[j]? = some y → goodTk y = true from fun j y hj hy => by
            rcases Nat.lt_succ_iff_lt_or_eq.1 hj with h | rfl
            · exact Hj.out j y h hy
            · rw [Hx.out] at hy; injection hy with hy; subst hy; exact hg)
          clear hr hg
          go_wp2_with (go_at_call 38; refine (Hr.out _).mono ?_; rintro e w2 ⟨rfl, hb2⟩)
          go_roundw
          case rel => exact ⟨k + 1, by omega, by go_num, Hs.out, hbw.trans (hb2.mono hbw.size)⟩
          case measure => simp [intOf]; omega
        | false =>
          rw [hg] at hr
          have Hr := Lib.hid hr
          have Hf := Lib.hid (show toksErr l = 2 by
            unfold toksErr
            rw [if_neg h9, if_pos (List.all_eq_false.2 ⟨x, Hm.out, by rw [hg]; decide⟩)])
          clear hr hg
          go_wp2_with (go_at_call 38; refine (Hr.out _).mono ?_; rintro e w2 ⟨rfl, hb2⟩)
          go_ret
          exact ⟨by rw [Hf.out]; rfl, hbw.trans (hb2.mono hbw.size)⟩
      · have Hf := Lib.hid (show toksErr l = 0 by
          unfold toksErr
          rw [if_neg h9, if_neg (by
            rw [List.all_eq_true.2 (fun x hx => by
              obtain ⟨j, hj, rfl⟩ := List.mem_iff_getElem.1 hx
              exact Hj.out j _ (by omega) (List.getElem?_eq_getElem hj))]
            decide)])
        go_wp2
        go_ret
        exact ⟨by rw [Hf.out]; rfl, hbw⟩

end Go.Proofs.YthjnoboceibjjaaGreatDoor.Lx
