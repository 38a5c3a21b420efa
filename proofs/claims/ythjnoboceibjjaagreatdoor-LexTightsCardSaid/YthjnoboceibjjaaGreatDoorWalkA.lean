/- Contracts of the error of a text, for package lex and for the reference. -/
import Derived.Test.YthjnoboceibjjaaGreatDoorWalkA0
namespace Go.Proofs.YthjnoboceibjjaaGreatDoor.Lx
open Go Go.Proofs Go.RowKit

set_option maxHeartbeats 400000 in
theorem strayByte_any (s : ByteArray) (w : World) (hs : s.size ≤ 100000) :
    Calls Tryz.prog 39 #[.string s] w fun e w' => e = .returned (.int .i64 (badI s)) ∧ Below w.heap.size w w' := by
  go_enter Tryz.func39, Tryz.ntmps39
  go_wp2
  go_loopw [6] (fun i wr => ∃ k : Nat, k ≤ s.size ∧ i = .int .i64 k ∧ (∀ j, j < k → okb (bt s j) = true) ∧ Below w.heap.size w wr) (fun i _ => s.size - (intOf i).toNat)
  case atStart => exact ⟨0, Nat.zero_le _, rfl, fun j h => absurd h (by omega), Below.refl _ _⟩
  case round =>
    obtain ⟨k, hk, rfl, hn, hb⟩ := hrel
    have hz := hb.size
    have hb' := fun o => hb.alloc hz o
    have Hb := Lib.hid hb'
    clear hb'
    by_cases hlt : k < s.size
    · have hc := bt_eq s k hlt
      have Hc := Lib.hid hc
      clear hc
      go_wp2_with (go_at_call 41; refine (isOf1 _ (UInt8.toNat_lt _) 0 (by omega) _).mono ?_; rintro e w' ⟨rfl, rfl⟩)
      · have h0 : cls s[k].toNat = 0 := by assumption
        rw [Hc.out] at h0
        go_ret
        exact ⟨ret_int (by unfold badI; rw [bad_hit s k hlt hn ((cls_stray _ (bt_lt s k)).1 h0)]), Hb.out _⟩
      · have h0 : ¬ cls s[k].toNat = 0 := by assumption
        rw [Hc.out] at h0
        go_roundw
        case rel =>
          refine ⟨k + 1, by omega, by go_num, fun j hj => ?_, Hb.out _⟩
          rcases Nat.lt_succ_iff_lt_or_eq.1 hj with h | rfl
          · exact hn j h
          · rcases ho : okb (bt s j) with _ | _
            · exact absurd ((cls_stray _ (bt_lt s j)).2 ho) h0
            · rfl
        case measure => simp [intOf]; omega
    · go_wp2
      go_ret
      exact ⟨ret_int (by unfold badI; rw [bad_none s (fun j hj => hn j (by omega))]), hb⟩

theorem badI_nonneg (s : ByteArray) : 0 ≤ badI s ↔ bad s ≠ none := by
  unfold badI
  cases bad s <;> simp

/-- The error of a text, as package lex says it. -/
theorem textError_any (s : ByteArray) (w : World) (hs : s.size ≤ 100000) :
    Calls Tryz.prog 26 #[.string s] w fun e w' => e = .returned (.tuple #[.int .i64 ((textErr s).1 : Int), .int .i64 ((textErr s).2 : Int)]) ∧ Below w.heap.size w w' := by
  by_cases hl : 2500 < s.size
  · go_enter Tryz.func26, Tryz.ntmps26
    go_wp2
    go_ret2
    exact ⟨by simp [textErr, hl], Below.refl _ _⟩
  · go_enter Tryz.func26, Tryz.ntmps26
    go_wp2_with (go_at_call 39; refine (strayByte_any s _ hs).mono ?_; rintro e w' ⟨rfl, hb⟩)
    · have h0 : 0 ≤ badI s := by assumption
      go_ret2
      refine ⟨?_, hb⟩
      have := (badI_nonneg s).1 h0
      unfold textErr badI
      cases h : bad s with
      | none => exact absurd h this
      | some i => simp [hl]
    · have h0 : badI s < 0 := by assumption
      go_ret2
      refine ⟨?_, hb⟩
      unfold textErr
      cases h : bad s with
      | none => simp [hl]
      | some i => simp [badI, h] at h0; omega

end Go.Proofs.YthjnoboceibjjaaGreatDoor.Lx
