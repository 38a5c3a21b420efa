/- The order of moves: what Less calls, and the reference's Less. -/
import Derived.Test.YtoncdnelacolaaaGreatDoorAWalkE
import Derived.Lib.Small
import Derived.Test.YtoncdnelacolaaaGreatDoorShelf
import Derived.Test.YtoncdnelacolaaaGreatDoorABlocks
namespace Go.Proofs.YtoncdnelacolaaaGreatDoor.Ar
open Go Go.Proofs Go.RowKit Lx Ps

set_option maxHeartbeats 400000 in
theorem isNaN8_any (x : Nat) (w : World) :
    Calls Tryz.prog 136 #[.int .u8 (x : Int)] w fun e w' => e = .returned (.bool false) ∧ w' = w := by
  go_enter Tryz.func136, Tryz.ntmps136
  go_wp2
  go_ret
  exact ⟨rfl, rfl⟩

set_option maxHeartbeats 400000 in
theorem compare8_any (x y : Nat) (w : World) :
    Calls Tryz.prog 107 #[.int .u8 (x : Int), .int .u8 (y : Int)] w fun e w' => e = .returned (.int .i64 (Lib.compareInt x y)) ∧ w' = w := by
  unfold Lib.compareInt
  by_cases h1 : (x : Int) < (y : Int)
  · rw [if_pos h1]
    go_enter Tryz.func107, Tryz.ntmps107
    go_wp2_with (go_at_call 136; refine (isNaN8_any _ _).mono ?_; rintro e w1 ⟨rfl, rfl⟩)
    go_ret
    exact ⟨rfl, rfl⟩
  · rw [if_neg h1]
    by_cases h2 : (x : Int) > (y : Int)
    · rw [if_pos h2]
      go_enter Tryz.func107, Tryz.ntmps107
      go_wp2_with (go_at_call 136; refine (isNaN8_any _ _).mono ?_; rintro e w1 ⟨rfl, rfl⟩)
      go_ret
      exact ⟨rfl, rfl⟩
    · rw [if_neg h2]
      go_enter Tryz.func107, Tryz.ntmps107
      go_wp2_with (go_at_call 136; refine (isNaN8_any _ _).mono ?_; rintro e w1 ⟨rfl, rfl⟩)
      go_ret
      exact ⟨rfl, rfl⟩

set_option maxRecDepth 100000 in
set_option maxHeartbeats 1000000 in
/-- The reference's order. -/
theorem refLess_any (x y : Mv) (w : World) :
    Calls Tryz.prog 48 #[mvV x, mvV y] w fun e w' => e = .returned (.bool (lessM x y)) ∧ Below w.heap.size w w' := by
  unfold mvV lessM
  by_cases h1 : x.id = y.id
  · by_cases h2 : x.arg = y.arg
    · by_cases h3 : x.kind = y.kind
      · have g1 : (x.id != y.id) = false := by simpa using h1
        have g2 : (x.arg != y.arg) = false := by simpa using h2
        have g3 : ((x.kind : Int) != (y.kind : Int)) = false := by simp; omega
        go_enter Tryz.func48, Tryz.ntmps48
        go_wp2
        go_ret
        exact ⟨by simp_all, below_two⟩
      · have g1 : (x.id != y.id) = false := by simpa using h1
        have g2 : (x.arg != y.arg) = false := by simpa using h2
        have g3 : ((x.kind : Int) != (y.kind : Int)) = true := by simp; omega
        go_enter Tryz.func48, Tryz.ntmps48
        go_wp2
        go_ret
        exact ⟨by simp_all, below_two⟩
    · have g1 : (x.id != y.id) = false := by simpa using h1
      have g2 : (x.arg != y.arg) = true := by simpa using h2
      go_enter Tryz.func48, Tryz.ntmps48
      go_wp2
      go_ret
      exact ⟨by simp_all, below_two⟩
  · have g1 : (x.id != y.id) = true := by simpa using h1
    go_enter Tryz.func48, Tryz.ntmps48
    go_wp2
    go_ret
    exact ⟨by simp_all, below_two⟩

end Go.Proofs.YtoncdnelacolaaaGreatDoor.Ar
