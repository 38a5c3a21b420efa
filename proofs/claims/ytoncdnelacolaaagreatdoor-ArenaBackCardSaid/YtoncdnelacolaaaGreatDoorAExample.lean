/- The arena of the examples, in memory. -/
import Derived.Test.YtoncdnelacolaaaGreatDoorAInner
import Derived.Test.YtoncdnelacolaaaGreatDoorAParse
import Derived.Test.YtoncdnelacolaaaGreatDoorAShowB
import Derived.Test.YtoncdnelacolaaaGreatDoorAUnderB
namespace Go.Proofs.YtoncdnelacolaaaGreatDoor.Ar
open Go Go.Proofs Go.RowKit Lx Ps

set_option maxRecDepth 100000 in
set_option maxHeartbeats 1000000 in
theorem example_any (w : World) :
    Calls Tryz.prog 49 #[] w fun e w' => ∃ v, e = .returned (arV v exA) ∧ ArIn w' v exA ∧ Below w.heap.size w w' := by
  go_enter Tryz.func49, Tryz.ntmps49
  go_wp2
  obtain ⟨k0, k1, k2⟩ := blocks3 w (.cells #[.slice (some ⟨w.heap.size + 1 + 1, 0, none⟩) 2 2, .bool false, .int .i64 2, .bool false] 26) (.cells #[.bool false, .int .i64 3, .bool true, .int .i64 2] 24) (.cells #[.slice (some ⟨w.heap.size + 1, 0, none⟩) 2 2, .bool false, .int .i64 1, .slice none 0 0, .bool true, .int .i64 2] 64)
  have hb : Below w.heap.size w (((w.alloc (.cells #[.slice (some ⟨w.heap.size + 1 + 1, 0, none⟩) 2 2, .bool false, .int .i64 2, .bool false] 26)).alloc (.cells #[.bool false, .int .i64 3, .bool true, .int .i64 2] 24)).alloc (.cells #[.slice (some ⟨w.heap.size + 1, 0, none⟩) 2 2, .bool false, .int .i64 1, .slice none 0 0, .bool true, .int .i64 2] 64)) := below_three
  generalize ((w.alloc (.cells #[.slice (some ⟨w.heap.size + 1 + 1, 0, none⟩) 2 2, .bool false, .int .i64 2, .bool false] 26)).alloc (.cells #[.bool false, .int .i64 3, .bool true, .int .i64 2] 24)).alloc (.cells #[.slice (some ⟨w.heap.size + 1, 0, none⟩) 2 2, .bool false, .int .i64 1, .slice none 0 0, .bool true, .int .i64 2] 64) = V at k0 k1 k2 hb ⊢
  obtain ⟨⟨q0, q1, q2, q3⟩, -, x2⟩ := four_c k0
  obtain ⟨⟨r0, r1, r2, r3⟩, -, x3⟩ := four_c k1
  have x4 := (Array.getElem?_eq_some_iff.1 k2).1
  have t0 := cell_of_row _ _ 0 _ _ _ k2
  have t1 := cell_of_row _ _ 1 _ _ _ k2
  have t2 := cell_of_row _ _ 2 _ _ _ k2
  have t3 := cell_of_row _ _ 3 _ _ _ k2
  have t4 := cell_of_row _ _ 4 _ _ _ k2
  have t5 := cell_of_row _ _ 5 _ _ _ k2
  refine bodyPost_ret (v := .agg #[.slice (some ⟨w.heap.size + 1 + 1, 0, none⟩) 2 2, .bool false, .int .i64 2, .bool false]) (by simp [results, Tryz.results49, go_sem, q0, q1, q2, q3]) rfl ⟨.slice (some ⟨w.heap.size + 1 + 1, 0, none⟩) 2 2, rfl, ⟨⟨_, _, rfl, fun _ => ⟨_, 0, rfl, x4, fun i x hx => ?_⟩⟩, by simp [exA], fun x hx => ?_⟩, hb⟩
  · match i with
    | 0 =>
      simp [exA] at hx
      subst hx
      exact ⟨_, ⟨_, _, rfl, fun _ => ⟨_, 0, rfl, x3, fun j y hy => by
        match j with
        | 0 => simp at hy; subst hy; exact ⟨r0, r1⟩
        | 1 => simp at hy; subst hy; exact ⟨r2, r3⟩
        | j + 2 => simp at hy⟩⟩, t0, t1, t2⟩
    | 1 =>
      simp [exA] at hx
      subst hx
      exact ⟨_, ⟨none, 0, rfl, fun h => absurd h (by simp)⟩, t3, t4, t5⟩
    | i + 2 => simp [exA] at hx
  · simp [exA] at hx
    rcases hx with rfl | rfl <;> simp

theorem parse_ex : tryK [49, 46, 50, 61, 49] 1 = none ∧ tryK [49, 46, 50, 61, 49] 2 = some ⟨1, 2, 2, 1⟩ ∧ tryK [49, 46, 50, 61, 49] 3 = none := by
  refine ⟨?_, ?_, ?_⟩
  · simp [tryK, moveOfL, okText, textL, placeT, signL, valueT, numI, Lib.cut, Lib.index, Lib.atoiAll, Lib.parseMag, Lib.parseUint10, Lib.itoa, Lib.decDigits]
  · simp [tryK, moveOfL, okText, textL, placeT, signL, valueT, numI, Lib.cut, Lib.index, Lib.atoiAll, Lib.parseMag, Lib.parseUint10, Lib.itoa, Lib.decDigits]
  · simp [tryK, moveOfL, okText, textL, placeT, signL, valueT, numI, Lib.cut, Lib.index, Lib.atoiAll, Lib.parseMag, Lib.parseUint10, Lib.itoa, Lib.decDigits]

end Go.Proofs.YtoncdnelacolaaaGreatDoor.Ar
