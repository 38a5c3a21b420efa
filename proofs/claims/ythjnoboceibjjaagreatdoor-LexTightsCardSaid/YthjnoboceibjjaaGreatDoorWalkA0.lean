/- Contracts of classes of bytes and of the error of a text, for package lex and for the reference. -/
import Derived.Test.YthjnoboceibjjaaGreatDoorSpecA
import Derived.Test.YthjnoboceibjjaaGreatDoorHead
import Derived.Test.YthjnoboceibjjaaGreatDoorShelf
namespace Go.Proofs.YthjnoboceibjjaaGreatDoor.Lx
open Go Go.Proofs Go.RowKit

set_option maxRecDepth 100000 in
set_option maxHeartbeats 400000 in
theorem classOf_any (c : Nat) (h : c < 256) (w : World) :
    Calls Tryz.prog 52 #[.int .u8 (c : Int)] w fun e w' => e = .returned (.int .u8 (cls c : Int)) ∧ w = w' := by
  go_enter Tryz.func52, Tryz.ntmps52
  go_wp2_with (go_at_call 70; refine (Tryz.strings_IndexByte _ _ _).mono ?_; rintro e w' ⟨rfl, rfl⟩)
  all_goals
    go_ret
    refine ⟨ret_int ?_, rfl⟩
    have hs := sign_idx c h
    try simp only [beq_eq_false_iff_ne, ne_eq, beq_iff_eq] at *
    by_cases hm : c ∈ signs <;> simp only [hm, iff_true, iff_false] at hs <;> unfold cls <;> simp only [hm, if_true, if_false] <;> (repeat' split) <;> omega

set_option maxHeartbeats 400000 in
theorem index_any (ks : List Nat) (v b : Nat) (w : World) (hc : ∀ j, j < ks.length → w.cell? ⟨b, j, none⟩ = some (.int .u8 ((ks.getD j 0 : Nat) : Int))) (hl : ks.length ≤ 100) :
    Calls Tryz.prog 69 #[.slice (some ⟨b, 0, none⟩) ks.length ks.length, .int .u8 (v : Int)] w fun e w' => ∃ i : Int, e = .returned (.int .i64 i) ∧ (0 ≤ i ↔ v ∈ ks) ∧ w = w' := by
  go_enter Tryz.func69, Tryz.ntmps69
  go_wp2
  go_loop [8] (fun i => ∃ k : Nat, k ≤ ks.length ∧ i = .int .i64 k ∧ ∀ j, j < k → ks.getD j 0 ≠ v) (fun i => ks.length - (intOf i).toNat)
  case atStart => exact ⟨0, Nat.zero_le _, rfl, fun j h => absurd h (by omega)⟩
  case round =>
    obtain ⟨k, hk, rfl, hn⟩ := hrel
    have hcell : k < ks.length → w.cell? ⟨b, k, none⟩ = some (.int .u8 ((ks.getD k 0 : Nat) : Int)) := fun h => hc k h
    clear hc
    go_wp2
    · have hlt : k < ks.length := by assumption
      have he : ((v : Int) == ((ks[k] : Nat) : Int)) = true := by assumption
      go_ret
      refine ⟨_, rfl, ?_, rfl⟩
      have he' : (v : Int) = ((ks[k] : Nat) : Int) := by simpa using he
      have : v = ks[k] := by omega
      exact ⟨fun _ => this ▸ List.getElem_mem _, fun _ => by omega⟩
    · have hlt : k < ks.length := by assumption
      have he : ((v : Int) == ((ks[k] : Nat) : Int)) = false := by assumption
      go_round
      case rel =>
        refine ⟨k + 1, by omega, by go_num, fun j hj => ?_⟩
        rcases Nat.lt_succ_iff_lt_or_eq.1 hj with h | rfl
        · exact hn j h
        · rw [List.getD_eq_getElem?_getD, List.getElem?_eq_getElem hlt]
          intro h
          simp at he h
          omega
      case measure => simp [intOf]; omega
    · have hge : ¬ k < ks.length := by assumption
      go_ret
      refine ⟨_, rfl, ⟨fun h => absurd h (by omega), fun h => ?_⟩, rfl⟩
      obtain ⟨j, hj, e⟩ := List.mem_iff_getElem.1 h
      exact absurd (by rw [List.getD_eq_getElem?_getD, List.getElem?_eq_getElem hj]; exact e) (hn j (by omega))

theorem contains_any (ks : List Nat) (v b : Nat) (w : World) (hc : ∀ j, j < ks.length → w.cell? ⟨b, j, none⟩ = some (.int .u8 ((ks.getD j 0 : Nat) : Int))) (hl : ks.length ≤ 100) :
    Calls Tryz.prog 51 #[.slice (some ⟨b, 0, none⟩) ks.length ks.length, .int .u8 (v : Int)] w fun e w' => e = .returned (.bool (decide (v ∈ ks))) ∧ w = w' := by
  go_enter Tryz.func51, Tryz.ntmps51
  go_wp2_with (go_at_call 69; refine (index_any ks v b _ hc hl).mono ?_; rintro e w' ⟨i, rfl, hi, rfl⟩)
  go_ret
  exact ⟨ret_bool (by simp), rfl⟩

theorem isOf_any (c : Nat) (h : c < 256) (ks : List Nat) (b : Nat) (w : World) (hc : ∀ j, j < ks.length → w.cell? ⟨b, j, none⟩ = some (.int .u8 ((ks.getD j 0 : Nat) : Int))) (hl : ks.length ≤ 100) :
    Calls Tryz.prog 41 #[.int .u8 (c : Int), .slice (some ⟨b, 0, none⟩) ks.length ks.length] w fun e w' => e = .returned (.bool (decide (cls c ∈ ks))) ∧ w = w' := by
  go_enter Tryz.func41, Tryz.ntmps41
  go_wp2_with (first
    | (go_at_call 52; refine (classOf_any c h _).mono ?_; rintro e w' ⟨rfl, rfl⟩)
    | (go_at_call 51; refine (contains_any ks _ b _ hc hl).mono ?_; rintro e w' ⟨rfl, rfl⟩))
  go_ret
  exact ⟨rfl, rfl⟩

/-- The call with one class, which the caller has just laid. -/
theorem isOf1 (c : Nat) (h : c < 256) (k : Int) (hk : 0 ≤ k) (w : World) :
    Calls Tryz.prog 41 #[.int .u8 (c : Int), .slice (some ⟨w.heap.size, 0, none⟩) 1 1] (w.alloc (.cells #[.int .u8 k] 80)) fun e w' => e = .returned (.bool (decide ((cls c : Int) = k))) ∧ w.alloc (.cells #[.int .u8 k] 80) = w' := by
  obtain ⟨n, rfl⟩ := Int.eq_ofNat_of_zero_le hk
  have := isOf_any c h [n] w.heap.size (w.alloc (.cells #[.int .u8 (n : Int)] 80)) (fun j hj => by
    have : j = 0 := by simpa using hj
    subst this; exact cell_new _ _ _ 0) (by simp)
  refine this.mono fun e w' ⟨he, hw⟩ => ⟨?_, hw⟩
  rw [he]; exact ret_bool (by simp; omega)

theorem isOf3 (c : Nat) (h : c < 256) (w : World) :
    Calls Tryz.prog 41 #[.int .u8 (c : Int), .slice (some ⟨w.heap.size, 0, none⟩) 3 3] (w.alloc (.cells #[.int .u8 4, .int .u8 5, .int .u8 6] 80)) fun e w' =>
      e = .returned (.bool (decide (cls c ∈ [4, 5, 6]))) ∧ w.alloc (.cells #[.int .u8 4, .int .u8 5, .int .u8 6] 80) = w' :=
  isOf_any c h [4, 5, 6] w.heap.size _ (fun j hj => by
    have : j = 0 ∨ j = 1 ∨ j = 2 := by simp at hj; omega
    rcases this with rfl | rfl | rfl
    · exact cell_new _ _ _ 0
    · exact cell_new _ _ _ 1
    · exact cell_new _ _ _ 2) (by simp)


end Go.Proofs.YthjnoboceibjjaaGreatDoor.Lx
