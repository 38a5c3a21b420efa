/- Less. -/
import Derived.Test.YtoncdnelacolaaaGreatDoorAWalkE
import Derived.Lib.Small
import Derived.Test.YtoncdnelacolaaaGreatDoorShelf
import Derived.Test.YtoncdnelacolaaaGreatDoorABlocks
import Derived.Deep.RegionLaw
import Derived.Deep.RegionWith
import Derived.RegionTactic
import Derived.BigRegion
import Derived.Deep.RegionHeld3
namespace Go.Proofs.YtoncdnelacolaaaGreatDoor.Ar
open Go Go.Proofs Go.RowKit Lx Ps

set_option maxHeartbeats 400000 in
theorem isNaN8_any (x : Nat) (w : World) :
    Calls Tryz.prog 136 #[.int .u8 (x : Int)] w fun e w' => e = .returned (.bool false) ∧ w' = w := by
  go_enter Tryz.func136, Tryz.ntmps136
  go_wp2
  go_ret
  exact ⟨rfl, rfl⟩

set_option maxHeartbeats 400000 in
theorem compare8_any (x y : Nat) (w : World) :
    Calls Tryz.prog 107 #[.int .u8 (x : Int), .int .u8 (y : Int)] w fun e w' => e = .returned (.int .i64 (Lib.compareInt x y)) ∧ w' = w := by
  unfold Lib.compareInt
  by_cases h1 : (x : Int) < (y : Int)
  · rw [if_pos h1]
    go_enter Tryz.func107, Tryz.ntmps107
    go_wp2_with (go_at_call 136; refine (isNaN8_any _ _).mono ?_; rintro e w1 ⟨rfl, rfl⟩)
    go_ret
    exact ⟨rfl, rfl⟩
  · rw [if_neg h1]
    by_cases h2 : (x : Int) > (y : Int)
    · rw [if_pos h2]
      go_enter Tryz.func107, Tryz.ntmps107
      go_wp2_with (go_at_call 136; refine (isNaN8_any _ _).mono ?_; rintro e w1 ⟨rfl, rfl⟩)
      go_ret
      exact ⟨rfl, rfl⟩
    · rw [if_neg h2]
      go_enter Tryz.func107, Tryz.ntmps107
      go_wp2_with (go_at_call 136; refine (isNaN8_any _ _).mono ?_; rintro e w1 ⟨rfl, rfl⟩)
      go_ret
      exact ⟨rfl, rfl⟩

set_option maxRecDepth 100000 in
set_option maxHeartbeats 1000000 in
/-- The reference's order. -/
theorem refLess_any (x y : Mv) (w : World) :
    Calls Tryz.prog 48 #[mvV x, mvV y] w fun e w' => e = .returned (.bool (lessM x y)) ∧ Below w.heap.size w w' := by
  unfold mvV lessM
  by_cases h1 : x.id = y.id
  · by_cases h2 : x.arg = y.arg
    · by_cases h3 : x.kind = y.kind
      · have g1 : (x.id != y.id) = false := by simpa using h1
        have g2 : (x.arg != y.arg) = false := by simpa using h2
        have g3 : ((x.kind : Int) != (y.kind : Int)) = false := by simp; omega
        go_enter Tryz.func48, Tryz.ntmps48
        go_wp2
        go_ret
        exact ⟨by simp_all, below_two⟩
      · have g1 : (x.id != y.id) = false := by simpa using h1
        have g2 : (x.arg != y.arg) = false := by simpa using h2
        have g3 : ((x.kind : Int) != (y.kind : Int)) = true := by simp; omega
        go_enter Tryz.func48, Tryz.ntmps48
        go_wp2
        go_ret
        exact ⟨by simp_all, below_two⟩
    · have g1 : (x.id != y.id) = false := by simpa using h1
      have g2 : (x.arg != y.arg) = true := by simpa using h2
      go_enter Tryz.func48, Tryz.ntmps48
      go_wp2
      go_ret
      exact ⟨by simp_all, below_two⟩
  · have g1 : (x.id != y.id) = true := by simpa using h1
    go_enter Tryz.func48, Tryz.ntmps48
    go_wp2
    go_ret
    exact ⟨by simp_all, below_two⟩

end Go.Proofs.YtoncdnelacolaaaGreatDoor.Ar

namespace Go.Proofs.YtoncdnelacolaaaGreatDoor.Ar
open Go Go.Proofs Go.RowKit Lx Ps

def orL : List Int → Int
  | [] => 0
  | x :: r => if x = 0 then orL r else x
theorem orL_cons (x : Int) (r : List Int) : orL (x :: r) = if x = 0 then orL r else x := rfl

set_option maxRecDepth 100000 in
set_option maxHeartbeats 1000000 in
theorem or_any (b : Nat) (l : List Int) (w : World) (hl : l.length ≤ 1000) (hc : ∀ k x, l[k]? = some x → w.cell? ⟨b, k, none⟩ = some (.int .i64 x)) :
    Calls Tryz.prog 105 #[.slice (some ⟨b, 0, none⟩) l.length l.length] w fun e w' => e = .returned (.int .i64 (orL l)) ∧ w' = w := by
  go_enter Tryz.func105, Tryz.ntmps105
  go_wp2
  go_loopw [8] (fun c wr => ∃ k : Nat, k ≤ l.length ∧ c = .int .i64 (k : Int) ∧ wr = w ∧ orL l = orL (l.drop k)) (fun c _ => l.length - (intOf c).toNat)
  case atStart => exact ⟨0, Nat.zero_le _, rfl, rfl, rfl⟩
  case round =>
    obtain ⟨k, hk, rfl, rfl, ho⟩ := hrel
    have HO := Lib.hid ho
    by_cases hlt : k < l.length
    · have c1 := hc k _ (List.getElem?_eq_getElem hlt)
      have hd := List.drop_eq_getElem_cons hlt
      rw [hd] at ho
      clear hd HO
      generalize l[k] = x at c1 ho
      rw [orL_cons] at ho
      by_cases hx : x = 0
      · rw [if_pos hx] at ho
        have HO := Lib.hid ho
        subst hx
        clear ho hc
        go_wp2
        go_roundw
        case rel => exact ⟨k + 1, by omega, by go_num, trivial, HO.out⟩
        case measure => simp [intOf]; omega
      · rw [if_neg hx] at ho
        have HO := Lib.hid ho
        have hx2 : (x != 0) = true := by simpa using hx
        clear ho hc
        go_wp2
        go_ret
        exact ⟨by rw [HO.out]; rfl, rfl⟩
    · have hkN : k = l.length := by omega
      subst hkN
      rw [List.drop_length] at ho
      have HO2 := Lib.hid ho
      clear ho HO hc
      go_wp2
      go_ret
      exact ⟨by rw [HO2.out]; rfl, rfl⟩

end Go.Proofs.YtoncdnelacolaaaGreatDoor.Ar

namespace Go.Proofs.YtoncdnelacolaaaGreatDoor.Ar
open Go Go.Proofs Go.RowKit Lx Ps

def cmpL (x y : Mv) : List Int := [Lib.compareInt x.id y.id, Lib.compareInt x.arg y.arg, Lib.compareInt x.kind y.kind, Lib.compareInt x.n y.n]
theorem cmp_zero (a b : Int) : Lib.compareInt a b = 0 ↔ a = b := by
  unfold Lib.compareInt
  split
  · constructor <;> intro h <;> omega
  · split
    · constructor <;> intro h <;> omega
    · constructor <;> intro h <;> omega
theorem cmp_neg (a b : Int) : Lib.compareInt a b < 0 ↔ a < b := by
  unfold Lib.compareInt
  split
  · constructor <;> intro h <;> omega
  · split
    · constructor <;> intro h <;> omega
    · constructor <;> intro h <;> omega
theorem cmp_less (x y : Mv) : decide (orL (cmpL x y) < 0) = lessM x y := by
  unfold cmpL lessM
  rw [orL_cons]
  by_cases h1 : x.id = y.id
  · rw [if_pos ((cmp_zero _ _).2 h1), orL_cons, if_neg (show ¬ (x.id ≠ y.id) from fun e => e h1)]
    by_cases h2 : x.arg = y.arg
    · rw [if_pos ((cmp_zero _ _).2 h2), orL_cons, if_neg (show ¬ (x.arg ≠ y.arg) from fun e => e h2)]
      by_cases h3 : x.kind = y.kind
      · rw [if_pos ((cmp_zero _ _).2 (by omega)), orL_cons, if_neg (show ¬ (x.kind ≠ y.kind) from fun e => e h3)]
        by_cases h4 : x.n = y.n
        · rw [if_pos ((cmp_zero _ _).2 h4)]
          simp [orL]; omega
        · rw [if_neg (fun e => h4 ((cmp_zero _ _).1 e))]
          exact decide_eq_decide.2 (cmp_neg _ _)
      · rw [if_neg (fun e => h3 (by have := (cmp_zero _ _).1 e; omega)), if_pos h3]
        exact decide_eq_decide.2 ((cmp_neg _ _).trans (by omega))
    · rw [if_neg (fun e => h2 ((cmp_zero _ _).1 e)), if_pos h2]
      exact decide_eq_decide.2 (cmp_neg _ _)
  · rw [if_neg (fun e => h1 ((cmp_zero _ _).1 e)), if_pos h1]
    exact decide_eq_decide.2 (cmp_neg _ _)

end Go.Proofs.YtoncdnelacolaaaGreatDoor.Ar

namespace Go.Proofs.YtoncdnelacolaaaGreatDoor.Ar
open Go Go.Proofs Go.RowKit Lx Ps

set_option maxRecDepth 100000 in
set_option maxHeartbeats 1000000 in
theorem less_any (x y : Mv) (w : World) :
    Calls Tryz.prog 47 #[mvV x, mvV y] w fun e w' => e = .returned (.bool (lessM x y)) ∧ Below w.heap.size w w' := by
  rw [← cmp_less]
  have hO : ∀ V : World, Calls Tryz.prog 105 #[.slice (some ⟨V.heap.size, 0, none⟩) 4 4] (V.alloc (.cells #[.int .i64 (Lib.compareInt x.id y.id), .int .i64 (Lib.compareInt x.arg y.arg), .int .i64 (Lib.compareInt x.kind y.kind), .int .i64 (Lib.compareInt x.n y.n)] 3)).drew fun e w' => e = .returned (.int .i64 (orL (cmpL x y))) ∧ w' = (V.alloc (.cells #[.int .i64 (Lib.compareInt x.id y.id), .int .i64 (Lib.compareInt x.arg y.arg), .int .i64 (Lib.compareInt x.kind y.kind), .int .i64 (Lib.compareInt x.n y.n)] 3)).drew := fun V => or_any V.heap.size (cmpL x y) _ (by simp [cmpL]) (fun k u hu => by
    obtain ⟨⟨h0, h1, h2, h3⟩, -, -⟩ := four_c (heap_alloc_new V (.cells #[.int .i64 (Lib.compareInt x.id y.id), .int .i64 (Lib.compareInt x.arg y.arg), .int .i64 (Lib.compareInt x.kind y.kind), .int .i64 (Lib.compareInt x.n y.n)] 3))
    match k with
    | 0 => simp [cmpL] at hu; subst hu; exact h0
    | 1 => simp [cmpL] at hu; subst hu; exact h1
    | 2 => simp [cmpL] at hu; subst hu; exact h2
    | 3 => simp [cmpL] at hu; subst hu; exact h3
    | k + 4 => simp [cmpL] at hu)
  have HO := Lib.hid hO
  clear hO
  obtain ⟨k0, k1⟩ := blocks2 w (.cells #[.int .i64 x.id, .int .i64 x.arg, .int .u8 (x.kind : Int), .int .i64 x.n] 40) (.cells #[.int .i64 y.id, .int .i64 y.arg, .int .u8 (y.kind : Int), .int .i64 y.n] 40)
  have hba : Below w.heap.size w ((w.alloc (.cells #[.int .i64 x.id, .int .i64 x.arg, .int .u8 (x.kind : Int), .int .i64 x.n] 40)).alloc (.cells #[.int .i64 y.id, .int .i64 y.arg, .int .u8 (y.kind : Int), .int .i64 y.n] 40)) := below_two
  unfold mvV
  go_enter Tryz.func47, Tryz.ntmps47
  go_upto_region 1 with (fail)
  generalize (w.alloc (.cells #[.int .i64 x.id, .int .i64 x.arg, .int .u8 (x.kind : Int), .int .i64 x.n] 40)).alloc (.cells #[.int .i64 y.id, .int .i64 y.arg, .int .u8 (y.kind : Int), .int .i64 y.n] 40) = V at k0 k1 hba ⊢
  obtain ⟨⟨c0, c1, c2, c3⟩, -, hl0⟩ := four_c k0
  obtain ⟨⟨d0, d1, d2, d3⟩, -, hl1⟩ := four_c k1
  clear k0 k1
  have HC := Lib.hid (fun a b W => Tryz.cmp_Compare_int a b W)
  have H8 := Lib.hid (fun a b W => compare8_any a b W)
  go_region_held3 (fun w' => w'.cell? ⟨w.heap.size, 0, none⟩ = some (.int .i64 x.id) ∧ w'.cell? ⟨w.heap.size, 1, none⟩ = some (.int .i64 x.arg) ∧ w'.cell? ⟨w.heap.size, 2, none⟩ = some (.int .u8 (x.kind : Int)) ∧ w'.cell? ⟨w.heap.size, 3, none⟩ = some (.int .i64 x.n) ∧ w'.cell? ⟨w.heap.size + 1, 0, none⟩ = some (.int .i64 y.id) ∧ w'.cell? ⟨w.heap.size + 1, 1, none⟩ = some (.int .i64 y.arg) ∧ w'.cell? ⟨w.heap.size + 1, 2, none⟩ = some (.int .u8 (y.kind : Int)) ∧ w'.cell? ⟨w.heap.size + 1, 3, none⟩ = some (.int .i64 y.n))
    (first
      | (go_split_ands; all_goals (first | exact c0 | exact c1 | exact c2 | exact c3 | exact d0 | exact d1 | exact d2 | exact d3 | assumption))
      | go_keep)
    ((first
      | (go_at_call 106; refine (HC.out _ _ _).mono ?_; rintro e _ ⟨rfl, rfl⟩)
      | (go_at_call 107; refine (H8.out _ _ _).mono ?_; rintro e _ ⟨rfl, rfl⟩)
      | (go_at_call 105; refine (HO.out _).mono ?_; rintro e _ ⟨rfl, rfl⟩)))
  have hbe := (hba.alloc hba.size (.cells #[.int .i64 (Lib.compareInt x.id y.id), .int .i64 (Lib.compareInt x.arg y.arg), .int .i64 (Lib.compareInt x.kind y.kind), .int .i64 (Lib.compareInt x.n y.n)] 3)).drew
  go_wp2
  go_ret
  exact ⟨rfl, hbe⟩

end Go.Proofs.YtoncdnelacolaaaGreatDoor.Ar
