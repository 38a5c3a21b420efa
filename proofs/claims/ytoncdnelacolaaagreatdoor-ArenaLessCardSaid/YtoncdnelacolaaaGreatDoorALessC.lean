/- Less. -/
import Derived.Test.YtoncdnelacolaaaGreatDoorALessB
namespace Go.Proofs.YtoncdnelacolaaaGreatDoor.Ar
open Go Go.Proofs Go.RowKit Lx Ps

def cmpL (x y : Mv) : List Int := [Lib.compareInt x.id y.id, Lib.compareInt x.arg y.arg, Lib.compareInt x.kind y.kind, Lib.compareInt x.n y.n]
theorem cmp_zero (a b : Int) : Lib.compareInt a b = 0 ↔ a = b := by
  unfold Lib.compareInt
  split
  · constructor <;> intro h <;> omega
  · split
    · constructor <;> intro h <;> omega
    · constructor <;> intro h <;> omega
theorem cmp_neg (a b : Int) : Lib.compareInt a b < 0 ↔ a < b := by
  unfold Lib.compareInt
  split
  · constructor <;> intro h <;> omega
  · split
    · constructor <;> intro h <;> omega
    · constructor <;> intro h <;> omega
theorem cmp_less (x y : Mv) : decide (orL (cmpL x y) < 0) = lessM x y := by
  unfold cmpL lessM
  rw [orL_cons]
  by_cases h1 : x.id = y.id
  · rw [if_pos ((cmp_zero _ _).2 h1), orL_cons, if_neg (show ¬ (x.id ≠ y.id) from fun e => e h1)]
    by_cases h2 : x.arg = y.arg
    · rw [if_pos ((cmp_zero _ _).2 h2), orL_cons, if_neg (show ¬ (x.arg ≠ y.arg) from fun e => e h2)]
      by_cases h3 : x.kind = y.kind
      · rw [if_pos ((cmp_zero _ _).2 (by omega)), orL_cons, if_neg (show ¬ (x.kind ≠ y.kind) from fun e => e h3)]
        by_cases h4 : x.n = y.n
        · rw [if_pos ((cmp_zero _ _).2 h4)]
          simp [orL]; omega
        · rw [if_neg (fun e => h4 ((cmp_zero _ _).1 e))]
          exact decide_eq_decide.2 (cmp_neg _ _)
      · rw [if_neg (fun e => h3 (by have := (cmp_zero _ _).1 e; omega)), if_pos h3]
        exact decide_eq_decide.2 ((cmp_neg _ _).trans (by omega))
    · rw [if_neg (fun e => h2 ((cmp_zero _ _).1 e)), if_pos h2]
      exact decide_eq_decide.2 (cmp_neg _ _)
  · rw [if_neg (fun e => h1 ((cmp_zero _ _).1 e)), if_pos h1]
    exact decide_eq_decide.2 (cmp_neg _ _)

end Go.Proofs.YtoncdnelacolaaaGreatDoor.Ar
