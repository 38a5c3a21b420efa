/- The places of an arena, and the moves of a place, by value. -/
import Derived.Test.YtoncdnelacolaaaGreatDoorAWalkC
import Derived.Test.YtoncdnelacolaaaGreatDoorPHead
namespace Go.Proofs.YtoncdnelacolaaaGreatDoor.Ar
open Go Go.Proofs Go.RowKit Lx Ps

theorem below4 {B b : Nat} {W V : World} {x y z u : Value} (h : Below B W V) (hb : B ≤ b) : Below B W ((((V.setCell ⟨b, 0, none⟩ x).setCell ⟨b, 1, none⟩ y).setCell ⟨b, 2, none⟩ z).setCell ⟨b, 3, none⟩ u) :=
  (((h.setCell (by exact hb) _).setCell (by exact hb) _).setCell (by exact hb) _).setCell (by exact hb) _
theorem below5 {B b : Nat} {W V : World} {x y z u v : Value} (h : Below B W V) (hb : B ≤ b) : Below B W (((((V.setCell ⟨b, 0, none⟩ x).setCell ⟨b, 1, none⟩ y).setCell ⟨b, 2, none⟩ z).setCell ⟨b, 3, none⟩ u).setCell ⟨b, 4, none⟩ v) :=
  (below4 h hb).setCell (by exact hb) _
def zPl : Value := .agg #[.bool false, .int .i64 0, .int .i64 0, .int .i64 0, .bool false]
/-- What the function place returns. -/
def plR (o : Option Pl) : Value := match o with
  | some p => .tuple #[plV p, .bool true]
  | none => .tuple #[zPl, .bool false]

set_option maxHeartbeats 400000 in
theorem ask_any (p : Pl) (w : World) :
    Calls Tryz.prog 116 #[plV p] w fun r w' => r = .returned (.agg #[.int .i64 (p.id : Int), .int .i64 (p.arg : Int), .int .u8 1, .int .i64 0]) ∧ Below w.heap.size w w' := by
  unfold plV
  have hba : Below w.heap.size w ((w.alloc (.cells #[.bool p.base.cell, .int .i64 p.base.n, .int .i64 (p.id : Int), .int .i64 (p.arg : Int), .bool p.jumps] 85)).alloc (.cells #[.int .i64 0, .int .i64 0, .int .u8 0, .int .i64 0] 40)) := ((Below.refl _ _).alloc (Nat.le_refl _) _).alloc (by simp) _
  go_enter Tryz.func116, Tryz.ntmps116
  go_wp2
  refine bodyPost_ret (v := .agg #[.int .i64 (p.id : Int), .int .i64 (p.arg : Int), .int .u8 1, .int .i64 0]) (by simp [results, Tryz.results116, go_sem]) rfl ⟨rfl, ?_⟩
  exact ((Below.refl _ _).alloc (Nat.le_refl _) _).alloc (by simp) _

set_option maxHeartbeats 400000 in
theorem put_any (p : Pl) (n : Int) (w : World) :
    Calls Tryz.prog 117 #[plV p, .int .i64 n] w fun r w' => r = .returned (.agg #[.int .i64 (p.id : Int), .int .i64 (p.arg : Int), .int .u8 2, .int .i64 n]) ∧ Below w.heap.size w w' := by
  unfold plV
  have hba : Below w.heap.size w ((w.alloc (.cells #[.bool p.base.cell, .int .i64 p.base.n, .int .i64 (p.id : Int), .int .i64 (p.arg : Int), .bool p.jumps] 85)).alloc (.cells #[.int .i64 0, .int .i64 0, .int .u8 0, .int .i64 0] 40)) := ((Below.refl _ _).alloc (Nat.le_refl _) _).alloc (by simp) _
  go_enter Tryz.func117, Tryz.ntmps117
  go_wp2
  refine bodyPost_ret (v := .agg #[.int .i64 (p.id : Int), .int .i64 (p.arg : Int), .int .u8 2, .int .i64 n]) (by simp [results, Tryz.results117, go_sem]) rfl ⟨rfl, ?_⟩
  exact ((Below.refl _ _).alloc (Nat.le_refl _) _).alloc (by simp) _

set_option maxHeartbeats 400000 in
theorem tell_any (p : Pl) (n : Int) (w : World) :
    Calls Tryz.prog 119 #[plV p, .int .i64 n] w fun r w' => r = .returned (.agg #[.int .i64 (p.id : Int), .int .i64 (p.arg : Int), .int .u8 3, .int .i64 n]) ∧ Below w.heap.size w w' := by
  unfold plV
  have hba : Below w.heap.size w ((w.alloc (.cells #[.bool p.base.cell, .int .i64 p.base.n, .int .i64 (p.id : Int), .int .i64 (p.arg : Int), .bool p.jumps] 85)).alloc (.cells #[.int .i64 0, .int .i64 0, .int .u8 0, .int .i64 0] 40)) := ((Below.refl _ _).alloc (Nat.le_refl _) _).alloc (by simp) _
  go_enter Tryz.func119, Tryz.ntmps119
  go_wp2
  refine bodyPost_ret (v := .agg #[.int .i64 (p.id : Int), .int .i64 (p.arg : Int), .int .u8 3, .int .i64 n]) (by simp [results, Tryz.results119, go_sem]) rfl ⟨rfl, ?_⟩
  exact ((Below.refl _ _).alloc (Nat.le_refl _) _).alloc (by simp) _

set_option maxHeartbeats 400000 in
theorem isVal_any (p : Pl) (n : Int) (w : World) :
    Calls Tryz.prog 118 #[plV p, .int .i64 n] w fun r w' => r = .returned (.bool (isValP p n)) ∧ Below w.heap.size w w' := by
  unfold plV
  have hba : Below w.heap.size w (w.alloc (.cells #[.bool p.base.cell, .int .i64 p.base.n, .int .i64 (p.id : Int), .int .i64 (p.arg : Int), .bool p.jumps] 85)) := (Below.refl _ _).alloc (Nat.le_refl _) _
  by_cases h : 0 ≤ n
  · go_enter Tryz.func118, Tryz.ntmps118
    go_wp2
    go_ret
    exact ⟨ret_bool (by rw [Bool.eq_iff_iff]; simp [isValP]; omega), hba⟩
  · go_enter Tryz.func118, Tryz.ntmps118
    go_wp2
    go_ret
    exact ⟨ret_bool (by rw [Bool.eq_iff_iff]; simp [isValP]; omega), hba⟩

set_option maxHeartbeats 400000 in
theorem isId_any (p : Pl) (w : World) :
    Calls Tryz.prog 73 #[plV p] w fun r w' => r = .returned (.bool (isId p)) ∧ Below w.heap.size w w' := by
  unfold plV
  have hba : Below w.heap.size w (w.alloc (.cells #[.bool p.base.cell, .int .i64 p.base.n, .int .i64 (p.id : Int), .int .i64 (p.arg : Int), .bool p.jumps] 85)) := (Below.refl _ _).alloc (Nat.le_refl _) _
  by_cases h : 0 < p.id
  · have h' : (0 : Int) < (p.id : Int) := by omega
    go_enter Tryz.func73, Tryz.ntmps73
    go_wp2
    go_ret
    exact ⟨ret_bool (by rw [Bool.eq_iff_iff]; simp [isId]; omega), hba⟩
  · have h' : ¬ (0 : Int) < (p.id : Int) := by omega
    go_enter Tryz.func73, Tryz.ntmps73
    go_wp2
    go_ret
    exact ⟨ret_bool (by rw [Bool.eq_iff_iff]; simp [isId]; omega), hba⟩

end Go.Proofs.YtoncdnelacolaaaGreatDoor.Ar
