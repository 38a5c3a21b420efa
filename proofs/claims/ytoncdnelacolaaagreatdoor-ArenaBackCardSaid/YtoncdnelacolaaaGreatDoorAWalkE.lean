/- The place of an arena with two numbers. -/
import Derived.Test.YtoncdnelacolaaaGreatDoorAWalkC
import Derived.Test.YtoncdnelacolaaaGreatDoorPHead
namespace Go.Proofs.YtoncdnelacolaaaGreatDoor.Ar
open Go Go.Proofs Go.RowKit Lx Ps

theorem below4 {B b : Nat} {W V : World} {x y z u : Value} (h : Below B W V) (hb : B ≤ b) : Below B W ((((V.setCell ⟨b, 0, none⟩ x).setCell ⟨b, 1, none⟩ y).setCell ⟨b, 2, none⟩ z).setCell ⟨b, 3, none⟩ u) :=
  (((h.setCell (by exact hb) _).setCell (by exact hb) _).setCell (by exact hb) _).setCell (by exact hb) _
theorem below5 {B b : Nat} {W V : World} {x y z u v : Value} (h : Below B W V) (hb : B ≤ b) : Below B W (((((V.setCell ⟨b, 0, none⟩ x).setCell ⟨b, 1, none⟩ y).setCell ⟨b, 2, none⟩ z).setCell ⟨b, 3, none⟩ u).setCell ⟨b, 4, none⟩ v) :=
  (below4 h hb).setCell (by exact hb) _
def zPl : Value := .agg #[.bool false, .int .i64 0, .int .i64 0, .int .i64 0, .bool false]
/-- What the function place returns. -/
def plR (o : Option Pl) : Value := match o with
  | some p => .tuple #[plV p, .bool true]
  | none => .tuple #[zPl, .bool false]

set_option maxHeartbeats 400000 in
theorem ask_any (p : Pl) (w : World) :
    Calls Tryz.prog 116 #[plV p] w fun r w' => r = .returned (.agg #[.int .i64 (p.id : Int), .int .i64 (p.arg : Int), .int .u8 1, .int .i64 0]) ∧ Below w.heap.size w w' := by
  unfold plV
  have hba : Below w.heap.size w ((w.alloc (.cells #[.bool p.base.cell, .int .i64 p.base.n, .int .i64 (p.id : Int), .int .i64 (p.arg : Int), .bool p.jumps] 85)).alloc (.cells #[.int .i64 0, .int .i64 0, .int .u8 0, .int .i64 0] 40)) := ((Below.refl _ _).alloc (Nat.le_refl _) _).alloc (by simp) _
  go_enter Tryz.func116, Tryz.ntmps116
  go_wp2
  refine bodyPost_ret (v := .agg #[.int .i64 (p.id : Int), .int .i64 (p.arg : Int), .int .u8 1, .int .i64 0]) (by simp [results, Tryz.results116, go_sem]) rfl ⟨rfl, ?_⟩
  exact ((Below.refl _ _).alloc (Nat.le_refl _) _).alloc (by simp) _

set_option maxHeartbeats 400000 in
theorem put_any (p : Pl) (n : Int) (w : World) :
    Calls Tryz.prog 117 #[plV p, .int .i64 n] w fun r w' => r = .returned (.agg #[.int .i64 (p.id : Int), .int .i64 (p.arg : Int), .int .u8 2, .int .i64 n]) ∧ Below w.heap.size w w' := by
  unfold plV
  have hba : Below w.heap.size w ((w.alloc (.cells #[.bool p.base.cell, .int .i64 p.base.n, .int .i64 (p.id : Int), .int .i64 (p.arg : Int), .bool p.jumps] 85)).alloc (.cells #[.int .i64 0, .int .i64 0, .int .u8 0, .int .i64 0] 40)) := ((Below.refl _ _).alloc (Nat.le_refl _) _).alloc (by simp) _
  go_enter Tryz.func117, Tryz.ntmps117
  go_wp2
  refine bodyPost_ret (v := .agg #[.int .i64 (p.id : Int), .int .i64 (p.arg : Int), .int .u8 2, .int .i64 n]) (by simp [results, Tryz.results117, go_sem]) rfl ⟨rfl, ?_⟩
  exact ((Below.refl _ _).alloc (Nat.le_refl _) _).alloc (by simp) _

set_option maxHeartbeats 400000 in
theorem tell_any (p : Pl) (n : Int) (w : World) :
    Calls Tryz.prog 119 #[plV p, .int .i64 n] w fun r w' => r = .returned (.agg #[.int .i64 (p.id : Int), .int .i64 (p.arg : Int), .int .u8 3, .int .i64 n]) ∧ Below w.heap.size w w' := by
  unfold plV
  have hba : Below w.heap.size w ((w.alloc (.cells #[.bool p.base.cell, .int .i64 p.base.n, .int .i64 (p.id : Int), .int .i64 (p.arg : Int), .bool p.jumps] 85)).alloc (.cells #[.int .i64 0, .int .i64 0, .int .u8 0, .int .i64 0] 40)) := ((Below.refl _ _).alloc (Nat.le_refl _) _).alloc (by simp) _
  go_enter Tryz.func119, Tryz.ntmps119
  go_wp2
  refine bodyPost_ret (v := .agg #[.int .i64 (p.id : Int), .int .i64 (p.arg : Int), .int .u8 3, .int .i64 n]) (by simp [results, Tryz.results119, go_sem]) rfl ⟨rfl, ?_⟩
  exact ((Below.refl _ _).alloc (Nat.le_refl _) _).alloc (by simp) _

set_option maxHeartbeats 400000 in
theorem isVal_any (p : Pl) (n : Int) (w : World) :
    Calls Tryz.prog 118 #[plV p, .int .i64 n] w fun r w' => r = .returned (.bool (isValP p n)) ∧ Below w.heap.size w w' := by
  unfold plV
  have hba : Below w.heap.size w (w.alloc (.cells #[.bool p.base.cell, .int .i64 p.base.n, .int .i64 (p.id : Int), .int .i64 (p.arg : Int), .bool p.jumps] 85)) := (Below.refl _ _).alloc (Nat.le_refl _) _
  by_cases h : 0 ≤ n
  · go_enter Tryz.func118, Tryz.ntmps118
    go_wp2
    go_ret
    exact ⟨ret_bool (by rw [Bool.eq_iff_iff]; simp [isValP]; omega), hba⟩
  · go_enter Tryz.func118, Tryz.ntmps118
    go_wp2
    go_ret
    exact ⟨ret_bool (by rw [Bool.eq_iff_iff]; simp [isValP]; omega), hba⟩

set_option maxHeartbeats 400000 in
theorem isId_any (p : Pl) (w : World) :
    Calls Tryz.prog 73 #[plV p] w fun r w' => r = .returned (.bool (isId p)) ∧ Below w.heap.size w w' := by
  unfold plV
  have hba : Below w.heap.size w (w.alloc (.cells #[.bool p.base.cell, .int .i64 p.base.n, .int .i64 (p.id : Int), .int .i64 (p.arg : Int), .bool p.jumps] 85)) := (Below.refl _ _).alloc (Nat.le_refl _) _
  by_cases h : 0 < p.id
  · have h' : (0 : Int) < (p.id : Int) := by omega
    go_enter Tryz.func73, Tryz.ntmps73
    go_wp2
    go_ret
    exact ⟨ret_bool (by rw [Bool.eq_iff_iff]; simp [isId]; omega), hba⟩
  · have h' : ¬ (0 : Int) < (p.id : Int) := by omega
    go_enter Tryz.func73, Tryz.ntmps73
    go_wp2
    go_ret
    exact ⟨ret_bool (by rw [Bool.eq_iff_iff]; simp [isId]; omega), hba⟩

end Go.Proofs.YtoncdnelacolaaaGreatDoor.Ar

namespace Go.Proofs.YtoncdnelacolaaaGreatDoor.Ar
open Go Go.Proofs Go.RowKit Lx Ps

theorem below_two {w : World} {o1 o2 : Obj} : Below w.heap.size w ((w.alloc o1).alloc o2) := ((Below.refl _ _).alloc (Nat.le_refl _) _).alloc (by simp) _
theorem below_three {w : World} {o1 o2 o3 : Obj} : Below w.heap.size w (((w.alloc o1).alloc o2).alloc o3) := below_two.alloc (by simp; omega) _
theorem below_four {w : World} {o1 o2 o3 o4 : Obj} : Below w.heap.size w ((((w.alloc o1).alloc o2).alloc o3).alloc o4) := below_three.alloc (by simp; omega) _

set_option maxRecDepth 100000 in
set_option maxHeartbeats 2000000 in
/-- The place with two numbers. -/
theorem place_any (ids : Value) (a : Ar) (id arg : Int) (w : World) (hin : ArIn w ids a) :
    Calls Tryz.prog 70 #[arV ids a, .int .i64 id, .int .i64 arg] w fun r w' => r = .returned (plR (plAt a id arg)) ∧ Below w.heap.size w w' := by
  have hlen := hin.len
  obtain ⟨A, cap, rfl, hA⟩ := hin.sl
  have hls := hin.lens
  clear hin
  unfold arV
  by_cases h00 : id = 0 ∧ arg = 0
  · obtain ⟨rfl, rfl⟩ := h00
    go_enter Tryz.func70, Tryz.ntmps70
    go_wp2
    refine bodyPost_ret (v := .tuple #[.agg #[.bool a.root.cell, .int .i64 a.root.n, .int .i64 0, .int .i64 0, .bool a.jumps], .bool true]) (by simp [results, Tryz.results70, go_sem]) rfl ⟨by rw [plAt_root]; rfl, below_two⟩
  · by_cases hno : id < 1 ∨ (a.ids.length : Int) < id
    · have HN := Lib.hid (plAt_none_id h00 hno)
      have hfin : ∀ V : World, Below w.heap.size w V → Below w.heap.size w V := fun _ h => h
      by_cases h0 : id = 0
      · subst h0
        have harg : arg ≠ 0 := fun e => h00 ⟨rfl, e⟩
        have h1 : decide (arg = 0) = false := by simpa using harg
        have h2 : (arg == 0) = false := by simpa using harg
        clear h00 hno
        go_enter Tryz.func70, Tryz.ntmps70
        go_wp2
        exact bodyPost_ret (v := .tuple #[.agg #[.bool false, .int .i64 0, .int .i64 0, .int .i64 0, .bool false], .bool false]) (by simp [results, Tryz.results70, go_sem]) rfl ⟨by rw [HN.out]; rfl, below_two⟩
      · have h2 : (id == 0) = false := by simpa using h0
        have h3 : decide (id = 0) = false := by simpa using h0
        clear h00
        rcases hno with hno | hno
        · go_enter Tryz.func70, Tryz.ntmps70
          go_wp2
          exact bodyPost_ret (v := .tuple #[.agg #[.bool false, .int .i64 0, .int .i64 0, .int .i64 0, .bool false], .bool false]) (by simp [results, Tryz.results70, go_sem]) rfl ⟨by rw [HN.out]; rfl, below_two⟩
        · have h4 : ¬ id < 1 := by omega
          go_enter Tryz.func70, Tryz.ntmps70
          go_wp2
          exact bodyPost_ret (v := .tuple #[.agg #[.bool false, .int .i64 0, .int .i64 0, .int .i64 0, .bool false], .bool false]) (by simp [results, Tryz.results70, go_sem]) rfl ⟨by rw [HN.out]; rfl, below_two⟩
    · have hid1 : 1 ≤ id := by omega
      obtain ⟨k, rfl⟩ : ∃ k : Nat, id = ((k + 1 : Nat) : Int) := ⟨(id - 1).toNat, by omega⟩
      have hk : k < a.ids.length := by omega
      obtain ⟨b1, o1, rfl, hb1, hc1⟩ := hA (by omega)
      have hget := List.getElem?_eq_getElem hk
      have hml := hls _ (List.getElem_mem hk)
      obtain ⟨pv, p0, p1, p2, p3⟩ := hc1 k _ hget
      generalize a.ids[k] = t at hget p0 p1 p2 p3 hml
      have hget' : a.ids[(k + 1) - 1]? = some t := by simpa using hget
      clear hc1 hA hls hget h00 hno
      obtain ⟨A2, c2, rfl, hA2⟩ := p0
      have e1 : IntKind.i64.wrap (((k + 1 : Nat) : Int) - 1) = (k : Int) := by rw [IntWalk.i64_in _ (by omega)]; omega
      have g1 : ¬ ((k + 1 : Nat) : Int) < 1 := by omega
      have g2 : ¬ (a.ids.length : Int) < ((k + 1 : Nat) : Int) := by omega
      have g3 : ¬ ((k + 1 : Nat) : Int) = 0 := by omega
      by_cases ha0 : arg = 0
      · subst ha0
        have HN := Lib.hid (plAt_id (a := a) (id := k + 1) (by omega) hget')
        go_enter Tryz.func70, Tryz.ntmps70
        go_wp2
        · have hj : a.jumps = true := by assumption
          exact bodyPost_ret (v := .tuple #[.agg #[.bool t.result.cell, .int .i64 t.result.n, .int .i64 ((k : Int) + 1), .int .i64 0, .bool true], .bool true]) (by simp [results, Tryz.results70, go_sem]) rfl ⟨by have h9 := HN.out; simp only [Int.natCast_add, Int.natCast_one, hj] at h9 ⊢; rw [h9]; rfl, below_three⟩
        · have hj : a.jumps = false := by simpa using ‹¬a.jumps = true›
          exact bodyPost_ret (v := .tuple #[.agg #[.bool t.result.cell, .int .i64 t.result.n, .int .i64 ((k : Int) + 1), .int .i64 0, .bool (decide ((0 : Int) < (t.params.length : Int)))], .bool true]) (by simp [results, Tryz.results70, go_sem]) rfl ⟨by have h9 := HN.out; simp only [Int.natCast_add, Int.natCast_one, hj] at h9 ⊢; rw [h9]; simp [plR, plV], below_three⟩
      · by_cases ha1 : 1 ≤ arg ∧ arg ≤ t.params.length
        · obtain ⟨ha1, ha2⟩ := ha1
          obtain ⟨j, rfl⟩ : ∃ j : Nat, arg = ((j + 1 : Nat) : Int) := ⟨(arg - 1).toNat, by omega⟩
          have hj : j < t.params.length := by omega
          obtain ⟨b2, o2, rfl, hb2, hc2⟩ := hA2 (by omega)
          have hget2 := List.getElem?_eq_getElem hj
          obtain ⟨q1, q2⟩ := hc2 j _ hget2
          generalize t.params[j] = x at hget2 q1 q2
          have hb21 : b2 < w.heap.size + 1 := by omega
          have hb22 : b2 < w.heap.size + 1 + 1 := by omega
          have HN := Lib.hid (plAt_param (a := a) (id := k + 1) (arg := j + 1) (by omega) (by omega) hget' (by simpa using hget2))
          clear hc2 hA2 hget2 hget'
          go_enter Tryz.func70, Tryz.ntmps70
          go_wp2
          exact bodyPost_ret (v := .tuple #[.agg #[.bool x.cell, .int .i64 x.n, .int .i64 ((k : Int) + 1), .int .i64 ((j : Int) + 1), .bool true], .bool true]) (by simp [results, Tryz.results70, go_sem]) rfl ⟨by have h9 := HN.out; simp only [Int.natCast_add, Int.natCast_one] at h9 ⊢; rw [h9]; rfl, below_three⟩
        · have HN := Lib.hid (plAt_none_arg (a := a) (id := k + 1) (arg := arg) (by omega) hget' ha0 (by omega))
          clear hget'
          by_cases ha2 : 1 ≤ arg
          · go_enter Tryz.func70, Tryz.ntmps70
            go_wp2
            exact bodyPost_ret (v := .tuple #[.agg #[.bool false, .int .i64 0, .int .i64 0, .int .i64 0, .bool false], .bool false]) (by simp [results, Tryz.results70, go_sem]) rfl ⟨by have h9 := HN.out; simp only [Int.natCast_add, Int.natCast_one] at h9; rw [h9]; rfl, below_three⟩
          · go_enter Tryz.func70, Tryz.ntmps70
            go_wp2
            exact bodyPost_ret (v := .tuple #[.agg #[.bool false, .int .i64 0, .int .i64 0, .int .i64 0, .bool false], .bool false]) (by simp [results, Tryz.results70, go_sem]) rfl ⟨by have h9 := HN.out; simp only [Int.natCast_add, Int.natCast_one] at h9; rw [h9]; rfl, below_three⟩
end Go.Proofs.YtoncdnelacolaaaGreatDoor.Ar
