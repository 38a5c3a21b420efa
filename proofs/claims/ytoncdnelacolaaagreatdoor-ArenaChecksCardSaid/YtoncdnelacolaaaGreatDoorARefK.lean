/- The reference: Told. -/
import Derived.Test.YtoncdnelacolaaaGreatDoorARefF
import Derived.Test.YtoncdnelacolaaaGreatDoorAMoves
import Derived.Test.YtoncdnelacolaaaGreatDoorASpecD
import Derived.Test.YtoncdnelacolaaaGreatDoorARefC
namespace Go.Proofs.YtoncdnelacolaaaGreatDoor.Ar
open Go Go.Proofs Go.RowKit Go.Sort Lx Ps

def askB (m : Mv) : Bool := m.kind == 1 || m.kind == 2
set_option maxRecDepth 100000 in
set_option maxHeartbeats 400000 in
theorem refAsk_any (m : Mv) (w : World) :
    Calls Tryz.prog 83 #[mvV m] w fun e w' => e = .returned (.bool (askB m)) ∧ Below w.heap.size w w' := by
  have hb : Below w.heap.size w (w.alloc (.cells #[.int .i64 m.id, .int .i64 m.arg, .int .u8 (m.kind : Int), .int .i64 m.n] 40)) := (Below.refl _ _).alloc (Nat.le_refl _) _
  unfold mvV askB
  by_cases h1 : m.kind = 1
  · have e1 : ((m.kind : Int) == 1) = true := by simp; omega
    have H1 := Lib.hid h1
    clear h1
    go_enter Tryz.func83, Tryz.ntmps83
    go_wp2
    go_ret
    exact ⟨ret_bool (by simp [H1.out]), hb⟩
  · have e1 : ((m.kind : Int) == 1) = false := by simp; omega
    have e2 : ((m.kind : Int) == 2) = (m.kind == 2) := by rw [Bool.eq_iff_iff]; simp; omega
    go_enter Tryz.func83, Tryz.ntmps83
    go_wp2
    go_ret
    exact ⟨ret_bool (by simp [h1]), hb⟩

/-- Is a move the other one's? -/
def otherB (m : Mv) : Bool := (decide (0 < m.id) && m.arg == 0) != askB m
set_option maxRecDepth 100000 in
set_option maxHeartbeats 1000000 in
theorem refIsOther_any (m : Mv) (w : World) :
    Calls Tryz.prog 82 #[mvV m] w fun e w' => e = .returned (.bool (otherB m)) ∧ Below w.heap.size w w' := by
  have k0 := heap_alloc_new w (.cells #[.int .i64 m.id, .int .i64 m.arg, .int .u8 (m.kind : Int), .int .i64 m.n] 40)
  have hb : Below w.heap.size w (w.alloc (.cells #[.int .i64 m.id, .int .i64 m.arg, .int .u8 (m.kind : Int), .int .i64 m.n] 40)) := (Below.refl _ _).alloc (Nat.le_refl _) _
  have hA := fun V => refAsk_any m V
  unfold otherB
  unfold mvV at *
  by_cases h1 : 0 < m.id
  · have e1 : decide (0 < m.id) = true := by simpa using h1
    rw [e1, Bool.true_and]
    go_enter Tryz.func82, Tryz.ntmps82
    go_upto_region 1 with (fail)
    generalize w.alloc (.cells #[.int .i64 m.id, .int .i64 m.arg, .int .u8 (m.kind : Int), .int .i64 m.n] 40) = V at k0 hb ⊢
    have m0 := cell_regrown (v := .int .i64 m.id) (cell_of_row _ _ 0 _ _ _ k0)
    have m1 := cell_regrown (v := .int .i64 m.arg) (cell_of_row _ _ 1 _ _ _ k0)
    have m2 := cell_regrown (v := .int .u8 (m.kind : Int)) (cell_of_row _ _ 2 _ _ _ k0)
    have m3 := cell_regrown (v := .int .i64 m.n) (cell_of_row _ _ 3 _ _ _ k0)
    have cA := fun d os => Calls.regrown_of (hA («Sort».grow (redrawn V d) os))
    clear k0 hA
    refine wp_region_quiet_below (by kernel_rfl) (by kernel_rfl) ?_
    repeat (go_big_quiet_step ((exact cA _ _)))
    refine wpQuiet_nil ?_
    intro _ hw'
    obtain ⟨⟨dq, osq⟩, hw''⟩ := hw'
    subst hw''
    go_wp2
    go_ret
    exact ⟨rfl, hb.trans ((below_regrown V dq osq).mono hb.size)⟩
  · have e1 : decide (0 < m.id) = false := by simpa using h1
    rw [e1, Bool.false_and]
    go_enter Tryz.func82, Tryz.ntmps82
    go_upto_region 1 with (fail)
    generalize w.alloc (.cells #[.int .i64 m.id, .int .i64 m.arg, .int .u8 (m.kind : Int), .int .i64 m.n] 40) = V at k0 hb ⊢
    have m0 := cell_regrown (v := .int .i64 m.id) (cell_of_row _ _ 0 _ _ _ k0)
    have m1 := cell_regrown (v := .int .i64 m.arg) (cell_of_row _ _ 1 _ _ _ k0)
    have m2 := cell_regrown (v := .int .u8 (m.kind : Int)) (cell_of_row _ _ 2 _ _ _ k0)
    have m3 := cell_regrown (v := .int .i64 m.n) (cell_of_row _ _ 3 _ _ _ k0)
    have cA := fun d os => Calls.regrown_of (hA («Sort».grow (redrawn V d) os))
    clear k0 hA
    refine wp_region_quiet_below (by kernel_rfl) (by kernel_rfl) ?_
    repeat (go_big_quiet_step ((exact cA _ _)))
    refine wpQuiet_nil ?_
    intro _ hw'
    obtain ⟨⟨dq, osq⟩, hw''⟩ := hw'
    subst hw''
    go_wp2
    go_ret
    exact ⟨rfl, hb.trans ((below_regrown V dq osq).mono hb.size)⟩

theorem plAt_cases {a : Ar} {id arg : Int} {p : Pl} (h : plAt a id arg = some p) : (0 < arg ∧ p.jumps = true) ∨ (arg = 0 ∧ id = 0 ∧ p.jumps = a.jumps) ∨
    (arg = 0 ∧ ∃ (k : Nat) (t : Ty), id = (k : Int) + 1 ∧ a.ids[k]? = some t ∧ p.jumps = (a.jumps || decide (0 < t.params.length))) := by
  unfold plAt at h
  split at h
  · cases h
  · rename_i hn
    unfold rowL at h
    split at h
    · rename_i h0
      cases hk : arg.toNat with
      | zero =>
        rw [hk] at h
        simp at h
        subst h
        exact .inr (.inl ⟨by omega, by omega, rfl⟩)
      | succ k => rw [hk] at h; simp at h
    · rename_i h0
      split at h
      · simp at h
      · rename_i t ht
        cases hk : arg.toNat with
        | zero =>
          rw [hk] at h
          simp at h
          subst h
          exact .inr (.inr ⟨by omega, id.toNat - 1, t, by omega, ht, rfl⟩)
        | succ k =>
          rw [hk, List.getElem?_cons_succ, paramsFrom_get, Option.map_eq_some_iff] at h
          obtain ⟨b, _, rfl⟩ := h
          exact .inl ⟨by omega, rfl⟩

set_option maxRecDepth 100000 in
set_option maxHeartbeats 1000000 in
theorem refEscapes_any (ids : Value) (a : Ar) (id arg : Int) (p : Pl) (w : World) (hin : ArIn w ids a) (hp : plAt a id arg = some p) :
    Calls Tryz.prog 124 #[arV ids a, .int .i64 id, .int .i64 arg] w fun e w' => e = .returned (.bool p.jumps) ∧ Below w.heap.size w w' := by
  have hlen := hin.len
  obtain ⟨A, cap, rfl, hA⟩ := hin.sl
  clear hin
  have hba : Below w.heap.size w (w.alloc (.cells #[.slice A a.ids.length cap, .bool a.root.cell, .int .i64 a.root.n, .bool a.jumps] 26)) := (Below.refl _ _).alloc (Nat.le_refl _) _
  unfold arV
  rcases plAt_cases hp with ⟨h1, hj⟩ | ⟨rfl, rfl, hj⟩ | ⟨rfl, k, t, rfl, ht, hj⟩
  · have HJ := Lib.hid hj
    clear hj hp hA
    go_enter Tryz.func124, Tryz.ntmps124
    go_wp2
    go_ret
    exact ⟨ret_bool HJ.out.symm, hba⟩
  · rw [hj]
    clear hj hp hA
    generalize a.jumps = j at *
    cases j
    · go_enter Tryz.func124, Tryz.ntmps124
      go_wp2
      go_ret
      exact ⟨rfl, hba⟩
    · go_enter Tryz.func124, Tryz.ntmps124
      go_wp2
      go_ret
      exact ⟨rfl, hba⟩
  · rw [hj]
    have hk := (List.getElem?_eq_some_iff.1 ht).1
    obtain ⟨b1, o1, rfl, hb1, hc1⟩ := hA (by omega)
    obtain ⟨pv, p0, p1, -, -⟩ := hc1 k t ht
    obtain ⟨A2, c2, rfl, -⟩ := p0
    have e1 : IntKind.i64.wrap (((k : Int) + 1) - 1) = (k : Int) := by rw [IntWalk.i64_in _ (by omega)]; omega
    have e2 : (0 : Int) < (k : Int) + 1 := by omega
    have hlz : decide ((0 : Int) < (t.params.length : Int)) = decide (0 < t.params.length) := by rw [Bool.eq_iff_iff]; simp
    clear hj hp hA hc1 ht
    generalize a.jumps = j at *
    cases j
    · go_enter Tryz.func124, Tryz.ntmps124
      go_wp2
      go_ret
      exact ⟨ret_bool (by simp), hba⟩
    · go_enter Tryz.func124, Tryz.ntmps124
      go_wp2
      go_ret
      exact ⟨rfl, hba⟩

set_option maxRecDepth 100000 in
set_option maxHeartbeats 1000000 in
/-- The place of a move in a list. -/
theorem refFind_any (v : Value) (l : List Mv) (m : Mv) (w : World) (hv : SlM w v l) (hl : l.length ≤ 1000000) :
    Calls Tryz.prog 53 #[v, mvV m] w fun e w' => (∃ n : Int, e = .returned (.int .i64 n) ∧ ((n = -1 ∧ l.any (sameMv · m) = false) ∨ ∃ (k : Nat) (x : Mv), n = (k : Int) ∧ l[k]? = some x ∧ sameMv x m = true)) ∧ Below w.heap.size w w' := by
  obtain ⟨A, cap, rfl, hA⟩ := hv
  have k0 := heap_alloc_new w (.cells #[.int .i64 m.id, .int .i64 m.arg, .int .u8 (m.kind : Int), .int .i64 m.n] 40)
  have hba : Below w.heap.size w (w.alloc (.cells #[.int .i64 m.id, .int .i64 m.arg, .int .u8 (m.kind : Int), .int .i64 m.n] 40)) := (Below.refl _ _).alloc (Nat.le_refl _) _
  unfold mvV
  go_enter Tryz.func53, Tryz.ntmps53
  go_upto_region 1 with (fail)
  generalize w.alloc (.cells #[.int .i64 m.id, .int .i64 m.arg, .int .u8 (m.kind : Int), .int .i64 m.n] 40) = V at k0 hba ⊢
  obtain ⟨⟨r0, r1, r2, r3⟩, -, hl0⟩ := four_c k0
  go_wp2
  go_loopw [5] (fun i wr => ∃ k : Nat, k ≤ l.length ∧ i = .int .i64 k ∧ (l.take k).any (sameMv · m) = false ∧ Below V.heap.size V wr) (fun i _ => l.length - (intOf i).toNat)
  case atStart => exact ⟨0, Nat.zero_le _, rfl, rfl, Below.refl _ _⟩
  case round =>
    obtain ⟨k, hk, rfl, ht, hb⟩ := hrel
    have Ht := Lib.hid ht
    clear ht
    have r0' := (hb.cell (p := ⟨w.heap.size, 0, none⟩) hl0).trans r0
    have r1' := (hb.cell (p := ⟨w.heap.size, 1, none⟩) hl0).trans r1
    have r2' := (hb.cell (p := ⟨w.heap.size, 2, none⟩) hl0).trans r2
    have r3' := (hb.cell (p := ⟨w.heap.size, 3, none⟩) hl0).trans r3
    have hbb := hba.trans (hb.mono hba.size)
    clear r0 r1 r2 r3 k0
    by_cases hlt : k < l.length
    · obtain ⟨b1, o1, rfl, hb1, hc1⟩ := hA (by omega)
      obtain ⟨p0, p1, p2, p3⟩ := hc1 k _ (List.getElem?_eq_getElem hlt)
      have p0' := (hbb.cell (p := ⟨b1, o1 + k * 4, none⟩) hb1).trans p0
      have p1' := (hbb.cell (p := ⟨b1, o1 + k * 4 + 1, none⟩) hb1).trans p1
      have p2' := (hbb.cell (p := ⟨b1, o1 + k * 4 + 2, none⟩) hb1).trans p2
      have p3' := (hbb.cell (p := ⟨b1, o1 + k * 4 + 3, none⟩) hb1).trans p3
      have Hx := Lib.hid (show (l.take (k + 1)).any (sameMv · m) = sameMv l[k] m by rw [List.take_succ_eq_append_getElem hlt, List.any_append, Ht.out]; simp)
      have Hg := Lib.hid (List.getElem?_eq_getElem hlt)
      clear p0 p1 p2 p3 hc1 hA
      generalize l[k] = x at p0' p1' p2' p3' Hx Hg
      have hE : ∀ U : World, (Op.equalIn 10000 40 (.agg #[.int .i64 x.id, .int .i64 x.arg, .int .u8 (x.kind : Int), .int .i64 x.n]) (.agg #[.int .i64 m.id, .int .i64 m.arg, .int .u8 (m.kind : Int), .int .i64 m.n])).run Tryz.prog U = .ok (sameMv x m) U := fun U => mv_equal x m U
      cases hx : sameMv x m
      · rw [hx] at Hx hE
        clear hx
        go_wp2
        go_quiet (fail)
        go_wp2
        go_roundw
        case rel => exact ⟨k + 1, by omega, by go_num, Hx.out, below_drewN hb _⟩
        case measure => simp [intOf]; omega
      · have HX := Lib.hid hx
        rw [hx] at hE
        clear hx
        go_wp2
        go_quiet (fail)
        go_wp2
        go_ret
        exact ⟨⟨(k : Int), rfl, .inr ⟨k, x, rfl, Hg.out, HX.out⟩⟩, below_drewN hbb _⟩
    · have hall := Ht.out
      rw [List.take_of_length_le (by omega)] at hall
      have HALL := Lib.hid hall
      clear hall hA
      go_wp2
      go_ret
      exact ⟨⟨-1, rfl, .inl ⟨rfl, HALL.out⟩⟩, hbb⟩

set_option maxRecDepth 100000 in
set_option maxHeartbeats 1000000 in
/-- Two words that are the same. -/
theorem sameWord_eq (v u : Value) (l : List Mv) (w : World) (hv : SlM w v l) (hu : SlM w u l) (hl : l.length ≤ 1000000) :
    Calls Tryz.prog 25 #[v, u] w fun e w' => e = .returned (.bool true) ∧ Below w.heap.size w w' := by
  obtain ⟨A, c1, rfl, hA⟩ := hv
  obtain ⟨B, c2, rfl, hB⟩ := hu
  go_enter Tryz.func25, Tryz.ntmps25
  go_wp2
  go_loopw [5] (fun i wr => ∃ k : Nat, k ≤ l.length ∧ i = .int .i64 k ∧ Below w.heap.size w wr) (fun i _ => l.length - (intOf i).toNat)
  case atStart => exact ⟨0, Nat.zero_le _, rfl, Below.refl _ _⟩
  case round =>
    obtain ⟨k, hk, rfl, hbb⟩ := hrel
    by_cases hlt : k < l.length
    · obtain ⟨b1, o1, rfl, hb1, hc1⟩ := hA (by omega)
      obtain ⟨b2, o2, rfl, hb2, hc2⟩ := hB (by omega)
      obtain ⟨p0, p1, p2, p3⟩ := hc1 k _ (List.getElem?_eq_getElem hlt)
      obtain ⟨q0, q1, q2, q3⟩ := hc2 k _ (List.getElem?_eq_getElem hlt)
      have p0' := (hbb.cell (p := ⟨b1, o1 + k * 4, none⟩) hb1).trans p0
      have p1' := (hbb.cell (p := ⟨b1, o1 + k * 4 + 1, none⟩) hb1).trans p1
      have p2' := (hbb.cell (p := ⟨b1, o1 + k * 4 + 2, none⟩) hb1).trans p2
      have p3' := (hbb.cell (p := ⟨b1, o1 + k * 4 + 3, none⟩) hb1).trans p3
      have q0' := (hbb.cell (p := ⟨b2, o2 + k * 4, none⟩) hb2).trans q0
      have q1' := (hbb.cell (p := ⟨b2, o2 + k * 4 + 1, none⟩) hb2).trans q1
      have q2' := (hbb.cell (p := ⟨b2, o2 + k * 4 + 2, none⟩) hb2).trans q2
      have q3' := (hbb.cell (p := ⟨b2, o2 + k * 4 + 3, none⟩) hb2).trans q3
      clear p0 p1 p2 p3 q0 q1 q2 q3 hc1 hc2 hA hB
      generalize l[k] = x at p0' p1' p2' p3' q0' q1' q2' q3'
      have hE : ∀ U : World, (Op.equalIn 10000 40 (.agg #[.int .i64 x.id, .int .i64 x.arg, .int .u8 (x.kind : Int), .int .i64 x.n]) (.agg #[.int .i64 x.id, .int .i64 x.arg, .int .u8 (x.kind : Int), .int .i64 x.n])).run Tryz.prog U = .ok true U := fun U => by rw [mv_equal x x U, (sameMv_iff x x).2 rfl]
      go_wp2
      go_quiet (fail)
      go_wp2
      go_roundw
      case rel => exact ⟨k + 1, by omega, by go_num, below_drewN hbb _⟩
      case measure => simp [intOf]; omega
    · go_wp2
      go_ret
      exact ⟨rfl, hbb⟩

end Go.Proofs.YtoncdnelacolaaaGreatDoor.Ar

namespace Go.Proofs.YtoncdnelacolaaaGreatDoor.Ar
open Go Go.Proofs Go.RowKit Go.Sort Lx Ps

theorem questA_none {a : Ar} {id arg : Int} (h : plAt a id arg = none) : questA a id arg = [] := by unfold questA; rw [h]
theorem questA_some {a : Ar} {id arg : Int} {p : Pl} (h : plAt a id arg = some p) : questA a id arg = questP p := by unfold questA; rw [h]
theorem toldA_none {a : Ar} {id arg : Int} {k : Nat} (h : plAt a id arg = none) : toldA a id arg k = [] := by unfold toldA; rw [h]
theorem toldA_some {a : Ar} {id arg : Int} {k : Nat} {p : Pl} (h : plAt a id arg = some p) : toldA a id arg k = toldP p k := by unfold toldA; rw [h]
theorem mvCells_nil : mvCells [] = [] := rfl
theorem lit_own (W : World) (m : Mv) {base : Nat} (hb : base ≤ W.heap.size) : (W.alloc (.cells #[.int .i64 m.id, .int .i64 m.arg, .int .u8 (m.kind : Int), .int .i64 m.n] 40)).ownsRow base 40 4 (.slice (some ⟨W.heap.size, 0, none⟩) 1 1) [m].length (mvCells [m]) := by
  have := World.ownsRow_lit (base := base) (e := 40) (size := 4) W #[.int .i64 m.id, .int .i64 m.arg, .int .u8 (m.kind : Int), .int .i64 m.n] 1 hb (by decide) rfl
  rw [mvCells_one]
  exact this
theorem mv_one (m : Mv) : ∀ u ∈ mvCells [m], u.oneCell' = true := fun u hu => by
  rw [mvCells_one] at hu
  simp at hu
  rcases hu with rfl | rfl | rfl | rfl <;> rfl

set_option maxRecDepth 100000 in
set_option maxHeartbeats 1000000 in
theorem refQuestions_any (ids : Value) (a : Ar) (id arg : Int) (w : World) (hin : ArIn w ids a) (hR : ∀ p, plAt a id arg = some p → ∃ N : Nat, p.base.n = (N : Int) ∧ N ≤ 64) :
    Calls Tryz.prog 86 #[arV ids a, .int .i64 id, .int .i64 arg] w fun e w' => ∃ v, e = .returned v ∧ w'.ownsRow w.heap.size 40 4 v (questA a id arg).length (mvCells (questA a id arg)) ∧ Below w.heap.size w w' := by
  have hP : ∀ W, Below w.heap.size w W → Calls Tryz.prog 89 #[arV ids a, .int .i64 id, .int .i64 arg] W fun r w' => r = .returned (plBs (plAt a id arg)) ∧ Below W.heap.size W w' := fun W hb => refPlace_any ids a id arg W (hin.below hb)
  obtain ⟨A, cap, rfl, -⟩ := hin.sl
  clear hin
  have k0 := heap_alloc_new w (.cells #[.slice A a.ids.length cap, .bool a.root.cell, .int .i64 a.root.n, .bool a.jumps] 26)
  have hb0 : Below w.heap.size w (w.alloc (.cells #[.slice A a.ids.length cap, .bool a.root.cell, .int .i64 a.root.n, .bool a.jumps] 26)) := (Below.refl _ _).alloc (Nat.le_refl _) _
  unfold arV at *
  cases hp : plAt a id arg with
  | none =>
    rw [hp] at hP
    unfold plBs at hP
    have HP := Lib.hid hP
    have HQ := Lib.hid (questA_none hp)
    clear hP hp hR k0
    go_enter Tryz.func86, Tryz.ntmps86
    go_wp2_with (go_at_call 89; refine (HP.out _ hb0).mono ?_; rintro r w1 ⟨rfl, hb1⟩)
    have hb2 := hb0.trans (hb1.mono hb0.size)
    go_ret
    exact ⟨_, rfl, by rw [HQ.out]; exact World.ownsRow_nil _ _ _ _, hb2.alloc hb2.size _⟩
  | some p =>
    obtain ⟨N, hN, hN2⟩ := hR p hp
    obtain ⟨hi, ha⟩ := plAt_nums' hp
    rw [hp] at hP
    unfold plBs bsV at hP
    dsimp only at hP
    rw [questA_some hp]
    clear hp hR k0
    subst hi ha
    rw [hN] at hP
    have HP := Lib.hid hP
    clear hP
    obtain ⟨i0, hii, hz0, hz1, hz2⟩ := info_parts mv_info
    have HNN := Lib.hid hN
    cases hc : p.base.cell
    · have HQ := Lib.hid (show questP p = [askM p] by unfold questP; rw [hc]; rfl)
      rw [hc] at HP
      clear hc hN
      go_enter Tryz.func86, Tryz.ntmps86
      go_upto_region 4 with (go_at_call 89; refine (HP.out _ hb0).mono ?_; rintro r w1 ⟨rfl, hb1⟩)
      have hb2 := hb0.trans (hb1.mono hb0.size)
      have hb3 := hb2.alloc hb2.size (.cells #[.bool false, .int .i64 (N : Int)] 24)
      have j7 := heap_alloc_new w1 (.cells #[.bool false, .int .i64 (N : Int)] 24)
      have hG : w.heap.size ≤ w1.heap.size := hb2.size
      generalize w1.alloc (.cells #[.bool false, .int .i64 (N : Int)] 24) = X at j7 hb3 ⊢
      generalize w1.heap.size = G at *
      have q0 := cell_of_row _ _ 0 _ _ _ j7
      have q1 := cell_of_row _ _ 1 _ _ _ j7
      have hlG := (Array.getElem?_eq_some_iff.1 j7).1
      have hlo := lit_own X (askM p) (base := w.heap.size) hb3.size
      have hb4 := hb3.alloc hb3.size (.cells #[.int .i64 (p.id : Int), .int .i64 (p.arg : Int), .int .u8 1, .int .i64 0] 40)
      have HLO := Lib.hid hlo
      clear hlo HP
      go_wp2
      go_loopw [9, 10] (fun u c wr => u = .slice (some ⟨X.heap.size, 0, none⟩) 1 1 ∧ c = .int .i64 0 ∧ wr = X.alloc (.cells #[.int .i64 (p.id : Int), .int .i64 (p.arg : Int), .int .u8 1, .int .i64 0] 40)) (fun _ _ _ => 0)
      case atStart => exact ⟨rfl, rfl, rfl⟩
      case round =>
        obtain ⟨rfl, rfl, hw⟩ := hrel
        subst hw
        go_wp2
        go_ret
        exact ⟨_, rfl, by rw [HQ.out]; exact HLO.out, hb4⟩
    · have HQ := Lib.hid (show questP p = askM p :: (List.range N).map (putM p) by unfold questP putsL; rw [hc, if_pos rfl, hN]; rfl)
      rw [hc] at HP
      clear hc hN
      go_enter Tryz.func86, Tryz.ntmps86
      go_upto_region 4 with (go_at_call 89; refine (HP.out _ hb0).mono ?_; rintro r w1 ⟨rfl, hb1⟩)
      have hb2 := hb0.trans (hb1.mono hb0.size)
      have hb3 := hb2.alloc hb2.size (.cells #[.bool true, .int .i64 (N : Int)] 24)
      have j7 := heap_alloc_new w1 (.cells #[.bool true, .int .i64 (N : Int)] 24)
      have hG : w.heap.size ≤ w1.heap.size := hb2.size
      generalize w1.alloc (.cells #[.bool true, .int .i64 (N : Int)] 24) = X at j7 hb3 ⊢
      generalize w1.heap.size = G at *
      have hlG := (Array.getElem?_eq_some_iff.1 j7).1
      have hlo := lit_own X (askM p) (base := G + 1) (by omega)
      have hbX : Below X.heap.size X (X.alloc (.cells #[.int .i64 (p.id : Int), .int .i64 (p.arg : Int), .int .u8 1, .int .i64 0] 40)) := (Below.refl _ _).alloc (Nat.le_refl _) _
      have j7' := heap_below hbX hlG j7
      have hb4 := hb3.alloc hb3.size (.cells #[.int .i64 (p.id : Int), .int .i64 (p.arg : Int), .int .u8 1, .int .i64 0] 40)
      have HLO := Lib.hid hlo
      have HB4 := Lib.hid hb4
      have HJ7 := Lib.hid j7'
      clear hlo HP hb4 j7' hbX j7
      go_wp2
      go_loopw [9, 10] (fun u c wr => ∃ k : Nat, k ≤ N ∧ c = .int .i64 (k : Int) ∧ wr.ownsRow (G + 1) 40 4 u (askM p :: (List.range k).map (putM p)).length (mvCells (askM p :: (List.range k).map (putM p))) ∧ Below w.heap.size w wr ∧ G + 1 ≤ wr.heap.size ∧ wr.heap[G]? = some (.cells #[.bool true, .int .i64 (N : Int)] 24 (0, 0))) (fun _ c _ => N - (intOf c).toNat)
      case atStart => exact ⟨0, Nat.zero_le _, rfl, HLO.out, HB4.out, by simp; omega, HJ7.out⟩
      case round =>
        obtain ⟨k, hk, rfl, hown, hb, hsr, hr7⟩ := hrel
        have HR7 := Lib.hid hr7
        have q0 := cell_of_row _ _ 0 _ _ _ hr7
        have q1 := cell_of_row _ _ 1 _ _ _ hr7
        have hlr := (Array.getElem?_eq_some_iff.1 hr7).1
        obtain ⟨Ao, co, rfl⟩ := own_slice hown
        have hll : (askM p :: (List.range k).map (putM p)).length = k + 1 := by simp
        have HO := Lib.hid hown
        clear hown hr7 HLO HB4 HJ7
        rw [hll] at HO ⊢
        by_cases hlt : k < N
        · have hlt' : (k : Int) < (N : Int) := by omega
          have hs := HO.out.alloc (.cells #[.int .i64 (p.id : Int), .int .i64 (p.arg : Int), .int .u8 2, .int .i64 (k : Int)] 40)
          have hpl : askM p :: (List.range (k + 1)).map (putM p) = (askM p :: (List.range k).map (putM p)) ++ [putM p k] := by rw [List.range_succ, List.map_append]; rfl
          go_wp2_with (at_builtin; refine wpList_append_own _ rfl _ _ 32 rfl (G + 1) 40 i0 _ 4 32 Tryz.underlying32 hii hz0 hz1 hz2 rfl (by decide) _ _ _ rfl hs ⟨wr.heap.size, 0, none⟩ 1 1 [.int .i64 (p.id : Int), .int .i64 (p.arg : Int), .int .u8 2, .int .i64 (k : Int)] rfl rfl (lit_new2 _ _ _ rfl _) (fun u hu => by simp at hu; rcases hu with rfl | rfl | rfl | rfl <;> rfl) (by unfold maxLen; omega) (by omega) (by simp; omega) ?_; intro v' w2 hown' hgrow _)
          go_roundw
          case rel =>
            refine ⟨k + 1, by omega, by go_num, ?_, (hb.alloc hb.size _).grown hgrow (by simp; have := hb.size; omega) (fun j e => by have := (own_block hs e).1; omega), by have := hgrow.size; simp at this; omega, ?_⟩
            · rw [hpl, mvCells_append, mvCells_one, List.length_append, hll]
              exact hown'
            · rw [hgrow.block G (by simp; omega) (fun e => by have := (own_block hs e.symm).1; omega)]
              exact (Below.heap_alloc wr _ _ hlr).trans HR7.out
          case measure => simp [intOf]; omega
        · have hkN : k = N := by omega
          subst hkN
          have hlt' : ¬ (k : Int) < (k : Int) := by omega
          go_wp2
          go_ret
          exact ⟨_, rfl, by rw [HQ.out, hll]; exact World.ownsRow.mono HO.out (by omega), hb⟩

end Go.Proofs.YtoncdnelacolaaaGreatDoor.Ar

namespace Go.Proofs.YtoncdnelacolaaaGreatDoor.Ar
open Go Go.Proofs Go.RowKit Go.Sort Lx Ps

theorem row_next' {U W : World} {b : Nat} {o x : Obj} (hb : Below U.heap.size U W) (h : U.heap[b]? = some o) : (W.alloc x).heap[b]? = some o :=
  (Below.heap_alloc W x _ (Nat.lt_of_lt_of_le (Array.getElem?_eq_some_iff.1 h).1 hb.size)).trans (heap_below hb (Array.getElem?_eq_some_iff.1 h).1 h)
theorem tellsL_succ (p : Pl) (k : Nat) : tellsL p (k + 1) = tellsL p k ++ [tellM p (k : Int)] := by unfold tellsL; rw [List.range_succ, List.map_append]; rfl
theorem tellsL_len (p : Pl) (k : Nat) : (tellsL p k).length = k := by unfold tellsL; simp

set_option maxRecDepth 100000 in
set_option maxHeartbeats 2000000 in
theorem refTold_any (ids : Value) (a : Ar) (id arg : Int) (kind : Nat) (w : World) (hin : ArIn w ids a) (hR : ∀ p, plAt a id arg = some p → ∃ N : Nat, p.base.n = (N : Int) ∧ N ≤ 64) :
    Calls Tryz.prog 84 #[arV ids a, .int .i64 id, .int .i64 arg, .int .u8 (kind : Int)] w fun e w' => ∃ v, e = .returned v ∧ w'.ownsRow w.heap.size 40 4 v (toldA a id arg kind).length (mvCells (toldA a id arg kind)) ∧ Below w.heap.size w w' := by
  have hP : ∀ W, Below w.heap.size w W → Calls Tryz.prog 89 #[arV ids a, .int .i64 id, .int .i64 arg] W fun r w' => r = .returned (plBs (plAt a id arg)) ∧ Below W.heap.size W w' := fun W hb => refPlace_any ids a id arg W (hin.below hb)
  have hE : ∀ p, plAt a id arg = some p → ∀ W, Below w.heap.size w W → Calls Tryz.prog 124 #[arV ids a, .int .i64 id, .int .i64 arg] W fun r w' => r = .returned (.bool p.jumps) ∧ Below W.heap.size W w' := fun p hp W hb => refEscapes_any ids a id arg p W (hin.below hb) hp
  obtain ⟨A, cap, rfl, -⟩ := hin.sl
  clear hin
  have k0 := heap_alloc_new w (.cells #[.slice A a.ids.length cap, .bool a.root.cell, .int .i64 a.root.n, .bool a.jumps] 26)
  have hb0 : Below w.heap.size w (w.alloc (.cells #[.slice A a.ids.length cap, .bool a.root.cell, .int .i64 a.root.n, .bool a.jumps] 26)) := (Below.refl _ _).alloc (Nat.le_refl _) _
  unfold arV at *
  cases hp : plAt a id arg with
  | none =>
    rw [hp] at hP
    unfold plBs at hP
    have HP := Lib.hid hP
    have HQ := Lib.hid (toldA_none (k := kind) hp)
    clear hP hp hR k0 hE
    go_enter Tryz.func84, Tryz.ntmps84
    go_wp2_with (go_at_call 89; refine (HP.out _ hb0).mono ?_; rintro r w1 ⟨rfl, hb1⟩)
    have hb2 := hb0.trans (hb1.mono hb0.size)
    go_ret
    exact ⟨_, rfl, by rw [HQ.out]; exact World.ownsRow_nil _ _ _ _, hb2.alloc hb2.size _⟩
  | some p =>
    obtain ⟨N, hN, hN2⟩ := hR p hp
    obtain ⟨hi, ha⟩ := plAt_nums' hp
    have hE2 := hE p hp
    rw [hp] at hP
    unfold plBs bsV at hP
    dsimp only at hP
    rw [toldA_some hp]
    clear hp hR hE
    subst hi ha
    rw [hN] at hP
    have HP := Lib.hid hP
    have HK0 := Lib.hid k0
    clear hP k0
    obtain ⟨i0, hii, hz0, hz1, hz2⟩ := info_parts mv_info
    have hM : toldP p kind = (if p.jumps then [tellM p (-1)] else []) ++ tellsL p (if kind = 1 then N else min 1 N) := by
      unfold toldP tellP
      rw [show p.base.n.toNat = N by omega]
    generalize hMM : (if kind = 1 then N else min 1 N) = M at hM
    have hML : M ≤ N := by rw [← hMM]; split <;> omega
    have hM1 : ∀ k, k < M → k = 0 ∨ kind = 1 := fun k hk => by
      rw [← hMM] at hk
      split at hk
      · exact .inr (by assumption)
      · left; omega
    have hM2 : ¬ M < N ∨ (M = 1 ∧ kind ≠ 1) := by
      rw [← hMM]
      split
      · left; omega
      · rename_i h
        by_cases h0 : N ≤ 1
        · left; omega
        · right; exact ⟨by omega, h⟩
    have HM := Lib.hid hM
    have HM1 := Lib.hid hM1
    have HM2 := Lib.hid hM2
    clear hM hMM hM1 hM2 hN
    generalize p.base.cell = pc at *
    cases hj : p.jumps
    · rw [hj] at hE2
      have HE := Lib.hid hE2
      have HQ := Lib.hid (HM.out.trans (by rw [hj]; rfl) : toldP p kind = tellsL p M)
      clear hE2 hj HM
      go_enter Tryz.func84, Tryz.ntmps84
      go_upto_region 5 with (go_at_call 89; refine (HP.out _ hb0).mono ?_; rintro r w1 ⟨rfl, hb1⟩)
      have hb2 := hb0.trans (hb1.mono hb0.size)
      have hb3 := hb2.alloc hb2.size (.cells #[.bool pc, .int .i64 (N : Int)] 24)
      have j7 := heap_alloc_new w1 (.cells #[.bool pc, .int .i64 (N : Int)] 24)
      have j0 : (w1.alloc (.cells #[.bool pc, .int .i64 (N : Int)] 24)).heap[w.heap.size]? = _ := row_next' hb1 HK0.out
      have hG : w.heap.size ≤ w1.heap.size := hb2.size
      clear hb1 hb2 HK0 hb0 HP
      generalize w1.alloc (.cells #[.bool pc, .int .i64 (N : Int)] 24) = X at j7 j0 hb3 ⊢
      generalize w1.heap.size = G at *
      have hlG := (Array.getElem?_eq_some_iff.1 j7).1
      obtain ⟨⟨c0, c1, c2, c3⟩, -, -⟩ := four_c j0
      have HJ7 := Lib.hid j7
      clear j0 j7
      go_upto_region 7 with (go_at_call 124; refine (HE.out _ hb3).mono ?_; rintro r w2 ⟨rfl, hb4⟩)
      have hb5 := hb3.trans (hb4.mono hb3.size)
      have j7 := heap_below hb4 hlG HJ7.out
      have hsz5 : G + 1 ≤ w2.heap.size := by have := hb4.size; omega
      clear c0 c1 c2 c3 hb3 hb4 HE HJ7
      go_wp2
      go_loopw [11, 12] (fun u c wr => ∃ k : Nat, k ≤ M ∧ c = .int .i64 (k : Int) ∧ wr.ownsRow (G + 1) 40 4 u (tellsL p k).length (mvCells (tellsL p k)) ∧ Below w.heap.size w wr ∧ G + 1 ≤ wr.heap.size ∧ wr.heap[G]? = some (.cells #[.bool pc, .int .i64 (N : Int)] 24 (0, 0))) (fun _ c _ => N - (intOf c).toNat)
      case atStart => exact ⟨0, Nat.zero_le _, rfl, World.ownsRow_nil _ _ _ _, hb5, hsz5, j7⟩
      case round =>
        clear hb5 j7
        obtain ⟨k, hk, rfl, hown, hb, hsr, hr7⟩ := hrel
        have HR7 := Lib.hid hr7
        have q0 := cell_of_row _ _ 0 _ _ _ hr7
        have q1 := cell_of_row _ _ 1 _ _ _ hr7
        have hlr := (Array.getElem?_eq_some_iff.1 hr7).1
        obtain ⟨Ao, co, rfl⟩ := own_slice hown
        have hll : (tellsL p k).length ≤ 70 := by simp [tellsL_len]; omega
        have HO := Lib.hid hown
        clear hown hr7
        generalize hLL : (tellsL p k) = L at *
        have HLL := Lib.hid hLL
        clear hLL
        by_cases hlt : k < M
        · have hlt' : (k : Int) < (N : Int) := by omega
          have hs := HO.out.alloc (.cells #[.int .i64 (p.id : Int), .int .i64 (p.arg : Int), .int .u8 3, .int .i64 (k : Int)] 40)
          have hpl : tellsL p (k + 1) = L ++ [tellM p (k : Int)] := by rw [tellsL_succ, ← HLL.out]; try rw [List.append_assoc]
          rcases HM1.out k hlt with h0 | h0
          · have e0 : ((k : Int) == 0) = true := by simp; omega
            have H0 := Lib.hid h0
            clear h0
            go_wp2_with (at_builtin; refine wpList_append_own _ rfl _ _ 32 rfl (G + 1) 40 i0 _ 4 32 Tryz.underlying32 hii hz0 hz1 hz2 rfl (by decide) _ _ _ rfl hs ⟨wr.heap.size, 0, none⟩ 1 1 [.int .i64 (p.id : Int), .int .i64 (p.arg : Int), .int .u8 3, .int .i64 (k : Int)] rfl rfl (lit_new2 _ _ _ rfl _) (fun u hu => by simp at hu; rcases hu with rfl | rfl | rfl | rfl <;> rfl) (by unfold maxLen; omega) (by omega) (by simp; omega) ?_; intro v' w2 hown' hgrow _)
            go_roundw
            case rel =>
              refine ⟨k + 1, by omega, by go_num, ?_, (hb.alloc hb.size _).grown hgrow (by simp; have := hb.size; omega) (fun j e => by have := (own_block hs e).1; omega), by have := hgrow.size; simp at this; omega, ?_⟩
              · rw [hpl, mvCells_append, mvCells_one, List.length_append]
                exact hown'
              · rw [hgrow.block G (by simp; omega) (fun e => by have := (own_block hs e.symm).1; omega)]
                exact (Below.heap_alloc wr _ _ hlr).trans HR7.out
            case measure => simp [intOf]; omega
          · have e0 : ((kind : Int) == 1) = true := by simp; omega
            have H0 := Lib.hid h0
            clear h0
            by_cases h00 : k = 0
            · have e00 : ((k : Int) == 0) = true := by simp; omega
              have H00 := Lib.hid h00
              clear h00
              go_wp2_with (at_builtin; refine wpList_append_own _ rfl _ _ 32 rfl (G + 1) 40 i0 _ 4 32 Tryz.underlying32 hii hz0 hz1 hz2 rfl (by decide) _ _ _ rfl hs ⟨wr.heap.size, 0, none⟩ 1 1 [.int .i64 (p.id : Int), .int .i64 (p.arg : Int), .int .u8 3, .int .i64 (k : Int)] rfl rfl (lit_new2 _ _ _ rfl _) (fun u hu => by simp at hu; rcases hu with rfl | rfl | rfl | rfl <;> rfl) (by unfold maxLen; omega) (by omega) (by simp; omega) ?_; intro v' w2 hown' hgrow _)
              go_roundw
              case rel =>
                refine ⟨k + 1, by omega, by go_num, ?_, (hb.alloc hb.size _).grown hgrow (by simp; have := hb.size; omega) (fun j e => by have := (own_block hs e).1; omega), by have := hgrow.size; simp at this; omega, ?_⟩
                · rw [hpl, mvCells_append, mvCells_one, List.length_append]
                  exact hown'
                · rw [hgrow.block G (by simp; omega) (fun e => by have := (own_block hs e.symm).1; omega)]
                  exact (Below.heap_alloc wr _ _ hlr).trans HR7.out
              case measure => simp [intOf]; omega
            · have e00 : ((k : Int) == 0) = false := by simp; omega
              go_wp2_with (at_builtin; refine wpList_append_own _ rfl _ _ 32 rfl (G + 1) 40 i0 _ 4 32 Tryz.underlying32 hii hz0 hz1 hz2 rfl (by decide) _ _ _ rfl hs ⟨wr.heap.size, 0, none⟩ 1 1 [.int .i64 (p.id : Int), .int .i64 (p.arg : Int), .int .u8 3, .int .i64 (k : Int)] rfl rfl (lit_new2 _ _ _ rfl _) (fun u hu => by simp at hu; rcases hu with rfl | rfl | rfl | rfl <;> rfl) (by unfold maxLen; omega) (by omega) (by simp; omega) ?_; intro v' w2 hown' hgrow _)
              go_roundw
              case rel =>
                refine ⟨k + 1, by omega, by go_num, ?_, (hb.alloc hb.size _).grown hgrow (by simp; have := hb.size; omega) (fun j e => by have := (own_block hs e).1; omega), by have := hgrow.size; simp at this; omega, ?_⟩
                · rw [hpl, mvCells_append, mvCells_one, List.length_append]
                  exact hown'
                · rw [hgrow.block G (by simp; omega) (fun e => by have := (own_block hs e.symm).1; omega)]
                  exact (Below.heap_alloc wr _ _ hlr).trans HR7.out
              case measure => simp [intOf]; omega
        · have hkM : k = M := by omega
          rcases HM2.out with h2 | ⟨h2, h3⟩
          · have hlt' : ¬ (k : Int) < (N : Int) := by omega
            have HKM := Lib.hid hkM
            clear hkM h2
            go_wp2
            go_ret
            exact ⟨_, rfl, by rw [HQ.out, ← HKM.out, HLL.out]; exact World.ownsRow.mono HO.out (by omega), hb⟩
          · have e0 : ((k : Int) == 0) = false := by simp; omega
            have e1 : ((kind : Int) == 1) = false := by simp; omega
            have HKM := Lib.hid hkM
            clear hkM h2 h3
            by_cases h4 : k < N
            · have hlt' : (k : Int) < (N : Int) := by omega
              go_wp2
              go_ret
              exact ⟨_, rfl, by rw [HQ.out, ← HKM.out, HLL.out]; exact World.ownsRow.mono HO.out (by omega), hb⟩
            · have hlt' : ¬ (k : Int) < (N : Int) := by omega
              go_wp2
              go_ret
              exact ⟨_, rfl, by rw [HQ.out, ← HKM.out, HLL.out]; exact World.ownsRow.mono HO.out (by omega), hb⟩
    · rw [hj] at hE2
      have HE := Lib.hid hE2
      have HQ := Lib.hid (HM.out.trans (by rw [hj]; rfl) : toldP p kind = [tellM p (-1)] ++ tellsL p M)
      clear hE2 hj HM
      go_enter Tryz.func84, Tryz.ntmps84
      go_upto_region 5 with (go_at_call 89; refine (HP.out _ hb0).mono ?_; rintro r w1 ⟨rfl, hb1⟩)
      have hb2 := hb0.trans (hb1.mono hb0.size)
      have hb3 := hb2.alloc hb2.size (.cells #[.bool pc, .int .i64 (N : Int)] 24)
      have j7 := heap_alloc_new w1 (.cells #[.bool pc, .int .i64 (N : Int)] 24)
      have j0 : (w1.alloc (.cells #[.bool pc, .int .i64 (N : Int)] 24)).heap[w.heap.size]? = _ := row_next' hb1 HK0.out
      have hG : w.heap.size ≤ w1.heap.size := hb2.size
      clear hb1 hb2 HK0 hb0 HP
      generalize w1.alloc (.cells #[.bool pc, .int .i64 (N : Int)] 24) = X at j7 j0 hb3 ⊢
      generalize w1.heap.size = G at *
      have hlG := (Array.getElem?_eq_some_iff.1 j7).1
      obtain ⟨⟨c0, c1, c2, c3⟩, -, -⟩ := four_c j0
      have HJ7 := Lib.hid j7
      clear j0 j7
      go_upto_region 6 with (go_at_call 124; refine (HE.out _ hb3).mono ?_; rintro r w2 ⟨rfl, hb4⟩)
      have hb5' := hb3.trans (hb4.mono hb3.size)
      have j7' := heap_below hb4 hlG HJ7.out
      have hlG' := (Array.getElem?_eq_some_iff.1 j7').1
      have hsz5' : G + 1 ≤ w2.heap.size := by have := hb4.size; omega
      have hown0 : (w2.alloc (.cells #[.int .i64 (p.id : Int), .int .i64 (p.arg : Int), .int .u8 3, .int .i64 (-1)] 40)).ownsRow (G + 1) 40 4 (.slice none 0 0) 0 [] := World.ownsRow_nil _ _ _ _
      clear c0 c1 c2 c3 hb3 hb4 HE HJ7
      go_upto_region 7 with (at_builtin; refine wpList_append_own _ rfl _ _ 32 rfl (G + 1) 40 i0 _ 4 32 Tryz.underlying32 hii hz0 hz1 hz2 rfl (by decide) _ _ _ rfl hown0 ⟨w2.heap.size, 0, none⟩ 1 1 [.int .i64 (p.id : Int), .int .i64 (p.arg : Int), .int .u8 3, .int .i64 (-1)] rfl rfl (lit_new2 _ _ _ rfl _) (fun u hu => by simp at hu; rcases hu with rfl | rfl | rfl | rfl <;> rfl) (by unfold maxLen; omega) (by omega) (by simp; omega) ?_; intro v' w3 hown' hgrow _; obtain ⟨Av, cv, rfl⟩ := own_slice hown')
      have hb5 := (hb5'.alloc hb5'.size (.cells #[.int .i64 (p.id : Int), .int .i64 (p.arg : Int), .int .u8 3, .int .i64 (-1)] 40)).grown hgrow (by simp; have := hb5'.size; omega) (fun j e => nomatch (show (none : Option Nat) = some j from e))
      have j7 : w3.heap[G]? = some (.cells #[.bool pc, .int .i64 (N : Int)] 24 (0, 0)) := by
        rw [hgrow.block G (by simp; omega) (fun e => nomatch (show some G = (none : Option Nat) from e))]
        exact (Below.heap_alloc w2 _ _ hlG').trans j7'
      have hsz5 : G + 1 ≤ w3.heap.size := by have := hgrow.size; simp at this; omega
      clear hown0 hgrow hb5' j7'
      go_wp2
      go_loopw [11, 12] (fun u c wr => ∃ k : Nat, k ≤ M ∧ c = .int .i64 (k : Int) ∧ wr.ownsRow (G + 1) 40 4 u ([tellM p (-1)] ++ tellsL p k).length (mvCells ([tellM p (-1)] ++ tellsL p k)) ∧ Below w.heap.size w wr ∧ G + 1 ≤ wr.heap.size ∧ wr.heap[G]? = some (.cells #[.bool pc, .int .i64 (N : Int)] 24 (0, 0))) (fun _ c _ => N - (intOf c).toNat)
      case atStart => exact ⟨0, Nat.zero_le _, rfl, by rw [show tellsL p 0 = [] from rfl, List.append_nil, mvCells_one]; exact hown', hb5, hsz5, j7⟩
      case round =>
        clear hown' hb5 j7
        obtain ⟨k, hk, rfl, hown, hb, hsr, hr7⟩ := hrel
        have HR7 := Lib.hid hr7
        have q0 := cell_of_row _ _ 0 _ _ _ hr7
        have q1 := cell_of_row _ _ 1 _ _ _ hr7
        have hlr := (Array.getElem?_eq_some_iff.1 hr7).1
        obtain ⟨Ao, co, rfl⟩ := own_slice hown
        have hll : ([tellM p (-1)] ++ tellsL p k).length ≤ 70 := by simp [tellsL_len]; omega
        have HO := Lib.hid hown
        clear hown hr7
        generalize hLL : ([tellM p (-1)] ++ tellsL p k) = L at *
        have HLL := Lib.hid hLL
        clear hLL
        by_cases hlt : k < M
        · have hlt' : (k : Int) < (N : Int) := by omega
          have hs := HO.out.alloc (.cells #[.int .i64 (p.id : Int), .int .i64 (p.arg : Int), .int .u8 3, .int .i64 (k : Int)] 40)
          have hpl : [tellM p (-1)] ++ tellsL p (k + 1) = L ++ [tellM p (k : Int)] := by rw [tellsL_succ, ← HLL.out]; try rw [List.append_assoc]
          rcases HM1.out k hlt with h0 | h0
          · have e0 : ((k : Int) == 0) = true := by simp; omega
            have H0 := Lib.hid h0
            clear h0
            go_wp2_with (at_builtin; refine wpList_append_own _ rfl _ _ 32 rfl (G + 1) 40 i0 _ 4 32 Tryz.underlying32 hii hz0 hz1 hz2 rfl (by decide) _ _ _ rfl hs ⟨wr.heap.size, 0, none⟩ 1 1 [.int .i64 (p.id : Int), .int .i64 (p.arg : Int), .int .u8 3, .int .i64 (k : Int)] rfl rfl (lit_new2 _ _ _ rfl _) (fun u hu => by simp at hu; rcases hu with rfl | rfl | rfl | rfl <;> rfl) (by unfold maxLen; omega) (by omega) (by simp; omega) ?_; intro v' w2 hown' hgrow _)
            go_roundw
            case rel =>
              refine ⟨k + 1, by omega, by go_num, ?_, (hb.alloc hb.size _).grown hgrow (by simp; have := hb.size; omega) (fun j e => by have := (own_block hs e).1; omega), by have := hgrow.size; simp at this; omega, ?_⟩
              · rw [hpl, mvCells_append, mvCells_one, List.length_append]
                exact hown'
              · rw [hgrow.block G (by simp; omega) (fun e => by have := (own_block hs e.symm).1; omega)]
                exact (Below.heap_alloc wr _ _ hlr).trans HR7.out
            case measure => simp [intOf]; omega
          · have e0 : ((kind : Int) == 1) = true := by simp; omega
            have H0 := Lib.hid h0
            clear h0
            by_cases h00 : k = 0
            · have e00 : ((k : Int) == 0) = true := by simp; omega
              have H00 := Lib.hid h00
              clear h00
              go_wp2_with (at_builtin; refine wpList_append_own _ rfl _ _ 32 rfl (G + 1) 40 i0 _ 4 32 Tryz.underlying32 hii hz0 hz1 hz2 rfl (by decide) _ _ _ rfl hs ⟨wr.heap.size, 0, none⟩ 1 1 [.int .i64 (p.id : Int), .int .i64 (p.arg : Int), .int .u8 3, .int .i64 (k : Int)] rfl rfl (lit_new2 _ _ _ rfl _) (fun u hu => by simp at hu; rcases hu with rfl | rfl | rfl | rfl <;> rfl) (by unfold maxLen; omega) (by omega) (by simp; omega) ?_; intro v' w2 hown' hgrow _)
              go_roundw
              case rel =>
                refine ⟨k + 1, by omega, by go_num, ?_, (hb.alloc hb.size _).grown hgrow (by simp; have := hb.size; omega) (fun j e => by have := (own_block hs e).1; omega), by have := hgrow.size; simp at this; omega, ?_⟩
                · rw [hpl, mvCells_append, mvCells_one, List.length_append]
                  exact hown'
                · rw [hgrow.block G (by simp; omega) (fun e => by have := (own_block hs e.symm).1; omega)]
                  exact (Below.heap_alloc wr _ _ hlr).trans HR7.out
              case measure => simp [intOf]; omega
            · have e00 : ((k : Int) == 0) = false := by simp; omega
              go_wp2_with (at_builtin; refine wpList_append_own _ rfl _ _ 32 rfl (G + 1) 40 i0 _ 4 32 Tryz.underlying32 hii hz0 hz1 hz2 rfl (by decide) _ _ _ rfl hs ⟨wr.heap.size, 0, none⟩ 1 1 [.int .i64 (p.id : Int), .int .i64 (p.arg : Int), .int .u8 3, .int .i64 (k : Int)] rfl rfl (lit_new2 _ _ _ rfl _) (fun u hu => by simp at hu; rcases hu with rfl | rfl | rfl | rfl <;> rfl) (by unfold maxLen; omega) (by omega) (by simp; omega) ?_; intro v' w2 hown' hgrow _)
              go_roundw
              case rel =>
                refine ⟨k + 1, by omega, by go_num, ?_, (hb.alloc hb.size _).grown hgrow (by simp; have := hb.size; omega) (fun j e => by have := (own_block hs e).1; omega), by have := hgrow.size; simp at this; omega, ?_⟩
                · rw [hpl, mvCells_append, mvCells_one, List.length_append]
                  exact hown'
                · rw [hgrow.block G (by simp; omega) (fun e => by have := (own_block hs e.symm).1; omega)]
                  exact (Below.heap_alloc wr _ _ hlr).trans HR7.out
              case measure => simp [intOf]; omega
        · have hkM : k = M := by omega
          rcases HM2.out with h2 | ⟨h2, h3⟩
          · have hlt' : ¬ (k : Int) < (N : Int) := by omega
            have HKM := Lib.hid hkM
            clear hkM h2
            go_wp2
            go_ret
            exact ⟨_, rfl, by rw [HQ.out, ← HKM.out, HLL.out]; exact World.ownsRow.mono HO.out (by omega), hb⟩
          · have e0 : ((k : Int) == 0) = false := by simp; omega
            have e1 : ((kind : Int) == 1) = false := by simp; omega
            have HKM := Lib.hid hkM
            clear hkM h2 h3
            by_cases h4 : k < N
            · have hlt' : (k : Int) < (N : Int) := by omega
              go_wp2
              go_ret
              exact ⟨_, rfl, by rw [HQ.out, ← HKM.out, HLL.out]; exact World.ownsRow.mono HO.out (by omega), hb⟩
            · have hlt' : ¬ (k : Int) < (N : Int) := by omega
              go_wp2
              go_ret
              exact ⟨_, rfl, by rw [HQ.out, ← HKM.out, HLL.out]; exact World.ownsRow.mono HO.out (by omega), hb⟩

end Go.Proofs.YtoncdnelacolaaaGreatDoor.Ar
