/- The reference: SameType, Same, at equal arenas; Thin. -/
import Derived.Test.YtoncdnelacolaaaGreatDoorARefE
import Derived.Test.YtoncdnelacolaaaGreatDoorAWalkF
namespace Go.Proofs.YtoncdnelacolaaaGreatDoor.Ar
open Go Go.Proofs Go.RowKit Go.Sort Lx Ps

theorem bs_fields2 : Tryz.prog.underlying 24 = some (.struct (Tryz.prog.fieldsOf 24)) := by kernel_rfl
theorem bs_stood : Tryz.prog.stoodInHeld 24 = false := by kernel_rfl
theorem bs_list : (Tryz.prog.fieldsOf 24).toList = [⟨"Cell", 4, 0, false, "", "", 0⟩, ⟨"N", 3, 1, false, "", "", 8⟩] := by kernel_rfl
/-- Two base types are the same, as the model reckons it. -/
def sameBs (x y : Bs) : Bool := (x.cell == y.cell) && (x.n == y.n)
theorem bs_equal (x y : Bs) (W : World) : (Op.equalIn 10000 24 (.agg #[.bool x.cell, .int .i64 x.n]) (.agg #[.bool y.cell, .int .i64 y.n])).run Tryz.prog W = .ok (sameBs x y) W := by
  rw [run_equalIn_agg W 9999 _ _ _ bs_fields2 bs_stood, bs_list]
  have u5 : Tryz.prog.underlying 4 = some .bool := Tryz.underlying4
  have u3 : Tryz.prog.underlying 3 = some (.int .i64) := Tryz.underlying3
  simp [Op.eqFields, go_sem, sameBs]
  by_cases h1 : x.cell = y.cell <;> by_cases h2 : x.n = y.n <;> simp [h1, h2]
theorem sameBs_self (x : Bs) : sameBs x x = true := by simp [sameBs]
theorem bs_self (x : Bs) (W : World) : (Op.equalIn 10000 24 (.agg #[.bool x.cell, .int .i64 x.n]) (.agg #[.bool x.cell, .int .i64 x.n])).run Tryz.prog W = .ok true W := by
  rw [bs_equal, sameBs_self]
theorem below_drewN {B : Nat} {a w : World} (h : Below B a w) (n : Nat) : Below B a (w.drewN n) := ⟨h.os, h.tape, h.output, h.size, h.block⟩

set_option maxRecDepth 100000 in
set_option maxHeartbeats 1000000 in
theorem sameType_eq (t : Ty) (pv qv : Value) (w : World) (hp : SlB w pv t.params) (hq : SlB w qv t.params) (hl : t.params.length ≤ 1000) :
    Calls Tryz.prog 69 #[tyV pv t, tyV qv t] w fun e w' => e = .returned (.bool true) ∧ Below w.heap.size w w' := by
  obtain ⟨A, c1, rfl, hA⟩ := hp
  obtain ⟨B, c2, rfl, hB⟩ := hq
  obtain ⟨k0, k1⟩ := blocks2 w (.cells #[.slice A t.params.length c1, .bool t.result.cell, .int .i64 t.result.n] 64) (.cells #[.slice B t.params.length c2, .bool t.result.cell, .int .i64 t.result.n] 64)
  have hba : Below w.heap.size w ((w.alloc (.cells #[.slice A t.params.length c1, .bool t.result.cell, .int .i64 t.result.n] 64)).alloc (.cells #[.slice B t.params.length c2, .bool t.result.cell, .int .i64 t.result.n] 64)) := below_two
  have hE := bs_self t.result
  unfold tyV
  go_enter Tryz.func69, Tryz.ntmps69
  go_upto_region 1 with (fail)
  generalize (w.alloc (.cells #[.slice A t.params.length c1, .bool t.result.cell, .int .i64 t.result.n] 64)).alloc (.cells #[.slice B t.params.length c2, .bool t.result.cell, .int .i64 t.result.n] 64) = V at k0 k1 hba ⊢
  have r0 := cell_of_row _ _ 0 _ _ _ k0
  have r1 := cell_of_row _ _ 1 _ _ _ k0
  have r2 := cell_of_row _ _ 2 _ _ _ k0
  have s0 := cell_of_row _ _ 0 _ _ _ k1
  have s1 := cell_of_row _ _ 1 _ _ _ k1
  have s2 := cell_of_row _ _ 2 _ _ _ k1
  go_wp2
  go_loopw [5] (fun i wr => ∃ k : Nat, k ≤ t.params.length ∧ i = .int .i64 k ∧ Below V.heap.size V wr) (fun i _ => t.params.length - (intOf i).toNat)
  case atStart => exact ⟨0, Nat.zero_le _, rfl, Below.refl _ _⟩
  case round =>
    obtain ⟨k, hk, rfl, hb⟩ := hrel
    have r0' := (hb.cell (p := ⟨w.heap.size, 0, none⟩) (Array.getElem?_eq_some_iff.1 k0).1).trans r0
    have s0' := (hb.cell (p := ⟨w.heap.size + 1, 0, none⟩) (Array.getElem?_eq_some_iff.1 k1).1).trans s0
    clear r0 r1 r2 s0 s1 s2 k0 k1 hE
    by_cases hlt : k < t.params.length
    · obtain ⟨b1, o1, rfl, hb1, hc1⟩ := hA (by omega)
      obtain ⟨b2, o2, rfl, hb2, hc2⟩ := hB (by omega)
      obtain ⟨p1, p2⟩ := hc1 k _ (List.getElem?_eq_getElem hlt)
      obtain ⟨q1, q2⟩ := hc2 k _ (List.getElem?_eq_getElem hlt)
      have hbb := hba.trans (hb.mono hba.size)
      have p1' := (hbb.cell (p := ⟨b1, o1 + k * 2, none⟩) hb1).trans p1
      have p2' := (hbb.cell (p := ⟨b1, o1 + k * 2 + 1, none⟩) hb1).trans p2
      have q1' := (hbb.cell (p := ⟨b2, o2 + k * 2, none⟩) hb2).trans q1
      have q2' := (hbb.cell (p := ⟨b2, o2 + k * 2 + 1, none⟩) hb2).trans q2
      clear p1 p2 q1 q2 hc1 hc2 hA hB
      have hX := bs_self t.params[k]
      generalize t.params[k] = x at p1' p2' q1' q2' hX
      go_wp2
      go_quiet (fail)
      go_wp2
      go_roundw
      case rel => exact ⟨k + 1, by omega, by go_num, below_drewN hb _⟩
      case measure => simp [intOf]; omega
    · go_wp2
      go_ret
      exact ⟨rfl, hba.trans (hb.mono hba.size)⟩

set_option maxRecDepth 100000 in
set_option maxHeartbeats 1000000 in
theorem same_eq (a : Ar) (v u : Value) (w : World) (hp : ArIn w v a) (hq : ArIn w u a) (hl : a.ids.length ≤ 1000) (hls : ∀ t ∈ a.ids, t.params.length ≤ 1000) :
    Calls Tryz.prog 26 #[arV v a, arV u a] w fun e w' => e = .returned (.bool true) ∧ Below w.heap.size w w' := by
  obtain ⟨A, c1, rfl, hA⟩ := hp.sl
  obtain ⟨B, c2, rfl, hB⟩ := hq.sl
  clear hp hq
  obtain ⟨k0, k1⟩ := blocks2 w (.cells #[.slice A a.ids.length c1, .bool a.root.cell, .int .i64 a.root.n, .bool a.jumps] 26) (.cells #[.slice B a.ids.length c2, .bool a.root.cell, .int .i64 a.root.n, .bool a.jumps] 26)
  have hba : Below w.heap.size w ((w.alloc (.cells #[.slice A a.ids.length c1, .bool a.root.cell, .int .i64 a.root.n, .bool a.jumps] 26)).alloc (.cells #[.slice B a.ids.length c2, .bool a.root.cell, .int .i64 a.root.n, .bool a.jumps] 26)) := below_two
  have hE := bs_self a.root
  unfold arV
  go_enter Tryz.func26, Tryz.ntmps26
  go_upto_region 1 with (fail)
  generalize (w.alloc (.cells #[.slice A a.ids.length c1, .bool a.root.cell, .int .i64 a.root.n, .bool a.jumps] 26)).alloc (.cells #[.slice B a.ids.length c2, .bool a.root.cell, .int .i64 a.root.n, .bool a.jumps] 26) = V at k0 k1 hba ⊢
  obtain ⟨⟨r0, r1, r2, r3⟩, -, hl0⟩ := four_c k0
  obtain ⟨⟨s0, s1, s2, s3⟩, -, hl1⟩ := four_c k1
  go_wp2
  go_loopw [5] (fun i wr => ∃ k : Nat, k ≤ a.ids.length ∧ i = .int .i64 k ∧ Below V.heap.size V wr) (fun i _ => a.ids.length - (intOf i).toNat)
  case atStart => exact ⟨0, Nat.zero_le _, rfl, Below.refl _ _⟩
  case round =>
    obtain ⟨k, hk, rfl, hb⟩ := hrel
    have r0' := (hb.cell (p := ⟨w.heap.size, 0, none⟩) hl0).trans r0
    have s0' := (hb.cell (p := ⟨w.heap.size + 1, 0, none⟩) hl1).trans s0
    clear r0 r1 r2 r3 s0 s1 s2 s3 k0 k1 hE
    by_cases hlt : k < a.ids.length
    · obtain ⟨b1, o1, rfl, hb1, hc1⟩ := hA (by omega)
      obtain ⟨b2, o2, rfl, hb2, hc2⟩ := hB (by omega)
      obtain ⟨pv, p0, p1, p2, p3⟩ := hc1 k _ (List.getElem?_eq_getElem hlt)
      obtain ⟨qv, q0, q1, q2, q3⟩ := hc2 k _ (List.getElem?_eq_getElem hlt)
      have hbb := hba.trans (hb.mono hba.size)
      have p1' := cell_regrown ((hbb.cell (p := ⟨b1, o1 + k * 3, none⟩) hb1).trans p1)
      have p2' := cell_regrown ((hbb.cell (p := ⟨b1, o1 + k * 3 + 1, none⟩) hb1).trans p2)
      have p3' := cell_regrown ((hbb.cell (p := ⟨b1, o1 + k * 3 + 2, none⟩) hb1).trans p3)
      have q1' := cell_regrown ((hbb.cell (p := ⟨b2, o2 + k * 3, none⟩) hb2).trans q1)
      have q2' := cell_regrown ((hbb.cell (p := ⟨b2, o2 + k * 3 + 1, none⟩) hb2).trans q2)
      have q3' := cell_regrown ((hbb.cell (p := ⟨b2, o2 + k * 3 + 2, none⟩) hb2).trans q3)
      have r0g := cell_regrown r0'
      have s0g := cell_regrown s0'
      have p0' := p0.below hbb
      have q0' := q0.below hbb
      have hxl := hls _ (List.getElem_mem hlt)
      clear p0 q0 p1 p2 p3 q1 q2 q3 hc1 hc2 hA hB
      generalize a.ids[k] = x at p0' q0' p1' p2' p3' q1' q2' q3' hxl
      have hcal := fun d os => Calls.regrown_of (sameType_eq x pv qv («Sort».grow (redrawn wr d) os) (p0'.below (below_regrown wr d os)) (q0'.below (below_regrown wr d os)) hxl)
      unfold tyV at hcal
      obtain ⟨A2, d2, rfl, -⟩ := p0'
      obtain ⟨B2, e2, rfl, -⟩ := q0'
      go_upto_region 6 with (fail)
      refine wp_region_quiet_below (by kernel_rfl) (by kernel_rfl) ?_
      repeat (go_big_quiet_step ((exact hcal _ _)))
      refine wpQuiet_nil ?_
      intro _ hw'
      obtain ⟨⟨dq, osq⟩, hw''⟩ := hw'
      subst hw''
      go_wp2
      go_roundw
      case rel => exact ⟨k + 1, by omega, by go_num, hb.trans ((below_regrown wr dq osq).mono hb.size)⟩
      case measure => simp [intOf]; omega
    · go_wp2
      go_ret
      exact ⟨rfl, hba.trans (hb.mono hba.size)⟩

/-- An arena that the statements look at. -/
def thinB (a : Ar) : Bool := decide (a.ids.length ≤ 12) && !(a.ids.any fun t => decide (8 < t.params.length))

set_option maxRecDepth 100000 in
set_option maxHeartbeats 1000000 in
theorem thin_any (ids : Value) (a : Ar) (w : World) (hin : ArIn w ids a) :
    Calls Tryz.prog 16 #[arV ids a] w fun e w' => e = .returned (.bool (thinB a)) ∧ Below w.heap.size w w' := by
  have hlen := hin.len
  obtain ⟨A, cap, rfl, hA⟩ := hin.sl
  clear hin
  have hba : Below w.heap.size w (w.alloc (.cells #[.slice A a.ids.length cap, .bool a.root.cell, .int .i64 a.root.n, .bool a.jumps] 26)) := (Below.refl _ _).alloc (Nat.le_refl _) _
  have K := heap_alloc_new w (.cells #[.slice A a.ids.length cap, .bool a.root.cell, .int .i64 a.root.n, .bool a.jumps] 26)
  unfold arV
  by_cases h1 : 12 < a.ids.length
  · have h1' : (12 : Int) < (a.ids.length : Int) := by omega
    have HT := Lib.hid (show thinB a = false by simp [thinB]; omega)
    clear hA
    go_enter Tryz.func16, Tryz.ntmps16
    go_wp2
    go_ret
    exact ⟨ret_bool HT.out.symm, hba⟩
  · have h1' : ¬ (12 : Int) < (a.ids.length : Int) := by omega
    have H1 := Lib.hid h1
    clear h1
    go_enter Tryz.func16, Tryz.ntmps16
    go_wp2
    go_loopw [3] (fun i wr => ∃ k : Nat, k ≤ a.ids.length ∧ i = .int .i64 k ∧ (a.ids.take k).any (fun t => decide (8 < t.params.length)) = false ∧ Below w.heap.size w wr ∧ wr.heap[w.heap.size]? = some (.cells #[.slice A a.ids.length cap, .bool a.root.cell, .int .i64 a.root.n, .bool a.jumps] 26 (0, 0))) (fun i _ => a.ids.length - (intOf i).toNat)
    case atStart => exact ⟨0, Nat.zero_le _, rfl, rfl, hba, K⟩
    case round =>
      obtain ⟨k, hk, rfl, ht, hb, K1⟩ := hrel
      have Ht := Lib.hid ht
      have HK1 := Lib.hid K1
      obtain ⟨⟨r0, r1, r2, r3⟩, -, hlw⟩ := four_c K1
      clear ht K1 K hba
      by_cases hlt : k < a.ids.length
      · obtain ⟨b1, o1, rfl, hb1, hc1⟩ := hA (by omega)
        obtain ⟨pv, p0, p1, p2, p3⟩ := hc1 k _ (List.getElem?_eq_getElem hlt)
        have p1' := (hb.cell (p := ⟨b1, o1 + k * 3, none⟩) hb1).trans p1
        obtain ⟨A2, c2, rfl, -⟩ := p0
        clear p1 p2 p3 hc1 hA
        have Hx := Lib.hid (show (a.ids.take (k + 1)).any (fun t => decide (8 < t.params.length)) = decide (8 < a.ids[k].params.length) by rw [List.take_succ_eq_append_getElem hlt, List.any_append, Ht.out]; simp)
        have Hm := Lib.hid (List.getElem_mem hlt)
        generalize a.ids[k] = x at p1' Hx Hm
        by_cases hx : 8 < x.params.length
        · have Hx2 := Lib.hid (show decide (8 < x.params.length) = true by simpa using hx)
          have hx' : (8 : Int) < (x.params.length : Int) := by omega
          clear hx
          go_wp2
          go_ret
          exact ⟨ret_bool (by
            have : a.ids.any (fun t => decide (8 < t.params.length)) = true := List.any_eq_true.2 ⟨x, Hm.out, Hx2.out⟩
            unfold thinB
            rw [this]; simp), hb⟩
        · have Hx2 := Lib.hid (Hx.out.trans (show decide (8 < x.params.length) = false by simpa using hx))
          have hx' : ¬ (8 : Int) < (x.params.length : Int) := by omega
          clear hx
          go_wp2
          go_roundw
          case rel => exact ⟨k + 1, by omega, by go_num, Hx2.out, hb, HK1.out⟩
          case measure => simp [intOf]; omega
      · have hall := Ht.out
        rw [List.take_of_length_le (by omega)] at hall
        have HT := Lib.hid (show thinB a = true by unfold thinB; rw [hall]; have := H1.out; simp; omega)
        clear hall Ht
        go_wp2
        go_ret
        exact ⟨ret_bool HT.out.symm, hb⟩

end Go.Proofs.YtoncdnelacolaaaGreatDoor.Ar
