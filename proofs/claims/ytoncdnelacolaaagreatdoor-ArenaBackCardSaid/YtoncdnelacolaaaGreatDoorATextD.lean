/- The reference's texts: baseText, typeText, Show. -/
import Derived.Test.YtoncdnelacolaaaGreatDoorADec
import Derived.Test.YtoncdnelacolaaaGreatDoorASpecJ
import Derived.Test.YtoncdnelacolaaaGreatDoorARefB
import Derived.Test.YtoncdnelacolaaaGreatDoorAShowB
namespace Go.Proofs.YtoncdnelacolaaaGreatDoor.Ar
open Go Go.Proofs Go.RowKit Go.Sort Lx Ps

set_option maxRecDepth 100000 in
set_option maxHeartbeats 1000000 in
theorem refBase_any (b : Bs) (w : World) (hb : BsOk b) :
    Calls Tryz.prog 65 #[bsV b] w fun e w' => e = .returned (.string (strB (baseT b))) ∧ Below w.heap.size w w' := by
  obtain ⟨h0, h1⟩ := hb
  have hI := fun V => decimal_any b.n V h0 h1
  have hl := Lib.itoa_length_le b.n h0 h1
  have hb0 : Below w.heap.size w (w.alloc (.cells #[.bool b.cell, .int .i64 b.n] 24)) := (Below.refl _ _).alloc (Nat.le_refl _) _
  have a1 := fun W => run_string_add_sum (P := Tryz.prog) W ⟨#[99, 101, 108, 108, 32]⟩ (strB (Lib.itoa b.n)) (by rw [strB_size]; simp [ByteArray.size]; omega)
  have a2 := fun W => run_string_add_sum (P := Tryz.prog) W ⟨#[105, 110, 116, 32]⟩ (strB (Lib.itoa b.n)) (by rw [strB_size]; simp [ByteArray.size]; omega)
  have e1 : (⟨#[99, 101, 108, 108, 32]⟩ : ByteArray) ++ strB (Lib.itoa b.n) = strB ([99, 101, 108, 108, 32] ++ Lib.itoa b.n) := strB_app [99, 101, 108, 108, 32] _
  have e2 : (⟨#[105, 110, 116, 32]⟩ : ByteArray) ++ strB (Lib.itoa b.n) = strB ([105, 110, 116, 32] ++ Lib.itoa b.n) := strB_app [105, 110, 116, 32] _
  have hs : baseT b = if b.cell then [99, 101, 108, 108, 32] ++ Lib.itoa b.n else [105, 110, 116, 32] ++ Lib.itoa b.n := rfl
  have HI := Lib.hid hI
  have HS := Lib.hid hs
  have E1 := Lib.hid e1
  have E2 := Lib.hid e2
  clear hI hs e1 e2 hl
  generalize strB (Lib.itoa b.n) = si at *
  unfold bsV
  cases hc : b.cell
  · rw [hc] at HS hb0
    have Hc := Lib.hid hc
    clear hc
    go_enter Tryz.func65, Tryz.ntmps65
    go_wp2_with (go_at_call 115; refine (HI.out _).mono ?_; rintro e w1 ⟨rfl, hb1⟩)
    go_ret
    exact ⟨by rw [HS.out, E2.out]; rfl, hb0.trans (hb1.mono hb0.size)⟩
  · rw [hc] at HS hb0
    have Hc := Lib.hid hc
    clear hc
    go_enter Tryz.func65, Tryz.ntmps65
    go_wp2_with (go_at_call 115; refine (HI.out _).mono ?_; rintro e w1 ⟨rfl, hb1⟩)
    go_ret
    exact ⟨by rw [HS.out, E1.out]; rfl, hb0.trans (hb1.mono hb0.size)⟩

theorem add_any (x y : List UInt8) (hx : x.length ≤ 1000000) (hy : y.length ≤ 1000000) (W : World) : (Op.stringOp .add (strB x) (strB y)).run Tryz.prog W = .ok (.string (strB (x ++ y))) W := by
  rw [run_string_add_sum W _ _ (by rw [strB_size, strB_size]; omega), strB_app]

set_option maxRecDepth 100000 in
set_option maxHeartbeats 1000000 in
theorem refType_any (t : Ty) (pv : Value) (w : World) (hp : SlB w pv t.params) (ht : TyOk t) :
    Calls Tryz.prog 66 #[tyV pv t] w fun e w' => e = .returned (.string (strB (typeT t))) ∧ Below w.heap.size w w' := by
  have hB := fun (b : Bs) (V : World) (hb : BsOk b) => refBase_any b V hb
  have hlen := ht.2.2
  have HP := Lib.hid hp
  have HT := Lib.hid ht
  obtain ⟨A, cap, rfl, hA⟩ := hp
  have k0 := heap_alloc_new w (.cells #[.slice A t.params.length cap, .bool t.result.cell, .int .i64 t.result.n] 64)
  have hb0 : Below w.heap.size w (w.alloc (.cells #[.slice A t.params.length cap, .bool t.result.cell, .int .i64 t.result.n] 64)) := (Below.refl _ _).alloc (Nat.le_refl _) _
  unfold tyV
  unfold bsV at hB
  have HB := Lib.hid hB
  clear hB ht
  by_cases hn : t.params = []
  · have hz : ((t.params.length : Int) == 0) = true := by rw [hn]; rfl
    have HR := Lib.hid (show typeT t = baseT t.result by unfold typeT; rw [if_pos hn])
    clear hn hA
    go_enter Tryz.func66, Tryz.ntmps66
    go_upto_region 1 with (fail)
    generalize w.alloc (.cells #[.slice A t.params.length cap, .bool t.result.cell, .int .i64 t.result.n] 64) = V at k0 hb0 ⊢
    have c0 := cell_of_row _ _ 0 _ _ _ k0
    have c1 := cell_of_row _ _ 1 _ _ _ k0
    have c2 := cell_of_row _ _ 2 _ _ _ k0
    go_wp2_with (go_at_call 65; refine (HB.out _ _ HT.out.1).mono ?_; rintro e w1 ⟨rfl, hb1⟩)
    go_ret
    exact ⟨by rw [HR.out]; rfl, hb0.trans (hb1.mono hb0.size)⟩
  · have hz : ((t.params.length : Int) == 0) = false := by
      rw [beq_eq_false_iff_ne]
      intro e
      exact hn (List.length_eq_zero_iff.1 (by omega))
    have HR := Lib.hid (show typeT t = tyW t t.params.length ++ [41, 32, 45, 62, 32] ++ baseT t.result from typeT_some hn)
    clear hn
    go_enter Tryz.func66, Tryz.ntmps66
    go_upto_region 1 with (fail)
    generalize w.alloc (.cells #[.slice A t.params.length cap, .bool t.result.cell, .int .i64 t.result.n] 64) = V at k0 hb0 ⊢
    have c0 := cell_of_row _ _ 0 _ _ _ k0
    have c1 := cell_of_row _ _ 1 _ _ _ k0
    have c2 := cell_of_row _ _ 2 _ _ _ k0
    have HK := Lib.hid k0
    have hl0 := (Array.getElem?_eq_some_iff.1 k0).1
    clear k0
    go_wp2
    go_loopw [3, 4] (fun u c wr => ∃ k : Nat, u = .string (strB (tyW t k)) ∧ c = .int .i64 (k : Int) ∧ k ≤ t.params.length ∧ Below V.heap.size V wr) (fun _ c _ => t.params.length + 1 - (intOf c).toNat)
    case atStart => exact ⟨0, by rw [tyW_zero]; rfl, rfl, Nat.zero_le _, Below.refl _ _⟩
    case round =>
      clear c0 c1 c2
      obtain ⟨k, rfl, rfl, hk, hb⟩ := hrel
      have hbR := hb0.trans (hb.mono hb0.size)
      have hbk := heap_below hb hl0 HK.out
      have c0 := cell_of_row _ _ 0 _ _ _ hbk
      have c1 := cell_of_row _ _ 1 _ _ _ hbk
      have c2 := cell_of_row _ _ 2 _ _ _ hbk
      have hl1 := (Array.getElem?_eq_some_iff.1 hbk).1
      clear hbk
      by_cases hlt : k < t.params.length
      · have hlt' : (k : Int) < (t.params.length : Int) := by omega
        obtain ⟨b1, o1, rfl, hb1, hc1⟩ := hA (by omega)
        have hx := List.getElem?_eq_getElem hlt
        have hmem := List.getElem_mem hlt
        generalize t.params[k] = x at hx hmem
        obtain ⟨p0, p1⟩ := hc1 k x hx
        have hX := HB.out x
        have p0' := (hbR.cell (p := ⟨b1, o1 + k * 2, none⟩) hb1).trans p0
        have p1' := (hbR.cell (p := ⟨b1, o1 + k * 2 + 1, none⟩) hb1).trans p1
        have hok := HT.out.2.1 x hmem
        have HST := Lib.hid (tyW_succ hx)
        have hl2 := tyW_len HT.out k
        have hl3 := baseT_len hok
        have HX := Lib.hid (fun V => hX V hok)
        clear hX hok hx hmem p0 p1 hA hc1
        generalize tyW t k = u at *
        generalize baseT x = y at *
        by_cases hk0 : k = 0
        · have hk1 : ¬ (0 : Int) < (k : Int) := by omega
          have HK9 := Lib.hid hk0
          clear hk0
          have a1 := add_any u y (by omega) (by omega)
          go_wp2_with (go_at_call 65; refine (HX.out _).mono ?_; rintro e w1 ⟨rfl, hb2⟩)
          go_roundw
          case rel => exact ⟨k + 1, by rw [HST.out, if_pos HK9.out], by go_num, by omega, hb.trans (hb2.mono hb.size)⟩
          case measure => simp [intOf]; omega
        · have hk1 : (0 : Int) < (k : Int) := by omega
          have a0 := add_any u [44, 32] (by omega) (by simp)
          have a1 := add_any (u ++ [44, 32]) y (by simp; omega) (by omega)
          have a0' : ∀ W, (Op.stringOp .add (strB u) ⟨#[44, 32]⟩).run Tryz.prog W = .ok (.string (strB (u ++ [44, 32]))) W := a0
          clear a0
          go_wp2_with (go_at_call 65; refine (HX.out _).mono ?_; rintro e w1 ⟨rfl, hb2⟩)
          go_roundw
          case rel => exact ⟨k + 1, by rw [HST.out, if_neg hk0]; simp, by go_num, by omega, hb.trans (hb2.mono hb.size)⟩
          case measure => simp [intOf]; omega
      · have hlt' : ¬ (k : Int) < (t.params.length : Int) := by omega
        obtain rfl : k = t.params.length := by omega
        have hl2 := tyW_len HT.out t.params.length
        have hl3 := baseT_len HT.out.1
        have HX := Lib.hid (fun V => HB.out t.result V HT.out.1)
        clear hA
        generalize tyW t t.params.length = u at *
        generalize baseT t.result = y at *
        have a0 : ∀ W, (Op.stringOp .add (strB u) ⟨#[41, 32, 45, 62, 32]⟩).run Tryz.prog W = .ok (.string (strB (u ++ [41, 32, 45, 62, 32]))) W := add_any u [41, 32, 45, 62, 32] (by omega) (by simp)
        have a1 := add_any (u ++ [41, 32, 45, 62, 32]) y (by simp; omega) (by omega)
        go_wp2_with (go_at_call 65; refine (HX.out _).mono ?_; rintro e w1 ⟨rfl, hb2⟩)
        go_ret
        exact ⟨by rw [HR.out]; simp only [List.append_assoc, List.cons_append, List.nil_append]; rfl, hbR.trans (hb2.mono hbR.size)⟩

set_option maxRecDepth 100000 in
set_option maxHeartbeats 1000000 in
theorem refShow_any (ids : Value) (a : Ar) (w : World) (hin : ArIn w ids a) :
    Calls Tryz.prog 23 #[arV ids a] w fun e w' => e = .returned (showR a) ∧ Below w.heap.size w w' := by
  have hC := fun V (hb : Below w.heap.size w V) => refCheck_any ids a V (hin.below hb)
  obtain ⟨A, cap, rfl, hA⟩ := hin.sl
  clear hin
  have k0 := heap_alloc_new w (.cells #[.slice A a.ids.length cap, .bool a.root.cell, .int .i64 a.root.n, .bool a.jumps] 26)
  have hb0 : Below w.heap.size w (w.alloc (.cells #[.slice A a.ids.length cap, .bool a.root.cell, .int .i64 a.root.n, .bool a.jumps] 26)) := (Below.refl _ _).alloc (Nat.le_refl _) _
  by_cases h0 : checkE a = 0
  · have HR := Lib.hid (show showR a = .tuple #[.string (strB (arW a a.ids.length ++ (if a.jumps then [59, 32, 106, 117, 109, 112, 115] else []))), .int .i64 0] by unfold showR; rw [if_pos h0, arW_all])
    have hRt := right_of h0
    have hlen := hRt.ids
    have hB := refBase_any a.root (hb := bsOk_right hRt.root)
    have hT := fun (t : Ty) (pv : Value) (V : World) (hp : SlB V pv t.params) (ht : t ∈ a.ids) => refType_any t pv V hp (tyOk_right hRt ht)
    have hTl := fun (t : Ty) (ht : t ∈ a.ids) => typeT_len (tyOk_right hRt ht)
    have hWl := arW_len hRt
    rw [h0] at hC
    unfold arV at *
    unfold bsV at hB
    unfold tyV at hT
    have HC := Lib.hid hC
    have HB := Lib.hid hB
    have HT := Lib.hid hT
    have HTL := Lib.hid hTl
    have HWL := Lib.hid hWl
    clear hC hB hT hTl hWl hRt h0
    go_enter Tryz.func23, Tryz.ntmps23
    go_upto_region 1 with (fail)
    generalize w.alloc (.cells #[.slice A a.ids.length cap, .bool a.root.cell, .int .i64 a.root.n, .bool a.jumps] 26) = V at k0 hb0 ⊢
    obtain ⟨⟨c0, c1, c2, c3⟩, -, hl0⟩ := four_c k0
    have HK := Lib.hid k0
    clear k0
    go_upto_region 5 with (first
      | (go_at_call 24; refine (HC.out _ hb0).mono ?_; rintro e w1 ⟨rfl, hb1⟩; obtain ⟨⟨d0, d1, d2, d3⟩, -, -⟩ := four_c (heap_below hb1 hl0 HK.out))
      | (go_at_call 65; refine (HB.out _).mono ?_; rintro e w2 ⟨rfl, hb2⟩))
    have hbU := hb0.trans ((hb1.trans (hb2.mono hb1.size)).mono hb0.size)
    have MU := heap_below (hb1.trans (hb2.mono hb1.size)) hl0 HK.out
    clear c0 c1 c2 c3 d0 d1 d2 d3 hb1 hb2 hb0 hl0 HK HC HB
    generalize w2 = U at *
    have HMU := Lib.hid MU
    have hlU := (Array.getElem?_eq_some_iff.1 MU).1
    clear MU
    go_wp2
    go_loopw [5, 6] (fun u c wr => ∃ k : Nat, u = .string (strB (arW a k)) ∧ c = .int .i64 (k : Int) ∧ k ≤ a.ids.length ∧ Below U.heap.size U wr) (fun _ c _ => a.ids.length + 1 - (intOf c).toNat)
    case atStart => exact ⟨0, by rw [arW_zero], rfl, Nat.zero_le _, Below.refl _ _⟩
    case round =>
      obtain ⟨k, rfl, rfl, hk, hb⟩ := hrel
      have hbR := hbU.trans (hb.mono hbU.size)
      obtain ⟨⟨c0, c1, c2, c3⟩, -, -⟩ := four_c (heap_below hb hlU HMU.out)
      by_cases hlt : k < a.ids.length
      · have hlt' : (k : Int) < (a.ids.length : Int) := by omega
        obtain ⟨b1, o1, rfl, hb1, hc1⟩ := hA (by omega)
        have hx := List.getElem?_eq_getElem hlt
        have hmem := List.getElem_mem hlt
        generalize a.ids[k] = x at hx hmem
        obtain ⟨pv, q0, p0, p1, p2⟩ := hc1 k x hx
        have hX := HT.out x pv wr (q0.below hbR) hmem
        have p0' := (hbR.cell (p := ⟨b1, o1 + k * 3, none⟩) hb1).trans p0
        have p1' := (hbR.cell (p := ⟨b1, o1 + k * 3 + 1, none⟩) hb1).trans p1
        have p2' := (hbR.cell (p := ⟨b1, o1 + k * 3 + 2, none⟩) hb1).trans p2
        have HST := Lib.hid (arW_succ hx)
        have hl2 := HWL.out k
        have hl3 := HTL.out x hmem
        have HX := Lib.hid hX
        clear hX hx hmem p0 p1 p2 hA hc1
        obtain ⟨A2, c2', rfl, -⟩ := q0
        generalize arW a k = u at *
        generalize typeT x = y at *
        have a0 : ∀ W, (Op.stringOp .add ⟨#[59, 32]⟩ (strB y)).run Tryz.prog W = .ok (.string (strB (59 :: 32 :: y))) W := add_any [59, 32] y (by simp) (by omega)
        have a1 := add_any u (59 :: 32 :: y) (by omega) (by simp; omega)
        go_wp2_with (go_at_call 66; refine HX.out.mono ?_; rintro e w3 ⟨rfl, hb3⟩)
        go_roundw
        case rel => exact ⟨k + 1, by rw [HST.out]; rfl, by go_num, by omega, hb.trans (hb3.mono hb.size)⟩
        case measure => simp [intOf]; omega
      · have hlt' : ¬ (k : Int) < (a.ids.length : Int) := by omega
        obtain rfl : k = a.ids.length := by omega
        have hl2 := HWL.out a.ids.length
        clear hA
        generalize arW a a.ids.length = u at *
        have a0 : ∀ W, (Op.stringOp .add (strB u) ⟨#[59, 32, 106, 117, 109, 112, 115]⟩).run Tryz.prog W = .ok (.string (strB (u ++ [59, 32, 106, 117, 109, 112, 115]))) W := add_any u [59, 32, 106, 117, 109, 112, 115] (by omega) (by simp)
        generalize a.jumps = jj at *
        cases jj
        · go_wp2
          go_ret2
          exact ⟨by rw [HR.out]; simp, hbR⟩
        · go_wp2
          go_ret2
          exact ⟨by rw [HR.out]; simp, hbR⟩
  · have HR := Lib.hid (show showR a = .tuple #[.string ⟨#[]⟩, .int .i64 (checkE a : Int)] by unfold showR; rw [if_neg h0]; rfl)
    have hne : ((checkE a : Int) != 0) = true := by simp; omega
    generalize checkE a = e at *
    unfold arV at *
    have HC := Lib.hid hC
    clear hC hA h0
    go_enter Tryz.func23, Tryz.ntmps23
    go_upto_region 1 with (fail)
    generalize w.alloc (.cells #[.slice A a.ids.length cap, .bool a.root.cell, .int .i64 a.root.n, .bool a.jumps] 26) = V at k0 hb0 ⊢
    obtain ⟨⟨c0, c1, c2, c3⟩, -, hl0⟩ := four_c k0
    clear k0
    go_wp2_with (go_at_call 24; refine (HC.out _ hb0).mono ?_; rintro e w1 ⟨rfl, hb1⟩)
    go_ret2
    exact ⟨by rw [HR.out]; rfl, hb0.trans (hb1.mono hb0.size)⟩

end Go.Proofs.YtoncdnelacolaaaGreatDoor.Ar
