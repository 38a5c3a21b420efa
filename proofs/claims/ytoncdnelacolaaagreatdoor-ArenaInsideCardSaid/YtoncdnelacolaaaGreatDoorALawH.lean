/- ArenaInside: the moves of what stands for an identifier are those of the identifier, with the sides changed. -/
import Derived.Test.YtoncdnelacolaaaGreatDoorARefR
import Derived.Test.YtoncdnelacolaaaGreatDoorASpecI
import Derived.Test.YtoncdnelacolaaaGreatDoorAInner
import Derived.Test.YtoncdnelacolaaaGreatDoorAChain
namespace Go.Proofs.YtoncdnelacolaaaGreatDoor.Ar
open Go Go.Proofs Go.RowKit Go.Sort Lx Ps

theorem inner_in (ids : Value) (a : Ar) (k : Nat) (t : Ty) (w : World) (hin : ArIn w ids a) (h0 : checkE a = 0) (ht : a.ids[k]? = some t) :
    Calls Tryz.prog 36 #[arV ids a, .int .i64 ((k : Int) + 1)] w fun e w' => ∃ v, e = .returned (.tuple #[arV v (inAr a t), .int .i64 0]) ∧ ArIn w' v (inAr a t) ∧ Below w.heap.size w w' := by
  have hR := right_of h0
  have hp := hR.params t (List.mem_of_getElem? ht)
  have hk := (List.getElem?_eq_some_iff.1 ht).1
  have hi := hR.ids
  refine (inner_ok ids a k t w hin h0 ht (by omega) (by omega)).mono fun e w' ⟨v, he, ho, hb⟩ => ⟨v, he, ⟨SlT.of_own ho, ?_, ?_⟩, hb⟩
  · unfold inAr; rw [List.length_map]; omega
  · intro x hx
    unfold inAr at hx
    obtain ⟨b, _, rfl⟩ := List.mem_map.1 hx
    simp

theorem find_in2 {L : List Mv} {x : Mv} {q : Int} (h : x ∈ L) (hq : (q = -1 ∧ L.any (sameMv · x) = false) ∨ ∃ (k : Nat) (y : Mv), q = (k : Int) ∧ L[k]? = some y ∧ sameMv y x = true) : ¬ q < 0 ∧ decide (q < 0) = false := by
  rcases hq with ⟨_, h1⟩ | ⟨k, y, h1, _, _⟩
  · have h9 : L.any (sameMv · x) = true := List.any_eq_true.2 ⟨x, h, (sameMv_iff x x).2 rfl⟩
    rw [h1] at h9; cases h9
  · exact ⟨by omega, by rw [decide_eq_false_iff_not]; omega⟩

set_option maxRecDepth 100000 in
set_option maxHeartbeats 4000000 in
theorem arenaInside_any (ids : Value) (a : Ar) (pk : Int) (w : World) (hin : ArIn w ids a) (hpk0 : 0 ≤ pk) (hpk : pk ≤ 255) (hG : Ga w) :
    Calls Tryz.prog 14 #[arV ids a, .int .u8 pk] w fun e w' => e = .returned (.bool true) ∧ Below w.heap.size w w' := by
  have hS := fun V (hb : Below w.heap.size w V) => small_any ids a V (hin.below hb)
  have HA := Lib.hid (fun V (hb : Below w.heap.size w V) => awake_any V (hG.next hb))
  have HIN := Lib.hid hin
  obtain ⟨A, cap, rfl, -⟩ := hin.sl
  clear hG hin
  have k0 := heap_alloc_new w (.cells #[.slice A a.ids.length cap, .bool a.root.cell, .int .i64 a.root.n, .bool a.jumps] 26)
  have hb0 : Below w.heap.size w (w.alloc (.cells #[.slice A a.ids.length cap, .bool a.root.cell, .int .i64 a.root.n, .bool a.jumps] 26)) := (Below.refl _ _).alloc (Nat.le_refl _) _
  cases hsm : smallB a
  · rw [hsm] at hS
    unfold arV at *
    have HS := Lib.hid hS
    clear hS hsm HIN hpk hpk0
    go_enter Tryz.func14, Tryz.ntmps14
    go_wp2_with (first
      | (go_at_call 50; refine (HS.out _ hb0).mono ?_; rintro r w1 ⟨rfl, hb1⟩; have hb2 := hb0.trans (hb1.mono hb0.size))
      | (go_at_call 17; refine (HA.out _ hb2).mono ?_; rintro r w2 ⟨rfl, hb3⟩))
    go_ret
    exact ⟨rfl, hb2.trans (hb3.mono hb2.size)⟩
  · rw [hsm] at hS
    obtain ⟨hth, he, hlen⟩ := smallB_parts hsm
    obtain ⟨hl, hls⟩ := thin_len hth
    by_cases hz : a.ids.length = 0
    · unfold arV at *
      have hz1 : ((a.ids.length : Int) == 0) = true := by rw [beq_iff_eq]; omega
      have HS := Lib.hid hS
      clear hS hsm HIN hth he hlen hl hls hz hpk hpk0
      go_enter Tryz.func14, Tryz.ntmps14
      go_upto_region 1 with (fail)
      generalize w.alloc (.cells #[.slice A a.ids.length cap, .bool a.root.cell, .int .i64 a.root.n, .bool a.jumps] 26) = V at k0 hb0 ⊢
      obtain ⟨⟨c0, c1, c2, c3⟩, -, hl0⟩ := four_c k0
      go_wp2_with (first
        | (go_at_call 50; refine (HS.out _ hb0).mono ?_; rintro r w1 ⟨rfl, hb1⟩; have hb2 := hb0.trans (hb1.mono hb0.size); obtain ⟨⟨p0, p1, p2, p3⟩, -, -⟩ := four_c (heap_below hb1 hl0 k0))
        | (go_at_call 17; refine (HA.out _ hb2).mono ?_; rintro r w2 ⟨rfl, hb3⟩))
      go_ret
      exact ⟨rfl, hb2.trans (hb3.mono hb2.size)⟩
    · obtain ⟨k, hkm⟩ : ∃ k : Nat, (k : Int) = Int.tmod pk (a.ids.length : Int) := ⟨(Int.tmod pk (a.ids.length : Int)).toNat, Int.toNat_of_nonneg (Int.tmod_nonneg _ hpk0)⟩
      have hkl : k < a.ids.length := by
        have := Int.tmod_lt_of_pos pk (show (0 : Int) < (a.ids.length : Int) by omega)
        omega
      have ht := List.getElem?_eq_getElem hkl
      generalize a.ids[k] = t at ht
      have hI := fun (A5 : Option Addr) (c5 : Nat) V (h : ArIn V (.slice A5 a.ids.length c5) a) => inner_in _ a k t V h he ht
      have hM := fun V (hb : Below w.heap.size w V) => lawMoves_any _ a V (HIN.out.below hb) he hlen hl hls
      have hC := fun V (hb : Below w.heap.size w V) => copy_any _ a V (HIN.out.below hb) hl hls
      have hW := fun m V (hb : Below w.heap.size w V) => whose_any _ a m V (HIN.out.below hb) hl hls
      have hsB := small_in hsm ht
      have hcnt := cnt_all ht
      have hside := fun m (hm : m ∈ allM a) (hid : m.id = (k : Int) + 1) => inside_all he ht hm hid
      generalize inAr a t = B at *
      obtain ⟨hthB, heB, hlenB⟩ := smallB_parts hsB
      obtain ⟨hlB, hlsB⟩ := thin_len hthB
      have hSB := fun v V (h : ArIn V v B) => small_any v B V h
      rw [hsB] at hSB
      have hMB := fun v V (h : ArIn V v B) => lawMoves_any v B V h heB hlenB hlB hlsB
      have hWB := fun v m V (h : ArIn V v B) => whose_any v B m V h hlB hlsB
      have hFB := fun (v : Value) (x : Mv) V (h : SlM V v (allM B)) => refFind_any v (allM B) x V h (by omega)
      unfold arV mvV at *
      have HS := Lib.hid hS
      have HI := Lib.hid hI
      have HM := Lib.hid hM
      have HC := Lib.hid hC
      have HW := Lib.hid hW
      have HSB := Lib.hid hSB
      have HMB := Lib.hid hMB
      have HWB := Lib.hid hWB
      have HFB := Lib.hid hFB
      have HCNT := Lib.hid hcnt
      have HSIDE := Lib.hid hside
      have HMOD := Lib.hid hkm.symm
      have z0 : ((a.ids.length : Int) == 0) = false := by rw [beq_eq_false_iff_ne]; omega
      have z1 : ¬ (a.ids.length : Int) = 0 := by omega
      have z2 : IntKind.i64.wrap pk = pk := IntWalk.i64_in _ (by omega)
      have z3 : Int.tmod pk (a.ids.length : Int) = (k : Int) := hkm.symm
      have z4 : IntKind.i64.wrap ((k : Int) + 1) = (k : Int) + 1 := IntWalk.i64_in _ (by omega)
      have z5 : IntKind.i64.wrap (k : Int) = (k : Int) := IntWalk.i64_in _ (by omega)
      clear hS hM hC hW hI hsB hcnt hside hSB hMB hWB hFB hthB heB hlB hlsB hsm hth he hls HIN hkm ht hz
      generalize allM a = L at *
      generalize allM B = K at *
      go_enter Tryz.func14, Tryz.ntmps14
      go_upto_region 1 with (fail)
      generalize w.alloc (.cells #[.slice A a.ids.length cap, .bool a.root.cell, .int .i64 a.root.n, .bool a.jumps] 26) = V at k0 hb0 ⊢
      obtain ⟨⟨c0, c1, c2, c3⟩, -, hl0⟩ := four_c k0
      have HK0 := Lib.hid k0
      clear k0
      go_upto_region 3 with (go_at_call 50; refine (HS.out _ hb0).mono ?_; rintro r w1 ⟨rfl, hb1⟩; have hbS := hb0.trans (hb1.mono hb0.size); obtain ⟨⟨p0, p1, p2, p3⟩, -, -⟩ := four_c (heap_below hb1 hl0 HK0.out))
      have M1 := heap_below hb1 hl0 HK0.out
      have hl1 := Nat.lt_of_lt_of_le hl0 hb1.size
      clear c0 c1 c2 c3 hb0 hb1 HK0 HS hl0
      go_upto_region 5 with (first
        | (go_at_call 36; refine (HI.out _ _ _ hin5).mono ?_; rintro r w4 ⟨vB, rfl, hinB, hb7⟩; have hb4 : Below w1.heap.size w1 w4 := hb3.trans (hb7.mono hb3.size); have hinB' := hinB; obtain ⟨Av, cv, rfl, -⟩ := hinB'.sl)
        | (go_at_call 18; refine (HC.out _ hbS).mono ?_; rintro r w3 ⟨v5, rfl, hin5, hb8⟩; have hb3 : Below w1.heap.size w1 w3 := ⟨hb8.os, hb8.tape, hb8.output, hb8.size, hb8.block⟩; have hin5' := hin5; obtain ⟨A5, c5, rfl, -⟩ := hin5'.sl))
      have hbY := hbS.trans (hb4.mono hbS.size)
      have hXb : Below w4.heap.size w4 (w4.alloc (.cells #[.slice Av B.ids.length cv, .bool B.root.cell, .int .i64 B.root.n, .bool B.jumps] 26)) := (Below.refl _ _).alloc (Nat.le_refl _) _
      have M4 := heap_below hb4 hl1 M1
      have hl4 := Nat.lt_of_lt_of_le hl1 hb4.size
      have MX := heap_below hXb hl4 M4
      have NX := heap_alloc_new w4 (.cells #[.slice Av B.ids.length cv, .bool B.root.cell, .int .i64 B.root.n, .bool B.jumps] 26)
      have hinX := hinB.below hXb
      have hbX := hbY.trans (hXb.mono hbY.size)
      clear p0 p1 p2 p3 hin5 hin5' hinB hinB' hb7 hb8 hb3 hb4 hbY hXb M1 M4 hl1 HC HI
      generalize w4.alloc (.cells #[.slice Av B.ids.length cv, .bool B.root.cell, .int .i64 B.root.n, .bool B.jumps] 26) = X at *
      generalize w4.heap.size = B4 at *
      obtain ⟨⟨c0, c1, c2, c3⟩, -, hlm⟩ := four_c MX
      obtain ⟨⟨e0, e1, e2, e3⟩, -, hln⟩ := four_c NX
      have HMX := Lib.hid MX
      have HNX := Lib.hid NX
      have HinX := Lib.hid hinX
      clear MX NX hinX
      go_upto_region 7 with (go_at_call 50; refine (HSB.out _ _ HinX.out).mono ?_; rintro r w5 ⟨rfl, hb5⟩)
      have hbx5 := hbX.trans (hb5.mono hbX.size)
      obtain ⟨⟨p0, p1, p2, p3⟩, -, -⟩ := four_c (heap_below hb5 hlm HMX.out)
      clear c0 c1 c2 c3 e0 e1 e2 e3
      go_upto_region 8 with (go_at_call 51; refine (HM.out _ hbx5).mono ?_; rintro r w6 ⟨vL, rfl, hslL, hb6⟩; have hslL' := hslL; obtain ⟨AL, cL, rfl, -⟩ := hslL')
      have hb56 : Below X.heap.size X w6 := hb5.trans ((⟨hb6.os, hb6.tape, hb6.output, hb6.size, hb6.block⟩ : Below w5.heap.size w5 w6).mono hb5.size)
      obtain ⟨⟨e0, e1, e2, e3⟩, -, -⟩ := four_c (heap_below hb56 hln HNX.out)
      clear p0 p1 p2 p3 hb5 hb6 hbx5
      go_upto_region 11 with (go_at_call 51; refine (HMB.out _ _ (HinX.out.below hb56)).mono ?_; rintro r w7 ⟨vK, rfl, hslK, hb7⟩; have hslK' := hslK; obtain ⟨AK, cK, rfl, -⟩ := hslK')
      have hb57 : Below X.heap.size X w7 := hb56.trans ((⟨hb7.os, hb7.tape, hb7.output, hb7.size, hb7.block⟩ : Below w6.heap.size w6 w7).mono hb56.size)
      have HSLL := Lib.hid (hslL.below (⟨hb7.os, hb7.tape, hb7.output, hb7.size, hb7.block⟩ : Below w6.heap.size w6 w7))
      have HSLK := Lib.hid hslK
      have M7 := heap_below hb57 hlm HMX.out
      have N7 := heap_below hb57 hln HNX.out
      have HinY := Lib.hid (HinX.out.below hb57)
      have hbY := hbX.trans (hb57.mono hbX.size)
      clear e0 e1 e2 e3 hslL hslK hb7 hb57 hb56 HinX HMX HNX hlm hln hbX HM HMB HSB
      generalize w7 = Y at *
      have HM7 := Lib.hid M7
      have HN7 := Lib.hid N7
      clear M7 N7
      go_wp2
      go_loopw [12, 13] (fun u c wr => ∃ i : Nat, u = .int .i64 (cntI L ((k : Int) + 1) i : Int) ∧ c = .int .i64 (i : Int) ∧ i ≤ L.length ∧ Below Y.heap.size Y wr) (fun _ c _ => L.length + 1 - (intOf c).toNat)
      case atStart => exact ⟨0, rfl, rfl, Nat.zero_le _, Below.refl _ _⟩
      case round =>
        obtain ⟨i, rfl, rfl, hi, hb⟩ := hrel
        have hbR := hbY.trans (hb.mono hbY.size)
        by_cases hlt : i < L.length
        · have hlt' : (i : Int) < (L.length : Int) := by omega
          have hx := List.getElem?_eq_getElem hlt
          have hmem := List.getElem_mem hlt
          obtain ⟨AL', cL', hAe, hA⟩ := HSLL.out
          obtain ⟨b, off, hAb, hbl0, hc⟩ := hA (by omega)
          simp only [Value.slice.injEq] at hAe
          obtain ⟨rfl, -, rfl⟩ := hAe
          subst hAb
          obtain ⟨y0, y1, y2, y3⟩ := hc i _ hx
          generalize L[i] = m at *
          have i0 : (0 : Int) ≤ (i : Int) := by omega
          have i4 : ¬ ((i : Int) < 0) := by omega
          have i6 : ¬ ((L.length : Int) ≤ (i : Int)) := by omega
          have d0 := (hb.cell (p := ⟨b, off + i * 4, none⟩) hbl0).trans y0
          have d1 := (hb.cell (p := ⟨b, off + i * 4 + 1, none⟩) hbl0).trans y1
          have d2 := (hb.cell (p := ⟨b, off + i * 4 + 2, none⟩) hbl0).trans y2
          have d3 := (hb.cell (p := ⟨b, off + i * 4 + 3, none⟩) hbl0).trans y3
          have hbl : b < wr.heap.size := Nat.lt_of_lt_of_le hbl0 hb.size
          have HX := Lib.hid hx
          clear hx hc hA y0 y1 y2 y3
          by_cases hid : m.id = (k : Int) + 1
          · have HCS := Lib.hid (cnt_yes HX.out hid)
            have hcl := cnt_le L ((k : Int) + 1) i
            obtain ⟨hK, hwa, hwb⟩ := HSIDE.out m hmem hid
            have HKM := Lib.hid hK
            have hWA := HW.out m
            rw [hwa] at hWA
            have HWA := Lib.hid hWA
            have hWBm := fun v => HWB.out v (inMv m)
            rw [hwb] at hWBm
            unfold inMv at hWBm
            dsimp only at hWBm
            have HWBM := Lib.hid hWBm
            clear hK hwa hwb hWA hWBm
            have z6 : (m.id != (k : Int) + 1) = false := by rw [hid]; simp
            clear hid
            go_upto_region 17 with (fail)
            refine wp_region_chain (fun w' => w'.cell? ⟨b, off + i * 4 + 1, none⟩ = some (.int .i64 m.arg) ∧ w'.cell? ⟨b, off + i * 4 + 2, none⟩ = some (.int .u8 (m.kind : Int)) ∧ w'.cell? ⟨b, off + i * 4 + 3, none⟩ = some (.int .i64 m.n)) [(true, 0), (true, 1), (true, 2), (true, 3), (true, 4), (true, 5), (true, 6), (true, 7), (true, 8), (true, 9), (true, 10), (true, 11), (true, 12), (true, 13), (true, 14), (true, 15), (false, 16), (false, 17)] (by kernel_rfl) (by kernel_rfl) (by kernel_rfl) (by kernel_rfl) (by intro d v c a w h; cases d <;> exact h) ⟨d1, d2, d3⟩ ?_
            simp only [chainOps, List.filterMap_cons, List.filterMap_nil, List.getElem?_toArray, List.getElem?_cons_zero, List.getElem?_cons_succ, Option.map_some]
            repeat (first
              | (refine chain_skip (by rfl) ?_
                 try simp only [Act.put, List.setIfInBounds_toArray, List.set_cons_zero, List.set_cons_succ])
              | (apply chain_take (by rfl)
                 · (intro w' hSw; (try dsimp only at hSw); go_simp; try with_reducible rfl)
                 try simp only [Act.put, List.setIfInBounds_toArray, List.set_cons_zero, List.set_cons_succ]))
            refine chain_act (fun KK hKK => ?_)
            go_simp
            refine hKK.out _ _ ⟨(((Below.refl wr.heap.size wr).alloc (Nat.le_refl _) _).drew.cell (p := ⟨b, off + i * 4 + 1, none⟩) hbl).trans d1, (((Below.refl wr.heap.size wr).alloc (Nat.le_refl _) _).drew.cell (p := ⟨b, off + i * 4 + 2, none⟩) hbl).trans d2, (((Below.refl wr.heap.size wr).alloc (Nat.le_refl _) _).drew.cell (p := ⟨b, off + i * 4 + 3, none⟩) hbl).trans d3⟩ ?_
            clear hKK KK
            try simp only [Act.put, List.setIfInBounds_toArray, List.set_cons_zero, List.set_cons_succ]
            refine chain_act (fun KK hKK => ?_)
            go_simp
            refine hKK.out _ _ ⟨(((Below.refl wr.heap.size wr).alloc (Nat.le_refl _) _).drew.cell (p := ⟨b, off + i * 4 + 1, none⟩) hbl).trans d1, (((Below.refl wr.heap.size wr).alloc (Nat.le_refl _) _).drew.cell (p := ⟨b, off + i * 4 + 2, none⟩) hbl).trans d2, (((Below.refl wr.heap.size wr).alloc (Nat.le_refl _) _).drew.cell (p := ⟨b, off + i * 4 + 3, none⟩) hbl).trans d3⟩ ?_
            clear hKK KK
            try simp only [Act.put, List.setIfInBounds_toArray, List.set_cons_zero, List.set_cons_succ]
            refine chain_nil ?_
            have hbA : Below wr.heap.size wr (wr.alloc (.cells #[.int .i64 m.arg, .int .i64 0, .int .u8 (m.kind : Int), .int .i64 m.n] 40)).drew := ((Below.refl wr.heap.size wr).alloc (Nat.le_refl _) _).drew
            have P9 : (wr.alloc (.cells #[.int .i64 m.arg, .int .i64 0, .int .u8 (m.kind : Int), .int .i64 m.n] 40)).drew.heap[wr.heap.size]? = some (.cells #[.int .i64 m.arg, .int .i64 0, .int .u8 (m.kind : Int), .int .i64 m.n] 40 (0, 0)) := heap_alloc_new wr _
            have f0 := (hbA.cell (p := ⟨b, off + i * 4, none⟩) hbl).trans d0
            have f1 := (hbA.cell (p := ⟨b, off + i * 4 + 1, none⟩) hbl).trans d1
            have f2 := (hbA.cell (p := ⟨b, off + i * 4 + 2, none⟩) hbl).trans d2
            have f3 := (hbA.cell (p := ⟨b, off + i * 4 + 3, none⟩) hbl).trans d3
            have hbX := hb.trans (hbA.mono hb.size)
            have hblX := Nat.lt_of_lt_of_le hbl hbA.size
            have hbRX := hbR.trans (hbA.mono hbR.size)
            clear hbA d0 d1 d2 d3 hb hbR hbl
            generalize (wr.alloc (.cells #[.int .i64 m.arg, .int .i64 0, .int .u8 (m.kind : Int), .int .i64 m.n] 40)).drew = X at *
            generalize wr.heap.size = B5 at *
            have M5 := heap_below hbX (Array.getElem?_eq_some_iff.1 HM7.out).1 HM7.out
            have N5 := heap_below hbX (Array.getElem?_eq_some_iff.1 HN7.out).1 HN7.out
            obtain ⟨⟨c0, c1, c2, c3⟩, -, hlmX⟩ := four_c M5
            have hlnX := (Array.getElem?_eq_some_iff.1 N5).1
            have hlpX := (Array.getElem?_eq_some_iff.1 P9).1
            have HN5 := Lib.hid N5
            have HP5 := Lib.hid P9
            clear M5 N5 P9
            go_upto_region 18 with (fail)
            go_region_held3 (fun w' => w'.cell? ⟨w.heap.size, 0, none⟩ = some (.slice A a.ids.length cap) ∧ w'.cell? ⟨w.heap.size, 1, none⟩ = some (.bool a.root.cell) ∧ w'.cell? ⟨w.heap.size, 2, none⟩ = some (.int .i64 a.root.n) ∧ w'.cell? ⟨w.heap.size, 3, none⟩ = some (.bool a.jumps) ∧ w'.cell? ⟨b, off + i * 4, none⟩ = some (.int .i64 m.id) ∧ w'.cell? ⟨b, off + i * 4 + 1, none⟩ = some (.int .i64 m.arg) ∧ w'.cell? ⟨b, off + i * 4 + 2, none⟩ = some (.int .u8 (m.kind : Int)) ∧ w'.cell? ⟨b, off + i * 4 + 3, none⟩ = some (.int .i64 m.n))
              (first
                | (go_split_ands; all_goals (first | assumption))
                | go_keep)
              ((first
                | (go_at_call 52; refine (HWA.out _ (by first | exact hbRX | exact hbRX.drew)).mono ?_; rintro r w5 ⟨rfl, hb8⟩; have hb5 : Below X.heap.size X w5 := ⟨hb8.os, hb8.tape, hb8.output, hb8.size, hb8.block⟩; have q0 := (hb5.cell (p := ⟨w.heap.size, 0, none⟩) hlmX).trans c0; have q1 := (hb5.cell (p := ⟨w.heap.size, 1, none⟩) hlmX).trans c1; have q2 := (hb5.cell (p := ⟨w.heap.size, 2, none⟩) hlmX).trans c2; have q3 := (hb5.cell (p := ⟨w.heap.size, 3, none⟩) hlmX).trans c3; have q4 := (hb5.cell (p := ⟨b, off + i * 4, none⟩) hblX).trans f0; have q5 := (hb5.cell (p := ⟨b, off + i * 4 + 1, none⟩) hblX).trans f1; have q6 := (hb5.cell (p := ⟨b, off + i * 4 + 2, none⟩) hblX).trans f2; have q7 := (hb5.cell (p := ⟨b, off + i * 4 + 3, none⟩) hblX).trans f3)))
            clear c0 c1 c2 c3 f0 f1 f2 f3 q0 q1 q2 q3 q4 q5 q6 q7 hb8
            obtain ⟨⟨e0, e1, e2, e3⟩, -, -⟩ := four_c (heap_below hb5 hlnX HN5.out)
            obtain ⟨⟨f0, f1, f2, f3⟩, -, -⟩ := four_c (heap_below hb5 hlpX HP5.out)
            have hb5Y := hbX.trans (hb5.mono hbX.size)
            go_upto_region 20 with (go_at_call 52; refine (HWBM.out _ _ (HinY.out.below hb5Y)).mono ?_; rintro r w6 ⟨rfl, hb6⟩)
            have hb56 : Below X.heap.size X w6 := hb5.trans (hb6.mono hb5.size)
            have hb6Y := hb5Y.trans (hb6.mono hb5Y.size)
            clear e0 e1 e2 e3 f0 f1 f2 f3 hb5 hb6 hb5Y
            obtain ⟨⟨f0, f1, f2, f3⟩, -, -⟩ := four_c (heap_below hb56 hlpX HP5.out)
            have HFM := Lib.hid (show Calls Tryz.prog 53 #[.slice AK K.length cK, .agg #[.int .i64 m.arg, .int .i64 0, .int .u8 (m.kind : Int), .int .i64 m.n]] w6 fun e w' => (∃ q : Int, e = .returned (.int .i64 q) ∧ ¬ q < 0 ∧ decide (q < 0) = false) ∧ Below w6.heap.size w6 w' from (HFB.out _ (inMv m) w6 (HSLK.out.below hb6Y)).mono fun e w' ⟨⟨q, he, hq⟩, hb⟩ => ⟨⟨q, he, find_in2 HKM.out hq⟩, hb⟩)
            generalize otherB m = ob at *
            cases ob
            · go_wp2_with (go_at_call 53; refine HFM.out.mono ?_; rintro r w7 ⟨⟨q, rfl, u1, u2⟩, hb7⟩)
              go_roundw
              case rel => exact ⟨i + 1, by rw [HCS.out]; rfl, by go_num, by omega, hb6Y.trans (hb7.mono hb6Y.size)⟩
              case measure => simp [intOf]; omega
            · go_wp2_with (go_at_call 53; refine HFM.out.mono ?_; rintro r w7 ⟨⟨q, rfl, u1, u2⟩, hb7⟩)
              go_roundw
              case rel => exact ⟨i + 1, by rw [HCS.out]; rfl, by go_num, by omega, hb6Y.trans (hb7.mono hb6Y.size)⟩
              case measure => simp [intOf]; omega
          · have HCS := Lib.hid (cnt_no HX.out hid)
            have z6 : (m.id != (k : Int) + 1) = true := by rw [bne_iff_ne]; exact hid
            clear hid
            go_wp2
            go_roundw
            case rel => exact ⟨i + 1, by rw [HCS.out], by go_num, by omega, hb⟩
            case measure => simp [intOf]; omega
        · have hlt' : ¬ (i : Int) < (L.length : Int) := by omega
          have hiL : i = L.length := by omega
          subst hiL
          have z7 : ((cntI L ((k : Int) + 1) L.length : Int) == (K.length : Int)) = true := by rw [HCNT.out]; simp
          go_wp2_with (go_at_call 17; refine (HA.out _ hbR).mono ?_; rintro r w9 ⟨rfl, hb9⟩)
          go_ret
          exact ⟨rfl, hbR.trans (hb9.mono hbR.size)⟩

end Go.Proofs.YtoncdnelacolaaaGreatDoor.Ar
