/- ArenaChecks: the error of any arena, its moves and its text, or the errors, are what the document says; nothing is changed. -/
import Derived.Test.YtoncdnelacolaaaGreatDoorAShowC
import Derived.Test.YtoncdnelacolaaaGreatDoorATextD
import Derived.Test.YtoncdnelacolaaaGreatDoorARefP
import Derived.Test.YtoncdnelacolaaaGreatDoorALawC
namespace Go.Proofs.YtoncdnelacolaaaGreatDoor.Ar
open Go Go.Proofs Go.RowKit Go.Sort Lx Ps

/-- The moves of an arena, or none. -/
def movL (a : Ar) : List Mv := if checkE a = 0 then allM a else []
theorem movL_len (a : Ar) : (movL a).length ≤ 1000000 := by
  unfold movL
  split
  · rename_i h; have := all_len (right_of h); omega
  · simp
set_option maxRecDepth 100000 in
set_option maxHeartbeats 1000000 in
theorem apMoves_any (ids : Value) (a : Ar) (w : World) (hin : ArIn w ids a) :
    Calls Tryz.prog 20 #[arV ids a] w fun e w' => ∃ v, e = .returned (.tuple #[v, .int .i64 (checkE a : Int)]) ∧ SlM w' v (movL a) ∧ Below w.heap.size w w' := by
  by_cases h0 : checkE a = 0
  · unfold movL
    rw [h0, if_pos rfl]
    exact (moves_any ids a w hin h0).mono fun e w' ⟨v, h1, h2, h3⟩ => ⟨v, h1, SlM.of_own h2, h3⟩
  · have hR : ∀ W, Below w.heap.size w W → Calls Tryz.prog 59 #[arV ids a] W fun r w' => r = .returned (.tuple #[.agg #[.slice none 0 0, .bool false, .int .i64 0, .bool false], .int .i64 (checkE a : Int)]) ∧ Below W.heap.size W w' := fun W hb => rightOf_bad ids a W (hin.below hb) h0
    have hne : ((checkE a : Int) != 0) = true := by simp; omega
    have HM := Lib.hid (show movL a = [] by unfold movL; rw [if_neg h0])
    obtain ⟨A, cap, rfl, -⟩ := hin.sl
    have hba : Below w.heap.size w (w.alloc (.cells #[.slice A a.ids.length cap, .bool a.root.cell, .int .i64 a.root.n, .bool a.jumps] 26)) := (Below.refl _ _).alloc (Nat.le_refl _) _
    have HR := Lib.hid hR
    clear hin h0 hR
    generalize checkE a = e at *
    unfold arV at *
    go_enter Tryz.func20, Tryz.ntmps20
    go_wp2_with (go_at_call 59; refine (HR.out _ hba).mono ?_; rintro r w1 ⟨rfl, hb1⟩; have hb2 := hba.trans (hb1.mono hba.size); have hb3 := fun o => hb2.alloc hb2.size o)
    go_ret2
    exact ⟨.slice none 0 0, rfl, by rw [HM.out]; exact nil_in _, hb3 _⟩
set_option maxRecDepth 100000 in
set_option maxHeartbeats 1000000 in
theorem refMoves_any (ids : Value) (a : Ar) (w : World) (hin : ArIn w ids a) :
    Calls Tryz.prog 22 #[arV ids a] w fun e w' => ∃ v, e = .returned (.tuple #[v, .int .i64 (checkE a : Int)]) ∧ SlM w' v (movL a) ∧ Below w.heap.size w w' := by
  have hC := fun W (hb : Below w.heap.size w W) => refCheck_any ids a W (hin.below hb)
  have hAl := fun (h0 : checkE a = 0) W (hb : Below w.heap.size w W) => refAll_any ids a W (hin.below hb) (right_of h0)
  obtain ⟨A, cap, rfl, -⟩ := hin.sl
  have k0 := heap_alloc_new w (.cells #[.slice A a.ids.length cap, .bool a.root.cell, .int .i64 a.root.n, .bool a.jumps] 26)
  have hba : Below w.heap.size w (w.alloc (.cells #[.slice A a.ids.length cap, .bool a.root.cell, .int .i64 a.root.n, .bool a.jumps] 26)) := (Below.refl _ _).alloc (Nat.le_refl _) _
  by_cases h0 : checkE a = 0
  · have hA := hAl h0
    have HM := Lib.hid (show movL a = allM a by unfold movL; rw [if_pos h0])
    rw [h0] at hC ⊢
    have HC := Lib.hid hC
    have HA := Lib.hid hA
    clear hin h0 hC hA hAl
    unfold arV at *
    go_enter Tryz.func22, Tryz.ntmps22
    go_upto_region 1 with (fail)
    generalize w.alloc (.cells #[.slice A a.ids.length cap, .bool a.root.cell, .int .i64 a.root.n, .bool a.jumps] 26) = V at k0 hba ⊢
    obtain ⟨⟨c0, c1, c2, c3⟩, -, hl0⟩ := four_c k0
    have HK := Lib.hid k0
    clear k0
    go_wp2_with (first
      | (go_at_call 24; refine (HC.out _ hba).mono ?_; rintro r w1 ⟨rfl, hb1⟩; have hb2 := hba.trans (hb1.mono hba.size); obtain ⟨⟨d0, d1, d2, d3⟩, -, -⟩ := four_c (heap_below hb1 hl0 HK.out))
      | (go_at_call 64; refine (HA.out _ hb2).mono ?_; rintro r w2 ⟨v, rfl, hown, hb3⟩))
    go_ret2
    exact ⟨v, rfl, by rw [HM.out]; exact SlM.of_own hown, hb2.trans (hb3.mono hb2.size)⟩
  · have hne : ((checkE a : Int) != 0) = true := by simp; omega
    have HM := Lib.hid (show movL a = [] by unfold movL; rw [if_neg h0])
    have HC := Lib.hid hC
    clear hin h0 hC hAl
    generalize checkE a = e at *
    unfold arV at *
    go_enter Tryz.func22, Tryz.ntmps22
    go_upto_region 1 with (fail)
    generalize w.alloc (.cells #[.slice A a.ids.length cap, .bool a.root.cell, .int .i64 a.root.n, .bool a.jumps] 26) = V at k0 hba ⊢
    obtain ⟨⟨c0, c1, c2, c3⟩, -, hl0⟩ := four_c k0
    clear k0
    go_wp2_with (go_at_call 24; refine (HC.out _ hba).mono ?_; rintro r w1 ⟨rfl, hb1⟩)
    go_ret2
    exact ⟨.slice none 0 0, rfl, by rw [HM.out]; exact nil_in _, hba.trans (hb1.mono hba.size)⟩
theorem showR_form (a : Ar) : ∃ s : ByteArray, showR a = .tuple #[.string s, .int .i64 (checkE a : Int)] := by
  unfold showR
  split
  · rename_i h; exact ⟨_, by rw [h]; rfl⟩
  · exact ⟨_, rfl⟩

set_option maxRecDepth 100000 in
set_option maxHeartbeats 4000000 in
theorem arenaChecks_any (ids : Value) (a : Ar) (w : World) (hin : ArIn w ids a) (hG : Ga w) :
    Calls Tryz.prog 3 #[arV ids a] w fun e w' => e = .returned (.bool true) ∧ Below w.heap.size w w' := by
  have hT := fun V (hb : Below w.heap.size w V) => thin_any ids a V (hin.below hb)
  have HA := Lib.hid (fun V (hb : Below w.heap.size w V) => awake_any V (hG.next hb))
  have HGA := Lib.hid (fun V (hb : Below w.heap.size w V) => hG.next hb)
  have HIN := Lib.hid hin
  obtain ⟨A, cap, rfl, -⟩ := hin.sl
  clear hG hin
  have k0 := heap_alloc_new w (.cells #[.slice A a.ids.length cap, .bool a.root.cell, .int .i64 a.root.n, .bool a.jumps] 26)
  have hb0 : Below w.heap.size w (w.alloc (.cells #[.slice A a.ids.length cap, .bool a.root.cell, .int .i64 a.root.n, .bool a.jumps] 26)) := (Below.refl _ _).alloc (Nat.le_refl _) _
  cases hth : thinB a
  · rw [hth] at hT
    unfold arV at *
    have HT := Lib.hid hT
    clear hT hth HIN HGA
    go_enter Tryz.func3, Tryz.ntmps3
    go_wp2_with (first
      | (go_at_call 16; refine (HT.out _ hb0).mono ?_; rintro r w1 ⟨rfl, hb1⟩; have hb2 := hb0.trans (hb1.mono hb0.size))
      | (go_at_call 17; refine (HA.out _ hb2).mono ?_; rintro r w2 ⟨rfl, hb3⟩))
    go_ret
    exact ⟨rfl, hb2.trans (hb3.mono hb2.size)⟩
  · rw [hth] at hT
    obtain ⟨hl, hls⟩ := thin_len hth
    have hCp := fun V (hb : Below w.heap.size w V) => copy_any _ a V (HIN.out.below hb) hl hls
    have hRC := fun V (hb : Below w.heap.size w V) => refCheck_any _ a V (HIN.out.below hb)
    have hRM := fun V (hb : Below w.heap.size w V) => refMoves_any _ a V (HIN.out.below hb)
    have hRS := fun V (hb : Below w.heap.size w V) => refShow_any _ a V (HIN.out.below hb)
    have xC := fun (A5 : Option Addr) (c5 : Nat) V (h : ArIn V (.slice A5 a.ids.length c5) a) => check_any _ a V h
    have xM := fun (A5 : Option Addr) (c5 : Nat) V (h : ArIn V (.slice A5 a.ids.length c5) a) => apMoves_any _ a V h
    have xS := fun (A5 : Option Addr) (c5 : Nat) V (h : ArIn V (.slice A5 a.ids.length c5) a) (hb : Below w.heap.size w V) => show_any _ a V h (HGA.out V hb)
    have hSa := fun (A5 : Option Addr) (c5 : Nat) V (h : ArIn V (.slice A5 a.ids.length c5) a) (hb : Below w.heap.size w V) => same_eq a _ _ V (HIN.out.below hb) h hl hls
    have hSW := fun (v u : Value) V (hv : SlM V v (movL a)) (hu : SlM V u (movL a)) => sameWord_eq v u (movL a) V hv hu (movL_len a)
    obtain ⟨s, hs⟩ := showR_form a
    rw [hs] at hRS
    simp only [hs] at xS
    unfold arV at *
    have HT := Lib.hid hT
    have HC := Lib.hid hCp
    have HRC := Lib.hid hRC
    have HRM := Lib.hid hRM
    have HRS := Lib.hid hRS
    have XC := Lib.hid xC
    have XM := Lib.hid xM
    have XS := Lib.hid xS
    have HSA := Lib.hid hSa
    have HSW := Lib.hid hSW
    clear hT hCp hRC hRM hRS xC xM xS hSa hSW hth hl hls HIN HGA hs
    generalize checkE a = e at *
    generalize movL a = L at *
    go_enter Tryz.func3, Tryz.ntmps3
    go_upto_region 1 with (fail)
    generalize w.alloc (.cells #[.slice A a.ids.length cap, .bool a.root.cell, .int .i64 a.root.n, .bool a.jumps] 26) = V at k0 hb0 ⊢
    obtain ⟨⟨c0, c1, c2, c3⟩, -, hl0⟩ := four_c k0
    have HK0 := Lib.hid k0
    clear k0
    go_upto_region 4 with (first
      | (go_at_call 16; refine (HT.out _ hb0).mono ?_; rintro r w1 ⟨rfl, hb1⟩; have hb2 := hb0.trans (hb1.mono hb0.size); obtain ⟨⟨p0, p1, p2, p3⟩, -, -⟩ := four_c (heap_below hb1 hl0 HK0.out))
      | (go_at_call 18; refine (HC.out _ hb2).mono ?_; rintro r w3 ⟨v5, rfl, hin5, hb3⟩; have hin5' := hin5; obtain ⟨A5, c5, rfl, -⟩ := hin5'.sl))
    have hb4 : Below w.heap.size w w3 := hb2.trans (hb3.mono hb2.size)
    have M3 := heap_below hb3 (Nat.lt_of_lt_of_le hl0 hb1.size) (heap_below hb1 hl0 HK0.out)
    have hl3 := (Array.getElem?_eq_some_iff.1 M3).1
    have hX : Below w3.heap.size w3 (w3.alloc (.cells #[.slice A5 a.ids.length c5, .bool a.root.cell, .int .i64 a.root.n, .bool a.jumps] 26)) := (Below.refl _ _).alloc (Nat.le_refl _) _
    have MX := heap_below hX hl3 M3
    have NX := heap_alloc_new w3 (.cells #[.slice A5 a.ids.length c5, .bool a.root.cell, .int .i64 a.root.n, .bool a.jumps] 26)
    have hinX := hin5.below hX
    have hbX := hb4.trans (hX.mono hb4.size)
    clear c0 c1 c2 c3 p0 p1 p2 p3 hb0 hb1 hb2 hb3 hb4 M3 hl3 hX hin5 hin5' HK0 hl0 HT HC
    generalize w3.alloc (.cells #[.slice A5 a.ids.length c5, .bool a.root.cell, .int .i64 a.root.n, .bool a.jumps] 26) = X at *
    generalize w3.heap.size = B3 at *
    obtain ⟨⟨e0, e1, e2, e3⟩, -, hlX⟩ := four_c NX
    have hlm := (Array.getElem?_eq_some_iff.1 MX).1
    have HMX := Lib.hid MX
    have HNX := Lib.hid NX
    have HinX := Lib.hid hinX
    clear MX NX hinX
    go_upto_region 5 with (go_at_call 19; refine (XC.out _ _ _ HinX.out).mono ?_; rintro r w4 ⟨rfl, hb4⟩)
    obtain ⟨⟨f0, f1, f2, f3⟩, -, -⟩ := four_c (heap_below hb4 hlX HNX.out)
    clear e0 e1 e2 e3
    go_upto_region 6 with (go_at_call 20; refine (XM.out _ _ _ (HinX.out.below hb4)).mono ?_; rintro r w5 ⟨vM, rfl, hslM, hq5⟩; have hslM' := hslM; obtain ⟨AM, cM, rfl, -⟩ := hslM')
    have hb5 : Below X.heap.size X w5 := hb4.trans ((⟨hq5.os, hq5.tape, hq5.output, hq5.size, hq5.block⟩ : Below w4.heap.size w4 w5).mono hb4.size)
    have HSM := Lib.hid hslM
    obtain ⟨⟨e0, e1, e2, e3⟩, -, -⟩ := four_c (heap_below hb5 hlX HNX.out)
    clear f0 f1 f2 f3 hslM hq5 hb4
    go_upto_region 7 with (go_at_call 21; refine (XS.out _ _ _ (HinX.out.below hb5) (hbX.trans (hb5.mono hbX.size))).mono ?_; rintro r w6 ⟨rfl, hq6⟩)
    have hq6' : Below w5.heap.size w5 w6 := ⟨hq6.os, hq6.tape, hq6.output, hq6.size, hq6.block⟩
    have hb6 : Below X.heap.size X w6 := hb5.trans (hq6'.mono hb5.size)
    obtain ⟨⟨f0, f1, f2, f3⟩, -, -⟩ := four_c (heap_below hb6 hlm HMX.out)
    clear e0 e1 e2 e3 hq6 hb5
    go_upto_region 8 with (go_at_call 22; refine (HRM.out _ (hbX.trans (hb6.mono hbX.size))).mono ?_; rintro r w7 ⟨vD, rfl, hslD, hq7⟩; have hslD' := hslD; obtain ⟨AD, cD, rfl, -⟩ := hslD')
    have hq7' : Below w6.heap.size w6 w7 := ⟨hq7.os, hq7.tape, hq7.output, hq7.size, hq7.block⟩
    have hb7 : Below X.heap.size X w7 := hb6.trans (hq7'.mono hb6.size)
    have HSD := Lib.hid hslD
    obtain ⟨⟨e0, e1, e2, e3⟩, -, -⟩ := four_c (heap_below hb7 hlm HMX.out)
    clear f0 f1 f2 f3 hslD hq7 hb6
    go_upto_region 9 with (go_at_call 23; refine (HRS.out _ (hbX.trans (hb7.mono hbX.size))).mono ?_; rintro r w8 ⟨rfl, hq8⟩)
    have hq8' : Below w7.heap.size w7 w8 := ⟨hq8.os, hq8.tape, hq8.output, hq8.size, hq8.block⟩
    have hb8 : Below X.heap.size X w8 := hb7.trans (hq8'.mono hb7.size)
    have hSM8 := Lib.hid ((HSM.out.below hq6').below hq7' |>.below hq8')
    have hSD8 := Lib.hid (HSD.out.below hq8')
    obtain ⟨⟨f0, f1, f2, f3⟩, -, -⟩ := four_c (heap_below hb8 hlm HMX.out)
    clear e0 e1 e2 e3 hq8 hb7 hq6' hq7' hq8' HSM HSD XC XM XS HRM HRS
    go_wp2_with (first
      | (go_at_call 24; refine (HRC.out _ (hbX.trans (hb8.mono hbX.size))).mono ?_; rintro r w9 ⟨rfl, hb9⟩; have hbA : Below X.heap.size X w9 := hb8.trans (hb9.mono hb8.size))
      | (go_at_call 25; refine (HSW.out _ _ _ (hSM8.out.below hb9) (hSD8.out.below hb9)).mono ?_; rintro r w10 ⟨rfl, hb10⟩; have hbB : Below X.heap.size X w10 := hbA.trans (hb10.mono hbA.size); obtain ⟨⟨g0, g1, g2, g3⟩, -, -⟩ := four_c (heap_below hbB hlm HMX.out); obtain ⟨⟨i0, i1, i2, i3⟩, -, -⟩ := four_c (heap_below hbB hlX HNX.out))
      | (go_at_call 26; refine (HSA.out _ _ _ (HinX.out.below hbB) (hbX.trans (hbB.mono hbX.size))).mono ?_; rintro r w11 ⟨rfl, hb11⟩; have hbC : Below X.heap.size X w11 := hbB.trans (hb11.mono hbB.size))
      | (go_at_call 17; refine (HA.out _ (hbX.trans (hbC.mono hbX.size))).mono ?_; rintro r w12 ⟨rfl, hb12⟩))
    go_ret
    have hbW := hbX.trans (hbC.mono hbX.size)
    exact ⟨rfl, hbW.trans (hb12.mono hbW.size)⟩

end Go.Proofs.YtoncdnelacolaaaGreatDoor.Ar
