/- The text of a move. -/
import Derived.Test.YtoncdnelacolaaaGreatDoorAText
import Derived.RegionTactic
import Derived.BigRegion
import Derived.BigQuiet
import Derived.Test.YtoncdnelacolaaaGreatDoorAWalkI
import Derived.Test.YtoncdnelacolaaaGreatDoorASigns
import Derived.Deep.RegionLaw
import Derived.Deep.Cut
import Derived.Deep.DeepCutAuto
namespace Go.Proofs.YtoncdnelacolaaaGreatDoor.Ar
open Go Go.Proofs Go.RowKit Lx Ps

/-- A move whose numbers are numbers of the machine. -/
structure MvOk (m : Mv) : Prop where
  id0 : -9223372036854775808 ≤ m.id
  id1 : m.id ≤ 9223372036854775807
  arg0 : -9223372036854775808 ≤ m.arg
  arg1 : m.arg ≤ 9223372036854775807
  k : m.kind < 256
  n0 : -9223372036854775808 ≤ m.n
  n1 : m.n ≤ 9223372036854775807

set_option maxRecDepth 100000 in
set_option maxHeartbeats 1000000 in
theorem valueText_any (m : Mv) (w : World) (hm : MvOk m) (hG : Ga w) :
    Calls Tryz.prog 96 #[mvV m] w fun e w' => e = .returned (.tuple #[.string (strB (valueT m).1), .bool (valueT m).2]) ∧ Below w.heap.size w w' := by
  have hI : ∀ V, Below w.heap.size w V → Calls Tryz.prog 126 #[.int .i64 m.n] V fun e w' => e = .returned (.string (strB (Lib.itoa m.n))) ∧ Below V.heap.size V w' := fun V hb => itoa_any m.n V hm.n0 hm.n1 (hG.next hb)
  have hb0 : Below w.heap.size w (w.alloc (.cells #[.int .i64 m.id, .int .i64 m.arg, .int .u8 (m.kind : Int), .int .i64 m.n] 40)) := (Below.refl _ _).alloc (Nat.le_refl _) _
  have K := heap_alloc_new w (.cells #[.int .i64 m.id, .int .i64 m.arg, .int .u8 (m.kind : Int), .int .i64 m.n] 40)
  unfold valueT mvV
  by_cases h1 : m.kind = 1
  · rw [if_pos h1]
    rw [h1] at K hb0 ⊢
    by_cases hn : m.n = 0
    · rw [hn] at K hb0 ⊢
      clear hI hm h1 hn
      go_enter Tryz.func96, Tryz.ntmps96
      go_upto_region 1 with (fail)
      generalize w.alloc _ = V at K hb0 ⊢
      obtain ⟨⟨c0, c1, c2, c3⟩, -, hVl⟩ := four_c K
      clear K
      go_wp2
      go_region
      all_goals
        go_wp2
        refine bodyPost_ret (v := .tuple #[.string ⟨#[]⟩, .bool true]) (by simp [results, Tryz.results96, go_sem]) rfl ⟨rfl, ?_⟩
        exact hb0.drew
    · have e1 : (m.n == 0) = false := by simpa using hn
      have e2 : decide (m.n = 0) = false := by simpa using hn
      rw [e2]
      clear hI hm h1 hn
      go_enter Tryz.func96, Tryz.ntmps96
      go_upto_region 1 with (fail)
      generalize w.alloc _ = V at K hb0 ⊢
      obtain ⟨⟨c0, c1, c2, c3⟩, -, hVl⟩ := four_c K
      clear K
      go_wp2
      go_region
      all_goals
        go_wp2
        refine bodyPost_ret (v := .tuple #[.string ⟨#[]⟩, .bool false]) (by simp [results, Tryz.results96, go_sem]) rfl ⟨rfl, ?_⟩
        exact hb0.drew
  · rw [if_neg h1]
    have k1 : ((m.kind : Int) == 1) = false := by simp; omega
    by_cases h3 : m.kind = 3 ∧ m.n = -1
    · rw [if_pos h3]
      rw [h3.1, h3.2] at K hb0 ⊢
      clear hI hm h1 h3 k1
      go_enter Tryz.func96, Tryz.ntmps96
      go_upto_region 1 with (fail)
      generalize w.alloc _ = V at K hb0 ⊢
      obtain ⟨⟨c0, c1, c2, c3⟩, -, hVl⟩ := four_c K
      clear K
      go_wp2
      refine bodyPost_ret (v := .tuple #[.string ⟨#[42]⟩, .bool true]) (by simp [results, Tryz.results96, go_sem]) rfl ⟨rfl, ?_⟩
      exact hb0
    · rw [if_neg h3]
      have HI := Lib.hid hI
      clear hI hm
      generalize strB (Lib.itoa m.n) = sn at *
      obtain ⟨G, hG⟩ : ∃ x : Bool, decide (0 ≤ m.n) = x := ⟨_, rfl⟩
      have g2 : (decide ((0 : Int) ≤ m.n)) = G := hG
      by_cases h33 : m.kind = 3
      · rw [h33] at K hb0
        have n1 : (m.n == -1) = false := by
          have : ¬ m.n = -1 := fun e => h3 ⟨h33, e⟩
          simpa using this
        rw [h33]
        clear h3 k1 h1 h33
        go_enter Tryz.func96, Tryz.ntmps96
        go_upto_region 1 with (fail)
        generalize w.alloc _ = V at K hb0 ⊢
        obtain ⟨⟨c0, c1, c2, c3⟩, -, hVl⟩ := four_c K
        have HK := Lib.hid K
        clear K
        go_wp2
        go_region_with (go_at_call 126; refine (HI.out V.drew hb0.drew).mono ?_; rintro e w1 ⟨rfl, hb1⟩; obtain ⟨⟨d0, d1, d2, d3⟩, -, hVl1⟩ := four_c (heap_below hb1 hVl HK.out); have hb2 := hb0.drew.trans (hb1.mono hb0.size))
        all_goals
          go_wp2
          refine bodyPost_ret (v := .tuple #[.string sn, .bool G]) (by simp [results, Tryz.results96, go_sem]) rfl ⟨by rw [hG], ?_⟩
          exact hb2
      · have n3 : ((m.kind : Int) == 3) = false := by simp; omega
        clear h3 h1 h33
        go_enter Tryz.func96, Tryz.ntmps96
        go_upto_region 1 with (fail)
        generalize w.alloc _ = V at K hb0 ⊢
        obtain ⟨⟨c0, c1, c2, c3⟩, -, hVl⟩ := four_c K
        have HK := Lib.hid K
        clear K
        go_wp2
        go_region_with (go_at_call 126; refine (HI.out V.drew hb0.drew).mono ?_; rintro e w1 ⟨rfl, hb1⟩; obtain ⟨⟨d0, d1, d2, d3⟩, -, hVl1⟩ := four_c (heap_below hb1 hVl HK.out); have hb2 := hb0.drew.trans (hb1.mono hb0.size))
        all_goals
          go_wp2
          refine bodyPost_ret (v := .tuple #[.string sn, .bool G]) (by simp [results, Tryz.results96, go_sem]) rfl ⟨by rw [hG], ?_⟩
          exact hb2

set_option maxRecDepth 100000 in
set_option maxHeartbeats 1000000 in
theorem placeText_any (m : Mv) (w : World) (hm : MvOk m) (hG : Ga w) :
    Calls Tryz.prog 97 #[mvV m] w fun e w' => e = .returned (.string (strB (placeT m))) ∧ Below w.heap.size w w' := by
  have hI : ∀ V, Below w.heap.size w V → Calls Tryz.prog 126 #[.int .i64 m.id] V fun e w' => e = .returned (.string (strB (Lib.itoa m.id))) ∧ Below V.heap.size V w' := fun V hb => itoa_any m.id V hm.id0 hm.id1 (hG.next hb)
  have hJ : ∀ V, Below w.heap.size w V → Calls Tryz.prog 126 #[.int .i64 m.arg] V fun e w' => e = .returned (.string (strB (Lib.itoa m.arg))) ∧ Below V.heap.size V w' := fun V hb => itoa_any m.arg V hm.arg0 hm.arg1 (hG.next hb)
  have hl := Lib.itoa_length_le m.id hm.id0 hm.id1
  have hl2 := Lib.itoa_length_le m.arg hm.arg0 hm.arg1
  have hb0 : Below w.heap.size w (w.alloc (.cells #[.int .i64 m.id, .int .i64 m.arg, .int .u8 (m.kind : Int), .int .i64 m.n] 40)) := (Below.refl _ _).alloc (Nat.le_refl _) _
  have K := heap_alloc_new w (.cells #[.int .i64 m.id, .int .i64 m.arg, .int .u8 (m.kind : Int), .int .i64 m.n] 40)
  have a1 := fun W => run_string_add_sum (P := Tryz.prog) W (strB (Lib.itoa m.id)) ⟨#[46]⟩ (by rw [strB_size]; simp [ByteArray.size]; omega)
  have e1 : strB (Lib.itoa m.id) ++ (⟨#[46]⟩ : ByteArray) = strB (Lib.itoa m.id ++ [46]) := strB_app _ [46]
  have a2 := fun W => run_string_add_sum (P := Tryz.prog) W (strB (Lib.itoa m.id ++ [46])) (strB (Lib.itoa m.arg)) (by rw [strB_size, strB_size]; simp; omega)
  rw [strB_app] at a2
  rw [e1] at a1
  unfold placeT mvV
  by_cases h0 : m.arg = 0
  · rw [if_pos h0]
    rw [h0] at K hb0 ⊢
    have HI := Lib.hid hI
    clear hI hJ hm h0 a1 a2 e1 hl hl2
    generalize strB (Lib.itoa m.id) = si at *
    go_enter Tryz.func97, Tryz.ntmps97
    go_upto_region 1 with (fail)
    generalize w.alloc _ = V at K hb0 ⊢
    obtain ⟨⟨c0, c1, c2, c3⟩, -, hVl⟩ := four_c K
    clear K
    go_wp2_with (go_at_call 126; refine (HI.out _ hb0).mono ?_; rintro e w1 ⟨rfl, hb1⟩)
    go_ret
    exact ⟨rfl, hb0.trans (hb1.mono hb0.size)⟩
  · rw [if_neg h0]
    have n0 : (m.arg == 0) = false := by simpa using h0
    have HI := Lib.hid hI
    have HJ := Lib.hid hJ
    clear hI hJ hm h0 e1 hl hl2
    generalize strB (Lib.itoa m.id ++ [46] ++ Lib.itoa m.arg) = s3 at *
    generalize strB (Lib.itoa m.id ++ [46]) = s2 at *
    generalize strB (Lib.itoa m.id) = si at *
    generalize strB (Lib.itoa m.arg) = sa at *
    go_enter Tryz.func97, Tryz.ntmps97
    go_upto_region 1 with (fail)
    generalize w.alloc _ = V at K hb0 ⊢
    obtain ⟨⟨c0, c1, c2, c3⟩, -, hVl⟩ := four_c K
    have HK := Lib.hid K
    clear K
    go_wp2
    have k0 := cell_regrown c0
    have k1 := cell_regrown c1
    have cI := fun d os => Calls.regrown_of (HI.out («Sort».grow (redrawn V d) os) (hb0.trans ((below_regrown V d os).mono hb0.size)))
    have cJ := fun d os => Calls.regrown_of (HJ.out («Sort».grow (redrawn V d) os) (hb0.trans ((below_regrown V d os).mono hb0.size)))
    refine wp_region_quiet_below (by kernel_rfl) (by kernel_rfl) ?_
    repeat (go_big_quiet_step (first | exact cI _ _ | exact cJ _ _))
    refine wpQuiet_nil ?_
    intro _ hw'
    obtain ⟨⟨dq, osq⟩, hw''⟩ := hw'
    subst hw''
    go_wp2
    go_ret
    exact ⟨rfl, hb0.trans ((below_regrown V dq osq).mono hb0.size)⟩

end Go.Proofs.YtoncdnelacolaaaGreatDoor.Ar

namespace Go.Proofs.YtoncdnelacolaaaGreatDoor.Ar
open Go Go.Proofs Go.RowKit Lx Ps
open Go.Maps

/-- What Text returns. -/
def textR (m : Mv) : Value := if okText m then .tuple #[.string (strB (textL m)), .int .i64 0] else .tuple #[.string ⟨#[]⟩, .int .i64 4]
theorem valueT_len (m : Mv) (hm : MvOk m) : (valueT m).1.length ≤ 21 := by
  have := Lib.itoa_length_le m.n hm.n0 hm.n1
  unfold valueT
  split
  · simp
  · split
    · simp
    · exact this
theorem placeT_len (m : Mv) (hm : MvOk m) : (placeT m).length ≤ 43 := by
  have := Lib.itoa_length_le m.id hm.id0 hm.id1
  have := Lib.itoa_length_le m.arg hm.arg0 hm.arg1
  unfold placeT
  split <;> simp <;> omega
theorem signL_len (k : Nat) : (signL k).length = 1 := by unfold signL; split; rfl; split <;> rfl

set_option maxRecDepth 100000 in
set_option maxHeartbeats 1000000 in
theorem text_any (m : Mv) (w : World) (hm : MvOk m) (hG : Ga w) :
    Calls Tryz.prog 41 #[mvV m] w fun e w' => e = .returned (textR m) ∧ Below w.heap.size w w' := by
  have hV : ∀ V, Below w.heap.size w V → Calls Tryz.prog 96 #[mvV m] V fun e w' => e = .returned (.tuple #[.string (strB (valueT m).1), .bool (valueT m).2]) ∧ Below V.heap.size V w' := fun V hb => valueText_any m V hm (hG.next hb)
  have hP : ∀ V, Below w.heap.size w V → Calls Tryz.prog 97 #[mvV m] V fun e w' => e = .returned (.string (strB (placeT m))) ∧ Below V.heap.size V w' := fun V hb => placeText_any m V hm (hG.next hb)
  have hk := hm.k
  have l1 := valueT_len m hm
  have l2 := placeT_len m hm
  have l3 := signL_len m.kind
  have hb0 : Below w.heap.size w (w.alloc (.cells #[.int .i64 m.id, .int .i64 m.arg, .int .u8 (m.kind : Int), .int .i64 m.n] 40)) := (Below.refl _ _).alloc (Nat.le_refl _) _
  have K := heap_alloc_new w (.cells #[.int .i64 m.id, .int .i64 m.arg, .int .u8 (m.kind : Int), .int .i64 m.n] 40)
  have a1 := fun W => run_string_add_sum (P := Tryz.prog) W (strB (placeT m)) (strB (signL m.kind)) (by rw [strB_size, strB_size]; omega)
  have a2 := fun W => run_string_add_sum (P := Tryz.prog) W (strB (placeT m ++ signL m.kind)) (strB (valueT m).1) (by rw [strB_size, strB_size]; simp; omega)
  rw [strB_app] at a1 a2
  have hr : textR m = if okText m then .tuple #[.string (strB (placeT m ++ signL m.kind ++ (valueT m).1)), .int .i64 0] else .tuple #[.string ⟨#[]⟩, .int .i64 4] := rfl
  have ho : okText m = (!decide (m.id < 0) && !decide (m.arg < 0) && isK m.kind && (valueT m).2) := rfl
  generalize strB (placeT m ++ signL m.kind ++ (valueT m).1) = s3 at *
  generalize strB (placeT m ++ signL m.kind) = s2 at *
  generalize strB (placeT m) = s1 at *
  generalize strB (valueT m).1 = sv at *
  generalize (valueT m).2 = vb at *
  have HV := Lib.hid hV
  have HP := Lib.hid hP
  have Hk := Lib.hid hk
  have Hr := Lib.hid hr
  have Ho := Lib.hid ho
  clear hV hP hr ho hm l1 l2 l3 hk
  unfold mvV at *
  go_enter Tryz.func41, Tryz.ntmps41
  go_upto_region 1 with (fail)
  generalize w.alloc (.cells #[.int .i64 m.id, .int .i64 m.arg, .int .u8 (m.kind : Int), .int .i64 m.n] 40) = V at K hb0 ⊢
  obtain ⟨⟨c0, c1, c2, c3⟩, -, hVl⟩ := four_c K
  have HK := Lib.hid K
  clear K
  go_cut [4, 5] (fun u t wx => u = .string (signS m.kind) ∧ t = .bool (isK m.kind) ∧ Below V.heap.size V wx)
  case first =>
    go_region_law (first
      | (go_simp; go_at_call 95; refine (signs_any V.drew).mono ?_; rintro e w2 ⟨rfl, hsg, hb2⟩; have vb2 : Below V.heap.size V w2 := ⟨hb2.os, hb2.tape, hb2.output, hb2.size, hb2.block⟩; obtain ⟨⟨d0, d1, d2, d3⟩, -, dl⟩ := four_c (heap_below hb2 hVl HK.out); have hlk : (Instr.lookup 117 (.map (some V.heap.size)) (.int .u8 (m.kind : Int)) true).run Tryz.prog w2 = .ok (.tuple #[.string (signS m.kind), .bool (isK m.kind)]) w2 := hsg.look m.kind Hk.out))
    all_goals
      go_wp2
      go_meet
      exact ⟨rfl, rfl, vb2⟩
  case rest =>
    obtain ⟨rfl, rfl, hbx⟩ := hcut
    have hbV : Below w.heap.size w wc := hb0.trans (hbx.mono hb0.size)
    obtain ⟨⟨q0, q1, q2, q3⟩, -, dl0⟩ := four_c (heap_below hbx hVl HK.out)
    have HK1 := Lib.hid (heap_below hbx hVl HK.out)
    clear c0 c1 c2 c3 hb0 HK
    have hss := @signS_ok m.kind
    have Hs := Lib.hid hss
    clear hss
    generalize signS m.kind = ss at *
    generalize hkb : isK m.kind = kb at *
    clear hkb
    by_cases h1 : m.id < 0
    · have g1 : decide (m.id < 0) = true := by simpa using h1
      go_wp2_with (go_at_call 96; refine (HV.out _ hbV).mono ?_; rintro e w2 ⟨rfl, hb2⟩; obtain ⟨⟨d0, d1, d2, d3⟩, -, dl⟩ := four_c (heap_below hb2 dl0 HK1.out); have hb3 := hbV.trans (hb2.mono hbV.size))
      refine bodyPost_ret (v := .tuple #[.string ⟨#[]⟩, .int .i64 4]) (by simp [results, Tryz.results41, go_sem]) rfl ⟨by rw [Hr.out, Ho.out]; simp_all, ?_⟩
      exact hb3
    have g1 : decide (m.id < 0) = false := by simpa using h1
    by_cases h2 : m.arg < 0
    · have g2 : decide (m.arg < 0) = true := by simpa using h2
      go_wp2_with (go_at_call 96; refine (HV.out _ hbV).mono ?_; rintro e w2 ⟨rfl, hb2⟩; obtain ⟨⟨d0, d1, d2, d3⟩, -, dl⟩ := four_c (heap_below hb2 dl0 HK1.out); have hb3 := hbV.trans (hb2.mono hbV.size))
      refine bodyPost_ret (v := .tuple #[.string ⟨#[]⟩, .int .i64 4]) (by simp [results, Tryz.results41, go_sem]) rfl ⟨by rw [Hr.out, Ho.out]; simp_all, ?_⟩
      exact hb3
    have g2 : decide (m.arg < 0) = false := by simpa using h2
    cases kb
    · skip
      go_wp2_with (go_at_call 96; refine (HV.out _ hbV).mono ?_; rintro e w2 ⟨rfl, hb2⟩; obtain ⟨⟨d0, d1, d2, d3⟩, -, dl⟩ := four_c (heap_below hb2 dl0 HK1.out); have hb3 := hbV.trans (hb2.mono hbV.size))
      refine bodyPost_ret (v := .tuple #[.string ⟨#[]⟩, .int .i64 4]) (by simp [results, Tryz.results41, go_sem]) rfl ⟨by rw [Hr.out, Ho.out]; simp_all, ?_⟩
      exact hb3
    have hse := Hs.out rfl
    subst hse
    cases vb
    · skip
      go_wp2_with (go_at_call 96; refine (HV.out _ hbV).mono ?_; rintro e w2 ⟨rfl, hb2⟩; obtain ⟨⟨d0, d1, d2, d3⟩, -, dl⟩ := four_c (heap_below hb2 dl0 HK1.out); have hb3 := hbV.trans (hb2.mono hbV.size))
      refine bodyPost_ret (v := .tuple #[.string ⟨#[]⟩, .int .i64 4]) (by simp [results, Tryz.results41, go_sem]) rfl ⟨by rw [Hr.out, Ho.out]; simp_all, ?_⟩
      exact hb3
    go_wp2_with (first | (go_at_call 96; refine (HV.out _ hbV).mono ?_; rintro e w2 ⟨rfl, hb2⟩; obtain ⟨⟨d0, d1, d2, d3⟩, -, dl⟩ := four_c (heap_below hb2 dl0 HK1.out); have hb3 := hbV.trans (hb2.mono hbV.size)) | (go_at_call 97; refine (HP.out _ hb3).mono ?_; rintro e w3 ⟨rfl, hb4⟩))
    refine bodyPost_ret (v := .tuple #[.string s3, .int .i64 0]) (by simp [results, Tryz.results41, go_sem]) rfl ⟨by rw [Hr.out, Ho.out]; simp_all, ?_⟩
    exact hb3.trans (hb4.mono hb3.size)

end Go.Proofs.YtoncdnelacolaaaGreatDoor.Ar
