/- awake, which every law of the arena calls. -/
import Derived.Test.YtoncdnelacolaaaGreatDoorAAwakeA
namespace Go.Proofs.YtoncdnelacolaaaGreatDoor.Ar
open Go Go.Proofs Go.RowKit Lx Ps

set_option maxRecDepth 100000 in
set_option maxHeartbeats 1000000 in
theorem awake_any (w : World) (hG : Ga w) :
    Calls Tryz.prog 17 #[] w fun e w' => e = .returned (.bool true) ∧ Below w.heap.size w w' := by
  have HE := Lib.hid (fun V => example_any V)
  have HM := Lib.hid (fun v V => ex_moves v V)
  have HI := Lib.hid (fun v V => ex_inner v V)
  have HS := Lib.hid (fun u V (hb : Below w.heap.size w V) hin => ex_show u V hin (hG.next hb))
  have HU := Lib.hid (fun v V => ex_under v V)
  have HO := Lib.hid (fun v V => ex_other v V)
  have HP := Lib.hid (fun V (hb : Below w.heap.size w V) => ex_parse V (hG.next hb))
  have hb0 : Below w.heap.size w w := Below.refl _ _
  clear hG
  go_enter Tryz.func17, Tryz.ntmps17
  go_upto_region 2 with (first
    | (go_at_call 49; refine (HE.out _).mono ?_; rintro e w1 ⟨v, rfl, hin, hb1⟩; have hb2 := hb0.trans (hb1.mono hb0.size))
    | (go_at_call 20; refine (HM.out _ _ hin).mono ?_; rintro e w2 ⟨A1, cc1, rfl, hb3⟩; have hb4 := hb2.trans (hb3.mono hb2.size)))
  clear hb2 hb1 hin hb3
  go_upto_region 3 with (first
    | (go_at_call 49; refine (HE.out _).mono ?_; rintro e w3 ⟨v3, rfl, hin, hb1⟩; have hb2 := hb4.trans (hb1.mono hb4.size))
    | (go_at_call 36; refine (HI.out _ _ hin).mono ?_; rintro e w4 ⟨A2, cc2, rfl, hin4, hb3⟩; have hb5 := hb2.trans (hb3.mono hb2.size)))
  have J := heap_alloc_new w4 (.cells #[.slice A2 2 cc2, .bool false, .int .i64 1, .bool true] 26)
  have hbn : Below w4.heap.size w4 (w4.alloc (.cells #[.slice A2 2 cc2, .bool false, .int .i64 1, .bool true] 26)) := (Below.refl _ _).alloc (Nat.le_refl _) _
  have hin5 := hin4.below hbn
  have hb6 := hb5.trans (hbn.mono hb5.size)
  have hlt := (Array.getElem?_eq_some_iff.1 J).1
  clear hb4 hb1 hb2 hb3 hb5 hin hin4 hbn
  generalize w4.alloc (.cells #[.slice A2 2 cc2, .bool false, .int .i64 1, .bool true] 26) = X at J hin5 hb6 hlt ⊢
  obtain ⟨⟨q0, q1, q2, q3⟩, -, -⟩ := four_c J
  have hsx := HS.out _ X hb6 hin5
  unfold arV at hsx
  have HSX := Lib.hid hsx
  clear J hsx hin5 hlt
  go_upto_region 4 with (go_at_call 21; refine HSX.out.mono ?_; rintro e w5 ⟨rfl, hb1⟩; have hb7 := hb6.trans (hb1.mono hb6.size))
  clear hb6 hb1 q0 q1 q2 q3
  go_upto_region 5 with (first
    | (go_at_call 49; refine (HE.out _).mono ?_; rintro e w6 ⟨v6, rfl, hin, hb1⟩; have hb2 := hb7.trans (hb1.mono hb7.size))
    | (go_at_call 30; refine (HU.out _ _ hin).mono ?_; rintro e w7 ⟨A3, cc3, rfl, hb3⟩; have hb8 := hb2.trans (hb3.mono hb2.size)))
  clear hb7 hb1 hb2 hb3 hin
  go_upto_region 6 with (go_at_call 42; refine (HP.out _ hb8).mono ?_; rintro e w8 ⟨rfl, hb1⟩; have hb9 := hb8.trans (hb1.mono hb8.size))
  have J := heap_alloc_new w8 (.cells #[.int .i64 1, .int .i64 2, .int .u8 2, .int .i64 1] 40)
  have hb10 := hb9.alloc hb9.size (.cells #[.int .i64 1, .int .i64 2, .int .u8 2, .int .i64 1] 40)
  have hlt := (Array.getElem?_eq_some_iff.1 J).1
  clear hb8 hb1 hb9
  generalize w8.alloc (.cells #[.int .i64 1, .int .i64 2, .int .u8 2, .int .i64 1] 40) = Y at J hb10 hlt ⊢
  have HJ := Lib.hid J
  clear J
  go_upto_region 7 with (first
    | (go_at_call 49; refine (HE.out _).mono ?_; rintro e w9 ⟨v9, rfl, hin, hb1⟩; have hb2 := hb10.trans (hb1.mono hb10.size); have hk1 := Lib.hid (heap_below hb1 hlt HJ.out))
    | (go_at_call 28; refine (HO.out _ _ hin).mono ?_; rintro e w10 ⟨rfl, hb3⟩; have hb11 := hb2.trans (hb3.mono hb2.size); have hk2 := Lib.hid (heap_below hb3 (Array.getElem?_eq_some_iff.1 hk1.out).1 hk1.out)))
  obtain ⟨⟨t0, t1, t2, t3⟩, -, -⟩ := four_c hk2.out
  clear hb10 hb1 hb2 hb3 hin HJ hk1 hk2 hlt
  go_wp2
  go_ret
  exact ⟨rfl, hb11⟩

end Go.Proofs.YtoncdnelacolaaaGreatDoor.Ar
