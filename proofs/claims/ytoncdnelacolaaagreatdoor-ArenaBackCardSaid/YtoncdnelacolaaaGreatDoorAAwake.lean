/- awake, which every law of the arena calls. -/
import Derived.Test.YtoncdnelacolaaaGreatDoorAExample
import Derived.Test.YtoncdnelacolaaaGreatDoorAWalkI
namespace Go.Proofs.YtoncdnelacolaaaGreatDoor.Ar
open Go Go.Proofs Go.RowKit Lx Ps

/-- What stands for the first identifier of the examples' arena. -/
def xA : Ar := ⟨[⟨[], ⟨false, 3⟩⟩, ⟨[], ⟨true, 2⟩⟩], ⟨false, 1⟩, true⟩

theorem ex_moves (v : Value) (V : World) (hin : ArIn V v exA) :
    Calls Tryz.prog 20 #[arV v exA] V fun e w' => ∃ A c, e = .returned (.tuple #[.slice A 22 c, .int .i64 0]) ∧ Below V.heap.size V w' :=
  (moves_any v exA V hin (by decide)).mono fun _ _ ⟨u, h1, h2, h3⟩ => by
    obtain ⟨A, c, rfl⟩ := own_slice h2
    exact ⟨A, c, h1, h3⟩
theorem ex_inner (v : Value) (V : World) (hin : ArIn V v exA) :
    Calls Tryz.prog 36 #[arV v exA, .int .i64 1] V fun e w' => ∃ A c, e = .returned (.tuple #[.agg #[.slice A 2 c, .bool false, .int .i64 1, .bool true], .int .i64 0]) ∧ ArIn w' (.slice A 2 c) xA ∧ Below V.heap.size V w' :=
  (inner_ok v exA 0 _ V hin (by decide) rfl (by decide) (by decide)).mono fun _ _ ⟨u, h1, h2, h3⟩ => by
    obtain ⟨A, c, rfl⟩ := own_slice h2
    exact ⟨A, c, h1, ⟨SlT.of_own h2, by decide, by decide⟩, h3⟩
theorem ex_show (u : Value) (V : World) (hin : ArIn V u xA) (hG : Ga V) :
    Calls Tryz.prog 21 #[arV u xA] V fun e w' => e = .returned (.tuple #[.string ⟨#[105, 110, 116, 32, 49, 59, 32, 105, 110, 116, 32, 51, 59, 32, 99, 101, 108, 108, 32, 50, 59, 32, 106, 117, 109, 112, 115]⟩, .int .i64 0]) ∧ Below V.heap.size V w' := by
  have ht : arenaT xA = [105, 110, 116, 32, 49, 59, 32, 105, 110, 116, 32, 51, 59, 32, 99, 101, 108, 108, 32, 50, 59, 32, 106, 117, 109, 112, 115] := by
    simp [arenaT, partsT, typeT, baseT, xA, Lib.join, Lib.itoa, Lib.decDigits]
  have hc : checkE xA = 0 := by decide
  refine (show_of u xA V hin fun _ W hb => arenaText_flat u xA W (hin.below hb) (by decide) (by decide) (by decide) (by decide) (by decide) (by rw [ht]; decide) (hG.next hb)).mono fun _ _ ⟨h1, h2⟩ => ⟨h1.trans ?_, h2⟩
  unfold showR
  rw [if_pos hc, ht]
  rfl
theorem ex_under (v : Value) (V : World) (hin : ArIn V v exA) :
    Calls Tryz.prog 30 #[arV v exA, .agg #[.int .i64 1, .int .i64 0, .int .u8 1, .int .i64 0]] V fun e w' => ∃ A c, e = .returned (.tuple #[.slice A 4 c, .int .i64 0]) ∧ Below V.heap.size V w' :=
  (under_any v exA ⟨1, 0, 1, 0⟩ _ V hin (by decide) rfl (by decide)).mono fun _ _ ⟨u, h1, h2, h3⟩ => by
    obtain ⟨A, c, rfl⟩ := own_slice h2
    exact ⟨A, c, h1, h3⟩
theorem ex_other (v : Value) (V : World) (hin : ArIn V v exA) :
    Calls Tryz.prog 28 #[arV v exA, .agg #[.int .i64 1, .int .i64 0, .int .u8 3, .int .i64 0]] V fun e w' => e = .returned (.tuple #[.bool true, .int .i64 0]) ∧ Below V.heap.size V w' :=
  isOther_any v exA ⟨1, 0, 3, 0⟩ V hin
theorem ex_parse (V : World) (hG : Ga V) :
    Calls Tryz.prog 42 #[.string ⟨#[49, 46, 50, 61, 49]⟩] V fun e w' => e = .returned (.tuple #[.agg #[.int .i64 1, .int .i64 2, .int .u8 2, .int .i64 1], .int .i64 0]) ∧ Below V.heap.size V w' :=
  (parse_any [49, 46, 50, 61, 49] V (by decide) hG).mono fun _ _ ⟨v, h1, h2, h3⟩ => by
    obtain ⟨e1, e2, e3⟩ := parse_ex
    refine ⟨h1.trans ?_, h3⟩
    rcases h2 with ⟨k, hk, ht, rfl⟩ | ⟨hk, _⟩
    · rcases hk with rfl | rfl | rfl
      · rw [e1] at ht; cases ht
      · rw [e2] at ht
        injection ht with ht
        rw [← ht]
        rfl
      · rw [e3] at ht; cases ht
    · rw [hk 2 (by simp)] at e2; cases e2

end Go.Proofs.YtoncdnelacolaaaGreatDoor.Ar

namespace Go.Proofs.YtoncdnelacolaaaGreatDoor.Ar
open Go Go.Proofs Go.RowKit Lx Ps

set_option maxRecDepth 100000 in
set_option maxHeartbeats 1000000 in
theorem awake_any (w : World) (hG : Ga w) :
    Calls Tryz.prog 17 #[] w fun e w' => e = .returned (.bool true) ∧ Below w.heap.size w w' := by
  have HE := Lib.hid (fun V => example_any V)
  have HM := Lib.hid (fun v V => ex_moves v V)
  have HI := Lib.hid (fun v V => ex_inner v V)
  have HS := Lib.hid (fun u V (hb : Below w.heap.size w V) hin => ex_show u V hin (hG.next hb))
  have HU := Lib.hid (fun v V => ex_under v V)
  have HO := Lib.hid (fun v V => ex_other v V)
  have HP := Lib.hid (fun V (hb : Below w.heap.size w V) => ex_parse V (hG.next hb))
  have hb0 : Below w.heap.size w w := Below.refl _ _
  clear hG
  go_enter Tryz.func17, Tryz.ntmps17
  go_upto_region 2 with (first
    | (go_at_call 49; refine (HE.out _).mono ?_; rintro e w1 ⟨v, rfl, hin, hb1⟩; have hb2 := hb0.trans (hb1.mono hb0.size))
    | (go_at_call 20; refine (HM.out _ _ hin).mono ?_; rintro e w2 ⟨A1, cc1, rfl, hb3⟩; have hb4 := hb2.trans (hb3.mono hb2.size)))
  clear hb2 hb1 hin hb3
  go_upto_region 3 with (first
    | (go_at_call 49; refine (HE.out _).mono ?_; rintro e w3 ⟨v3, rfl, hin, hb1⟩; have hb2 := hb4.trans (hb1.mono hb4.size))
    | (go_at_call 36; refine (HI.out _ _ hin).mono ?_; rintro e w4 ⟨A2, cc2, rfl, hin4, hb3⟩; have hb5 := hb2.trans (hb3.mono hb2.size)))
  have J := heap_alloc_new w4 (.cells #[.slice A2 2 cc2, .bool false, .int .i64 1, .bool true] 26)
  have hbn : Below w4.heap.size w4 (w4.alloc (.cells #[.slice A2 2 cc2, .bool false, .int .i64 1, .bool true] 26)) := (Below.refl _ _).alloc (Nat.le_refl _) _
  have hin5 := hin4.below hbn
  have hb6 := hb5.trans (hbn.mono hb5.size)
  have hlt := (Array.getElem?_eq_some_iff.1 J).1
  clear hb4 hb1 hb2 hb3 hb5 hin hin4 hbn
  generalize w4.alloc (.cells #[.slice A2 2 cc2, .bool false, .int .i64 1, .bool true] 26) = X at J hin5 hb6 hlt ⊢
  obtain ⟨⟨q0, q1, q2, q3⟩, -, -⟩ := four_c J
  have hsx := HS.out _ X hb6 hin5
  unfold arV at hsx
  have HSX := Lib.hid hsx
  clear J hsx hin5 hlt
  go_upto_region 4 with (go_at_call 21; refine HSX.out.mono ?_; rintro e w5 ⟨rfl, hb1⟩; have hb7 := hb6.trans (hb1.mono hb6.size))
  clear hb6 hb1 q0 q1 q2 q3
  go_upto_region 5 with (first
    | (go_at_call 49; refine (HE.out _).mono ?_; rintro e w6 ⟨v6, rfl, hin, hb1⟩; have hb2 := hb7.trans (hb1.mono hb7.size))
    | (go_at_call 30; refine (HU.out _ _ hin).mono ?_; rintro e w7 ⟨A3, cc3, rfl, hb3⟩; have hb8 := hb2.trans (hb3.mono hb2.size)))
  clear hb7 hb1 hb2 hb3 hin
  go_upto_region 6 with (go_at_call 42; refine (HP.out _ hb8).mono ?_; rintro e w8 ⟨rfl, hb1⟩; have hb9 := hb8.trans (hb1.mono hb8.size))
  have J := heap_alloc_new w8 (.cells #[.int .i64 1, .int .i64 2, .int .u8 2, .int .i64 1] 40)
  have hb10 := hb9.alloc hb9.size (.cells #[.int .i64 1, .int .i64 2, .int .u8 2, .int .i64 1] 40)
  have hlt := (Array.getElem?_eq_some_iff.1 J).1
  clear hb8 hb1 hb9
  generalize w8.alloc (.cells #[.int .i64 1, .int .i64 2, .int .u8 2, .int .i64 1] 40) = Y at J hb10 hlt ⊢
  have HJ := Lib.hid J
  clear J
  go_upto_region 7 with (first
    | (go_at_call 49; refine (HE.out _).mono ?_; rintro e w9 ⟨v9, rfl, hin, hb1⟩; have hb2 := hb10.trans (hb1.mono hb10.size); have hk1 := Lib.hid (heap_below hb1 hlt HJ.out))
    | (go_at_call 28; refine (HO.out _ _ hin).mono ?_; rintro e w10 ⟨rfl, hb3⟩; have hb11 := hb2.trans (hb3.mono hb2.size); have hk2 := Lib.hid (heap_below hb3 (Array.getElem?_eq_some_iff.1 hk1.out).1 hk1.out)))
  obtain ⟨⟨t0, t1, t2, t3⟩, -, -⟩ := four_c hk2.out
  clear hb10 hb1 hb2 hb3 hin HJ hk1 hk2 hlt
  go_wp2
  go_ret
  exact ⟨rfl, hb11⟩

end Go.Proofs.YtoncdnelacolaaaGreatDoor.Ar
