/- The reference: Parse, where a param is named. -/
import Derived.Test.YtoncdnelacolaaaGreatDoorASpecK
import Derived.Test.YtoncdnelacolaaaGreatDoorATextD
import Derived.Test.YtoncdnelacolaaaGreatDoorAChain
import Derived.Laws.Strings3
namespace Go.Proofs.YtoncdnelacolaaaGreatDoor.Ar
open Go Go.Proofs Go.RowKit Go.Sort Lx Ps

theorem index_at {s : List UInt8} {k : Nat} {c : UInt8} (h : s[k]? = some c) (W : World) : (Instr.index 9 (.string (strB s)) (.int .i64 (k : Int))).run Tryz.prog W = .ok (.int .u8 (c.toNat : Int)) W := by
  obtain ⟨hk, hc⟩ := List.getElem?_eq_some_iff.1 h
  rw [run_index_string W 9 (strB s) .i64 (k : Int) Tryz.underlying9, dif_pos ⟨by omega, by rw [strB_size]; omega⟩]
  have : ((strB s)[(k : Int).toNat]'(by rw [strB_size]; omega)) = c := by
    rw [← hc]; rfl
  rw [this]
theorem digL_get {s : List UInt8} {k : Nat} (h : k < (digL s).length) : ∃ c, s[k]? = some c ∧ (digL s)[k]? = some c ∧ isDig c = true ∧ k < 19 ∧ k < s.length := by
  have hc := List.getElem?_eq_getElem h
  generalize (digL s)[k] = c at hc
  have hd := hc
  unfold digL at hd h
  rw [List.length_take] at h
  rw [List.getElem?_take, if_pos (by omega)] at hd
  have hp : s.takeWhile isDig <+: s := List.takeWhile_prefix _
  have hs : s[k]? = some c := by
    obtain ⟨t, ht⟩ := hp
    rw [← ht, List.getElem?_append_left (by omega)]; exact hd
  exact ⟨c, hs, hc, List.all_eq_true.1 List.all_takeWhile c (List.mem_of_getElem? hd), by omega, (List.getElem?_eq_some_iff.1 hs).1⟩
theorem tw_stop (p : UInt8 → Bool) : ∀ (s : List UInt8), (s.takeWhile p).length = s.length ∨ ∃ c, s[(s.takeWhile p).length]? = some c ∧ p c = false
  | [] => .inl rfl
  | x :: r => by
    by_cases h : p x = true
    · rw [List.takeWhile_cons, if_pos h]
      rcases tw_stop p r with h1 | ⟨c, h1, h2⟩
      · exact .inl (by simp [h1])
      · exact .inr ⟨c, by simpa using h1, h2⟩
    · rw [List.takeWhile_cons, if_neg h]
      exact .inr ⟨x, rfl, by simpa using h⟩
theorem digL_end (s : List UInt8) : (digL s).length = s.length ∨ 19 ≤ (digL s).length ∨ ((digL s).length < 19 ∧ (digL s).length < s.length ∧ ∃ c, s[(digL s).length]? = some c ∧ isDig c = false) := by
  unfold digL
  rw [List.length_take]
  by_cases h : 19 ≤ (s.takeWhile isDig).length
  · exact .inr (.inl (by omega))
  · rw [Nat.min_eq_right (by omega)]
    rcases tw_stop isDig s with h1 | ⟨c, h1, h2⟩
    · exact .inl h1
    · exact .inr (.inr ⟨by omega, (List.getElem?_eq_some_iff.1 h1).1, c, h1, h2⟩)
theorem digL_le (s : List UInt8) : (digL s).length ≤ s.length := by
  unfold digL
  rw [List.length_take]
  have := (List.takeWhile_prefix (p := isDig) (l := s)).length_le
  omega
theorem valD_succ {l : List UInt8} {k : Nat} {c : UInt8} (h : l[k]? = some c) : valD (l.take (k + 1)) = stepD (valD (l.take k)) c := by
  unfold valD
  rw [List.take_add_one, h, List.foldl_append]; rfl

set_option maxRecDepth 100000 in
set_option maxHeartbeats 1000000 in
theorem digits_any (s : List UInt8) (w : World) :
    Calls Tryz.prog 100 #[.string (strB s)] w fun e w' => e = .returned (.tuple #[.int .i64 (valD (digL s)), .int .i64 ((digL s).length : Int)]) ∧ Below w.heap.size w w' := by
  have hsz := strB_size s
  have hI := fun (k : Nat) (c : UInt8) (h : s[k]? = some c) => index_at h
  have hle := digL_le s
  have HG := Lib.hid (fun (k : Nat) (h : k < (digL s).length) => digL_get h)
  have HE := Lib.hid (digL_end s)
  have HI := Lib.hid hI
  clear hI
  generalize digL s = D at *
  generalize strB s = S at *
  have hS : (S.size : Int) = (s.length : Int) := by rw [hsz]
  clear hsz
  go_enter Tryz.func100, Tryz.ntmps100
  go_wp2
  go_loopw [4, 5] (fun u c wr => ∃ k : Nat, u = .int .i64 (valD (D.take k)) ∧ c = .int .i64 (k : Int) ∧ k ≤ D.length ∧ Below w.heap.size w wr) (fun _ c _ => D.length + 1 - (intOf c).toNat)
  case atStart => exact ⟨0, rfl, rfl, Nat.zero_le _, Below.refl _ _⟩
  case round =>
    obtain ⟨k, rfl, rfl, hk, hb⟩ := hrel
    by_cases hlt : k < D.length
    · obtain ⟨c, h1, h2, h3, h4, h5⟩ := HG.out k hlt
      have hix := HI.out k c h1
      have HV := Lib.hid (valD_succ h2)
      unfold isDig at h3
      simp only [Bool.and_eq_true, decide_eq_true_eq] at h3
      obtain ⟨d1, d2⟩ := h3
      unfold stepD at HV
      have k1 : (k : Int) < (s.length : Int) := by omega
      have k2 : (k : Int) < 19 := by omega
      have g1 : (48 : Int) ≤ (c.toNat : Int) := by omega
      have g2 : (c.toNat : Int) ≤ 57 := by omega
      have g3 : IntKind.u8.wrap ((c.toNat : Int) - 48) = (c.toNat : Int) - 48 := by rw [IntKind.wrap_u8]; omega
      have g4 : IntKind.i64.wrap ((c.toNat : Int) - 48) = (c.toNat : Int) - 48 := IntWalk.i64_in _ (by omega)
      clear h1 h2 d1 d2
      generalize valD (D.take k) = x at *
      generalize (c.toNat : Int) = y at *
      go_wp2
      go_roundw
      case rel => exact ⟨k + 1, by rw [HV.out]; simp only [wrap64, IntKind.wrap_i64], by go_num, by omega, hb⟩
      case measure => simp [intOf]; omega
    · obtain rfl : k = D.length := by omega
      rcases HE.out with h | h | ⟨h, h', c, h1, h2⟩
      · have k1 : ¬ (D.length : Int) < (s.length : Int) := by omega
        clear h
        go_wp2
        go_ret2
        exact ⟨rfl, hb⟩
      · have k2 : ¬ (D.length : Int) < 19 := by omega
        by_cases hh : (D.length : Int) < (s.length : Int)
        · go_wp2
          go_ret2
          exact ⟨rfl, hb⟩
        · go_wp2
          go_ret2
          exact ⟨rfl, hb⟩
      · have k1 : (D.length : Int) < (s.length : Int) := by omega
        have k2 : (D.length : Int) < 19 := by omega
        have hix := HI.out D.length c h1
        unfold isDig at h2
        clear h1 h h'
        by_cases g1 : (48 : Int) ≤ (c.toNat : Int)
        · have g2 : ¬ (c.toNat : Int) ≤ 57 := by
            intro g
            have e1 : 48 ≤ c.toNat := by omega
            have e2 : c.toNat ≤ 57 := by omega
            simp [e1, e2] at h2
          clear h2
          generalize (c.toNat : Int) = y at *
          go_wp2
          go_ret2
          exact ⟨rfl, hb⟩
        · clear h2
          generalize (c.toNat : Int) = y at *
          go_wp2
          go_ret2
          exact ⟨rfl, hb⟩

set_option maxRecDepth 100000 in
set_option maxHeartbeats 1000000 in
theorem words_any (m : Mv) (w : World) (hm : MvOk m) (ho : okText m = true) :
    Calls Tryz.prog 99 #[mvV m] w fun e w' => e = .returned (.string (strB (textL m))) ∧ Below w.heap.size w w' := by
  obtain ⟨p1, p2, p3, p4⟩ := okText_parts ho
  have hvc := value_cases p3 p4
  have hD := fun (n : Int) V (h0 : -9223372036854775808 ≤ n) (h1 : n ≤ 9223372036854775807) => decimal_any n V h0 h1
  have HDi := Lib.hid (fun V => hD m.id V hm.id0 hm.id1)
  have HDa := Lib.hid (fun V => hD m.arg V hm.arg0 hm.arg1)
  have HDn := Lib.hid (fun V => hD m.n V hm.n0 hm.n1)
  have l1 := Lib.itoa_length_le m.id hm.id0 hm.id1
  have l2 := Lib.itoa_length_le m.arg hm.arg0 hm.arg1
  have l3 := Lib.itoa_length_le m.n hm.n0 hm.n1
  have k0 := heap_alloc_new w (.cells #[.int .i64 m.id, .int .i64 m.arg, .int .u8 (m.kind : Int), .int .i64 m.n] 40)
  have hb0 : Below w.heap.size w (w.alloc (.cells #[.int .i64 m.id, .int .i64 m.arg, .int .u8 (m.kind : Int), .int .i64 m.n] 40)) := (Below.refl _ _).alloc (Nat.le_refl _) _
  have HT := Lib.hid (show textL m = placeT m ++ signB m.kind :: (valueT m).1 from textL_form m)
  have HP := Lib.hid (show placeT m = if m.arg = 0 then Lib.itoa m.id else Lib.itoa m.id ++ 46 :: Lib.itoa m.arg by
    unfold placeT; split
    · rfl
    · rw [List.append_assoc]; rfl)
  have hpl : (placeT m).length ≤ 43 := placeT_len m hm
  have a1 := fun W => add_any [46] (Lib.itoa m.arg) (by simp) (by omega) W
  have a2 := fun W => add_any (Lib.itoa m.id) (46 :: Lib.itoa m.arg) (by omega) (by simp; omega) W
  have a1' : ∀ W, (Op.stringOp .add ⟨#[46]⟩ (strB (Lib.itoa m.arg))).run Tryz.prog W = .ok (.string (strB (46 :: Lib.itoa m.arg))) W := a1
  have a3 : ∀ W, (Op.stringOp .add (strB (placeT m)) ⟨#[63]⟩).run Tryz.prog W = .ok (.string (strB (placeT m ++ [63]))) W := add_any (placeT m) [63] (by omega) (by simp)
  have a4 : ∀ W, (Op.stringOp .add (strB (placeT m)) ⟨#[61]⟩).run Tryz.prog W = .ok (.string (strB (placeT m ++ [61]))) W := add_any (placeT m) [61] (by omega) (by simp)
  have a5 : ∀ W, (Op.stringOp .add (strB (placeT m)) ⟨#[33, 42]⟩).run Tryz.prog W = .ok (.string (strB (placeT m ++ [33, 42]))) W := add_any (placeT m) [33, 42] (by omega) (by simp)
  have a6 : ∀ W, (Op.stringOp .add (strB (placeT m)) ⟨#[33]⟩).run Tryz.prog W = .ok (.string (strB (placeT m ++ [33]))) W := add_any (placeT m) [33] (by omega) (by simp)
  have a7 := add_any (placeT m ++ [61]) (Lib.itoa m.n) (by simp; omega) (by omega)
  have a8 := add_any (placeT m ++ [33]) (Lib.itoa m.n) (by simp; omega) (by omega)
  clear a1 hD ho hm p4 l1 l2 l3
  unfold mvV
  have hvc' : (m.kind = 1 ∧ strB (textL m) = strB (placeT m ++ [63])) ∨ (m.kind = 3 ∧ m.n = -1 ∧ strB (textL m) = strB (placeT m ++ [33, 42])) ∨ (m.kind = 2 ∧ strB (textL m) = strB (placeT m ++ [61] ++ Lib.itoa m.n)) ∨ (m.kind = 3 ∧ ¬ m.n = -1 ∧ strB (textL m) = strB (placeT m ++ [33] ++ Lib.itoa m.n)) := by
    rw [HT.out]
    rcases hvc with ⟨e0, e1, e2⟩ | ⟨e0, e1, e2⟩ | ⟨e0, e1, e2⟩
    · exact .inl ⟨e0, by rw [e2, e0]; rfl⟩
    · exact .inr (.inl ⟨e0, e1, by rw [e2, e0]; rfl⟩)
    · rcases p3 with h | h | h
      · exact absurd h e0
      · exact .inr (.inr (.inl ⟨h, by rw [e2, h, ← itoa_dec e1, List.append_assoc]; rfl⟩))
      · exact .inr (.inr (.inr ⟨h, by omega, by rw [e2, h, ← itoa_dec e1, List.append_assoc]; rfl⟩))
  clear hvc p3 hpl
  have HV := Lib.hid hvc'
  clear hvc'
  by_cases hz : m.arg = 0
  · have hP := HP.out
    rw [if_pos hz] at hP
    rw [hP] at a3 a4 a5 a6 a7 a8 HV
    have g1 : ¬ 0 < m.arg := by omega
    clear hz a1' a2 HDa hP HP HT
    generalize strB (Lib.itoa m.n) = sn at *
    generalize strB (Lib.itoa m.id ++ [61] ++ Lib.itoa m.n) = r1 at *
    generalize strB (Lib.itoa m.id ++ [33] ++ Lib.itoa m.n) = r2 at *
    generalize strB (Lib.itoa m.id ++ [63]) = r3 at *
    generalize strB (Lib.itoa m.id ++ [61]) = r4 at *
    generalize strB (Lib.itoa m.id ++ [33, 42]) = r5 at *
    generalize strB (Lib.itoa m.id ++ [33]) = r6 at *
    generalize strB (Lib.itoa m.id) = si at *
    generalize strB (textL m) = st at *
    obtain ⟨mi, ma, mk, mn⟩ := m
    dsimp only at *
    rcases HV.out with ⟨rfl, rfl⟩ | ⟨rfl, rfl, rfl⟩ | ⟨rfl, rfl⟩ | ⟨rfl, hn, rfl⟩
    all_goals
      clear HV
      go_enter Tryz.func99, Tryz.ntmps99
      go_upto_region 1 with (fail)
      generalize w.alloc _ = V at k0 hb0 ⊢
      obtain ⟨⟨c0, c1, c2, c3⟩, -, hl0⟩ := four_c k0
      have HK := Lib.hid k0
      clear k0
      go_upto_region 2 with (go_at_call 115; refine (HDi.out _).mono ?_; rintro e w1 ⟨rfl, hb1⟩)
      have hb2 := hb0.trans (hb1.mono hb0.size)
      obtain ⟨⟨d0, d1, d2, d3⟩, -, -⟩ := four_c (heap_below hb1 hl0 HK.out)
      clear c0 c1 c2 c3
      first
        | (go_wp2_with (go_at_call 115; refine (HDn.out _).mono ?_; rintro e w3 ⟨rfl, hb3⟩)
           go_ret
           exact ⟨rfl, hb2.trans (hb3.mono hb2.size)⟩)
        | (go_wp2
           go_ret
           exact ⟨rfl, hb2⟩)
  · have hP := HP.out
    rw [if_neg hz] at hP
    rw [hP] at a3 a4 a5 a6 a7 a8 HV
    have g1 : 0 < m.arg := by omega
    clear hz hP HP HT
    generalize strB (Lib.itoa m.n) = sn at *
    generalize strB (Lib.itoa m.id ++ 46 :: Lib.itoa m.arg ++ [61] ++ Lib.itoa m.n) = r1 at *
    generalize strB (Lib.itoa m.id ++ 46 :: Lib.itoa m.arg ++ [33] ++ Lib.itoa m.n) = r2 at *
    generalize strB (Lib.itoa m.id ++ 46 :: Lib.itoa m.arg ++ [63]) = r3 at *
    generalize strB (Lib.itoa m.id ++ 46 :: Lib.itoa m.arg ++ [61]) = r4 at *
    generalize strB (Lib.itoa m.id ++ 46 :: Lib.itoa m.arg ++ [33, 42]) = r5 at *
    generalize strB (Lib.itoa m.id ++ 46 :: Lib.itoa m.arg ++ [33]) = r6 at *
    generalize strB (Lib.itoa m.id ++ 46 :: Lib.itoa m.arg) = r7 at *
    generalize strB (46 :: Lib.itoa m.arg) = r8 at *
    generalize strB (Lib.itoa m.arg) = sa at *
    generalize strB (Lib.itoa m.id) = si at *
    generalize strB (textL m) = st at *
    obtain ⟨mi, ma, mk, mn⟩ := m
    dsimp only at *
    rcases HV.out with ⟨rfl, rfl⟩ | ⟨rfl, rfl, rfl⟩ | ⟨rfl, rfl⟩ | ⟨rfl, hn, rfl⟩
    all_goals
      clear HV
      go_enter Tryz.func99, Tryz.ntmps99
      go_upto_region 1 with (fail)
      generalize w.alloc _ = V at k0 hb0 ⊢
      obtain ⟨⟨c0, c1, c2, c3⟩, -, hl0⟩ := four_c k0
      have HK := Lib.hid k0
      clear k0
      go_upto_region 2 with (go_at_call 115; refine (HDi.out _).mono ?_; rintro e w1 ⟨rfl, hb1⟩)
      have hb2 := hb0.trans (hb1.mono hb0.size)
      obtain ⟨⟨d0, d1, d2, d3⟩, -, -⟩ := four_c (heap_below hb1 hl0 HK.out)
      clear c0 c1 c2 c3
      go_upto_region 4 with (go_at_call 115; refine (HDa.out _).mono ?_; rintro e w2 ⟨rfl, hb4⟩)
      have hb5 := hb2.trans (hb4.mono hb2.size)
      obtain ⟨⟨c0, c1, c2, c3⟩, -, -⟩ := four_c (heap_below (hb1.trans (hb4.mono hb1.size)) hl0 HK.out)
      clear d0 d1 d2 d3
      first
        | (go_wp2_with (go_at_call 115; refine (HDn.out _).mono ?_; rintro e w3 ⟨rfl, hb3⟩)
           go_ret
           exact ⟨rfl, hb5.trans (hb3.mono hb5.size)⟩)
        | (go_wp2
           go_ret
           exact ⟨rfl, hb5⟩)

end Go.Proofs.YtoncdnelacolaaaGreatDoor.Ar

namespace Go.Proofs.YtoncdnelacolaaaGreatDoor.Ar
open Go Go.Proofs Go.RowKit Go.Sort Lx Ps

set_option maxRecDepth 100000 in
set_option maxHeartbeats 4000000 in
theorem refText_any (m : Mv) (w : World) (hm : MvOk m) :
    Calls Tryz.prog 43 #[mvV m] w fun e w' => e = .returned (textR m) ∧ Below w.heap.size w w' := by
  have HW := Lib.hid (fun V (h : okText m = true) => words_any m V hm h)
  have k0 := heap_alloc_new w (.cells #[.int .i64 m.id, .int .i64 m.arg, .int .u8 (m.kind : Int), .int .i64 m.n] 40)
  have hb0 : Below w.heap.size w (w.alloc (.cells #[.int .i64 m.id, .int .i64 m.arg, .int .u8 (m.kind : Int), .int .i64 m.n] 40)) := (Below.refl _ _).alloc (Nat.le_refl _) _
  have hkk : m.kind = 1 ∨ m.kind = 2 ∨ m.kind = 3 ∨ (m.kind ≠ 1 ∧ m.kind ≠ 2 ∧ m.kind ≠ 3) := by omega
  clear hm
  obtain ⟨mi, ma, mk, mn⟩ := m
  unfold mvV at *
  dsimp only at *
  by_cases h1 : 0 ≤ mi
  · by_cases h2 : 0 ≤ ma
    · rcases hkk with hk | hk | hk | ⟨hk1, hk2, hk3⟩
      · by_cases hn : mn = 0
        · subst hn
          have hok : okText ⟨mi, ma, mk, 0⟩ = true := by
            subst hk
            simp [okText, valueT]
            omega
          have HR := Lib.hid (show textR ⟨mi, ma, mk, 0⟩ = .tuple #[.string (strB (textL ⟨mi, ma, mk, 0⟩)), .int .i64 0] by unfold textR; rw [if_pos hok])
          have HWW := Lib.hid (fun V => HW.out V hok)
          clear hok HW
          generalize strB (textL ⟨mi, ma, mk, 0⟩) = st at *
          subst hk
          go_enter Tryz.func43, Tryz.ntmps43
          go_upto_region 1 with (fail)
          generalize w.alloc _ = V at k0 hb0 ⊢
          obtain ⟨⟨c0, c1, c2, c3⟩, -, hl0⟩ := four_c k0
          clear k0
          go_wp2_with (go_at_call 99; refine (HWW.out _).mono ?_; rintro e w1 ⟨rfl, hb1⟩)
          go_ret2
          exact ⟨by rw [HR.out]; rfl, hb0.trans (hb1.mono hb0.size)⟩
        · have hok : ¬ okText ⟨mi, ma, mk, mn⟩ = true := by
            subst hk
            simp [okText, valueT]
            omega
          have HR := Lib.hid (show textR ⟨mi, ma, mk, mn⟩ = .tuple #[.string ⟨#[]⟩, .int .i64 4] by unfold textR; rw [if_neg hok])
          clear hok HW
          have n9 : (mn == 0) = false := by rw [beq_eq_false_iff_ne]; exact hn
          subst hk
          go_enter Tryz.func43, Tryz.ntmps43
          go_upto_region 1 with (fail)
          generalize w.alloc _ = V at k0 hb0 ⊢
          obtain ⟨⟨c0, c1, c2, c3⟩, -, hl0⟩ := four_c k0
          clear k0
          go_wp2
          go_ret2
          exact ⟨by rw [HR.out]; rfl, hb0⟩
      · by_cases hn : 0 ≤ mn
        · have hok : okText ⟨mi, ma, mk, mn⟩ = true := by
            subst hk
            simp [okText, valueT]
            omega
          have HR := Lib.hid (show textR ⟨mi, ma, mk, mn⟩ = .tuple #[.string (strB (textL ⟨mi, ma, mk, mn⟩)), .int .i64 0] by unfold textR; rw [if_pos hok])
          have HWW := Lib.hid (fun V => HW.out V hok)
          clear hok HW
          generalize strB (textL ⟨mi, ma, mk, mn⟩) = st at *
          subst hk
          go_enter Tryz.func43, Tryz.ntmps43
          go_upto_region 1 with (fail)
          generalize w.alloc _ = V at k0 hb0 ⊢
          obtain ⟨⟨c0, c1, c2, c3⟩, -, hl0⟩ := four_c k0
          clear k0
          go_wp2_with (go_at_call 99; refine (HWW.out _).mono ?_; rintro e w1 ⟨rfl, hb1⟩)
          go_ret2
          exact ⟨by rw [HR.out]; rfl, hb0.trans (hb1.mono hb0.size)⟩
        · have hok : ¬ okText ⟨mi, ma, mk, mn⟩ = true := by
            subst hk
            simp [okText, valueT]
            omega
          have HR := Lib.hid (show textR ⟨mi, ma, mk, mn⟩ = .tuple #[.string ⟨#[]⟩, .int .i64 4] by unfold textR; rw [if_neg hok])
          clear hok HW
          have n9 : decide (0 ≤ mn) = false := by rw [decide_eq_false_iff_not]; exact hn
          subst hk
          go_enter Tryz.func43, Tryz.ntmps43
          go_upto_region 1 with (fail)
          generalize w.alloc _ = V at k0 hb0 ⊢
          obtain ⟨⟨c0, c1, c2, c3⟩, -, hl0⟩ := four_c k0
          clear k0
          go_wp2
          go_ret2
          exact ⟨by rw [HR.out]; rfl, hb0⟩
      · by_cases hn : -1 ≤ mn
        · have hok : okText ⟨mi, ma, mk, mn⟩ = true := by
            subst hk
            by_cases h5 : mn = -1
            · subst h5; simp [okText, valueT]; omega
            · simp [okText, valueT, h5]; omega
          have HR := Lib.hid (show textR ⟨mi, ma, mk, mn⟩ = .tuple #[.string (strB (textL ⟨mi, ma, mk, mn⟩)), .int .i64 0] by unfold textR; rw [if_pos hok])
          have HWW := Lib.hid (fun V => HW.out V hok)
          clear hok HW
          generalize strB (textL ⟨mi, ma, mk, mn⟩) = st at *
          subst hk
          go_enter Tryz.func43, Tryz.ntmps43
          go_upto_region 1 with (fail)
          generalize w.alloc _ = V at k0 hb0 ⊢
          obtain ⟨⟨c0, c1, c2, c3⟩, -, hl0⟩ := four_c k0
          clear k0
          go_wp2_with (go_at_call 99; refine (HWW.out _).mono ?_; rintro e w1 ⟨rfl, hb1⟩)
          go_ret2
          exact ⟨by rw [HR.out]; rfl, hb0.trans (hb1.mono hb0.size)⟩
        · have hok : ¬ okText ⟨mi, ma, mk, mn⟩ = true := by
            subst hk
            have h5 : mn ≠ -1 := by omega
            simp [okText, valueT, h5]; omega
          have HR := Lib.hid (show textR ⟨mi, ma, mk, mn⟩ = .tuple #[.string ⟨#[]⟩, .int .i64 4] by unfold textR; rw [if_neg hok])
          clear hok HW
          have n9 : decide (-1 ≤ mn) = false := by rw [decide_eq_false_iff_not]; exact hn
          subst hk
          go_enter Tryz.func43, Tryz.ntmps43
          go_upto_region 1 with (fail)
          generalize w.alloc _ = V at k0 hb0 ⊢
          obtain ⟨⟨c0, c1, c2, c3⟩, -, hl0⟩ := four_c k0
          clear k0
          go_wp2
          go_ret2
          exact ⟨by rw [HR.out]; rfl, hb0⟩
      · have e1 : ((mk : Int) == 1) = false := by rw [beq_eq_false_iff_ne]; omega
        have e2 : ((mk : Int) == 2) = false := by rw [beq_eq_false_iff_ne]; omega
        have e3 : ((mk : Int) == 3) = false := by rw [beq_eq_false_iff_ne]; omega
        have hok : ¬ okText ⟨mi, ma, mk, mn⟩ = true := by
          intro h
          have := (okText_parts h).2.2.1
          dsimp only at this
          omega
        have HR := Lib.hid (show textR ⟨mi, ma, mk, mn⟩ = .tuple #[.string ⟨#[]⟩, .int .i64 4] by unfold textR; rw [if_neg hok])
        clear hok HW
        go_enter Tryz.func43, Tryz.ntmps43
        go_upto_region 1 with (fail)
        generalize w.alloc _ = V at k0 hb0 ⊢
        obtain ⟨⟨c0, c1, c2, c3⟩, -, hl0⟩ := four_c k0
        clear k0
        go_wp2
        go_ret2
        exact ⟨by rw [HR.out]; rfl, hb0⟩
    · have n8 : decide (0 ≤ ma) = false := by rw [decide_eq_false_iff_not]; exact h2
      rcases hkk with hk | hk | hk | ⟨hk1, hk2, hk3⟩
      · have hok : ¬ okText ⟨mi, ma, mk, mn⟩ = true := by
          subst hk
          simp [okText, valueT]
          omega
        have HR := Lib.hid (show textR ⟨mi, ma, mk, mn⟩ = .tuple #[.string ⟨#[]⟩, .int .i64 4] by unfold textR; rw [if_neg hok])
        clear hok HW
        subst hk
        go_enter Tryz.func43, Tryz.ntmps43
        go_upto_region 1 with (fail)
        generalize w.alloc _ = V at k0 hb0 ⊢
        obtain ⟨⟨c0, c1, c2, c3⟩, -, hl0⟩ := four_c k0
        clear k0
        go_wp2
        go_ret2
        exact ⟨by rw [HR.out]; rfl, hb0⟩
      · have hok : ¬ okText ⟨mi, ma, mk, mn⟩ = true := by
          subst hk
          simp [okText, valueT]
          omega
        have HR := Lib.hid (show textR ⟨mi, ma, mk, mn⟩ = .tuple #[.string ⟨#[]⟩, .int .i64 4] by unfold textR; rw [if_neg hok])
        clear hok HW
        subst hk
        go_enter Tryz.func43, Tryz.ntmps43
        go_upto_region 1 with (fail)
        generalize w.alloc _ = V at k0 hb0 ⊢
        obtain ⟨⟨c0, c1, c2, c3⟩, -, hl0⟩ := four_c k0
        clear k0
        go_wp2
        go_ret2
        exact ⟨by rw [HR.out]; rfl, hb0⟩
      · have hok : ¬ okText ⟨mi, ma, mk, mn⟩ = true := by
          subst hk
          simp [okText, valueT]
          omega
        have HR := Lib.hid (show textR ⟨mi, ma, mk, mn⟩ = .tuple #[.string ⟨#[]⟩, .int .i64 4] by unfold textR; rw [if_neg hok])
        clear hok HW
        subst hk
        go_enter Tryz.func43, Tryz.ntmps43
        go_upto_region 1 with (fail)
        generalize w.alloc _ = V at k0 hb0 ⊢
        obtain ⟨⟨c0, c1, c2, c3⟩, -, hl0⟩ := four_c k0
        clear k0
        go_wp2
        go_ret2
        exact ⟨by rw [HR.out]; rfl, hb0⟩
      · have e1 : ((mk : Int) == 1) = false := by rw [beq_eq_false_iff_ne]; omega
        have e2 : ((mk : Int) == 2) = false := by rw [beq_eq_false_iff_ne]; omega
        have e3 : ((mk : Int) == 3) = false := by rw [beq_eq_false_iff_ne]; omega
        have hok : ¬ okText ⟨mi, ma, mk, mn⟩ = true := by
          intro h
          have := (okText_parts h).2.2.1
          dsimp only at this
          omega
        have HR := Lib.hid (show textR ⟨mi, ma, mk, mn⟩ = .tuple #[.string ⟨#[]⟩, .int .i64 4] by unfold textR; rw [if_neg hok])
        clear hok HW
        go_enter Tryz.func43, Tryz.ntmps43
        go_upto_region 1 with (fail)
        generalize w.alloc _ = V at k0 hb0 ⊢
        obtain ⟨⟨c0, c1, c2, c3⟩, -, hl0⟩ := four_c k0
        clear k0
        go_wp2
        go_ret2
        exact ⟨by rw [HR.out]; rfl, hb0⟩
  · have n8 : decide (0 ≤ mi) = false := by rw [decide_eq_false_iff_not]; exact h1
    rcases hkk with hk | hk | hk | ⟨hk1, hk2, hk3⟩
    · have hok : ¬ okText ⟨mi, ma, mk, mn⟩ = true := by
        subst hk
        simp [okText, valueT]
        omega
      have HR := Lib.hid (show textR ⟨mi, ma, mk, mn⟩ = .tuple #[.string ⟨#[]⟩, .int .i64 4] by unfold textR; rw [if_neg hok])
      clear hok HW
      subst hk
      go_enter Tryz.func43, Tryz.ntmps43
      go_upto_region 1 with (fail)
      generalize w.alloc _ = V at k0 hb0 ⊢
      obtain ⟨⟨c0, c1, c2, c3⟩, -, hl0⟩ := four_c k0
      clear k0
      go_wp2
      go_ret2
      exact ⟨by rw [HR.out]; rfl, hb0⟩
    · have hok : ¬ okText ⟨mi, ma, mk, mn⟩ = true := by
        subst hk
        simp [okText, valueT]
        omega
      have HR := Lib.hid (show textR ⟨mi, ma, mk, mn⟩ = .tuple #[.string ⟨#[]⟩, .int .i64 4] by unfold textR; rw [if_neg hok])
      clear hok HW
      subst hk
      go_enter Tryz.func43, Tryz.ntmps43
      go_upto_region 1 with (fail)
      generalize w.alloc _ = V at k0 hb0 ⊢
      obtain ⟨⟨c0, c1, c2, c3⟩, -, hl0⟩ := four_c k0
      clear k0
      go_wp2
      go_ret2
      exact ⟨by rw [HR.out]; rfl, hb0⟩
    · have hok : ¬ okText ⟨mi, ma, mk, mn⟩ = true := by
        subst hk
        simp [okText, valueT]
        omega
      have HR := Lib.hid (show textR ⟨mi, ma, mk, mn⟩ = .tuple #[.string ⟨#[]⟩, .int .i64 4] by unfold textR; rw [if_neg hok])
      clear hok HW
      subst hk
      go_enter Tryz.func43, Tryz.ntmps43
      go_upto_region 1 with (fail)
      generalize w.alloc _ = V at k0 hb0 ⊢
      obtain ⟨⟨c0, c1, c2, c3⟩, -, hl0⟩ := four_c k0
      clear k0
      go_wp2
      go_ret2
      exact ⟨by rw [HR.out]; rfl, hb0⟩
    · have e1 : ((mk : Int) == 1) = false := by rw [beq_eq_false_iff_ne]; omega
      have e2 : ((mk : Int) == 2) = false := by rw [beq_eq_false_iff_ne]; omega
      have e3 : ((mk : Int) == 3) = false := by rw [beq_eq_false_iff_ne]; omega
      have hok : ¬ okText ⟨mi, ma, mk, mn⟩ = true := by
        intro h
        have := (okText_parts h).2.2.1
        dsimp only at this
        omega
      have HR := Lib.hid (show textR ⟨mi, ma, mk, mn⟩ = .tuple #[.string ⟨#[]⟩, .int .i64 4] by unfold textR; rw [if_neg hok])
      clear hok HW
      go_enter Tryz.func43, Tryz.ntmps43
      go_upto_region 1 with (fail)
      generalize w.alloc _ = V at k0 hb0 ⊢
      obtain ⟨⟨c0, c1, c2, c3⟩, -, hl0⟩ := four_c k0
      clear k0
      go_wp2
      go_ret2
      exact ⟨by rw [HR.out]; rfl, hb0⟩

end Go.Proofs.YtoncdnelacolaaaGreatDoor.Ar

namespace Go.Proofs.YtoncdnelacolaaaGreatDoor.Ar
open Go Go.Proofs Go.RowKit Go.Sort Lx Ps

theorem slice_from {s : List UInt8} {k : Nat} (h : k ≤ s.length) (W : World) : (Instr.slice 9 (.string (strB s)) (some (.int .i64 (k : Int))) none none).run Tryz.prog W = .ok (.string (strB (s.drop k))) W := by
  have e : (strB s).extract (k : Int).toNat (strB s).size = strB (s.drop k) := by
    unfold strB
    rw [ByteArray.extract_mk, Int.toNat_natCast]
    congr 2
    rw [List.take_of_length_le]
    rw [List.length_drop]
    exact Nat.le_refl _
  have := run_slice_string_from_if W 9 (strB s) .i64 (k : Int) Tryz.underlying9
  rw [this, if_pos ⟨by omega, by rw [strB_size]; omega⟩, e]
/-- What Parse of the reference keeps in memory: its result, and the move that it reads. -/
def PSt (w X : World) (a b : Int) (k : Nat) (n : Int) : Prop :=
  X.heap[w.heap.size]? = some (.cells #[.int .i64 0, .int .i64 0, .int .u8 0, .int .i64 0] 40 (0, 0)) ∧
  X.heap[w.heap.size + 1]? = some (.cells #[.int .i64 a, .int .i64 b, .int .u8 (k : Int), .int .i64 n] 40 (0, 0)) ∧ Below w.heap.size w X
theorem PSt.call {w X X' : World} {a b : Int} {k : Nat} {n : Int} (h : PSt w X a b k n) (hb : Below X.heap.size X X') : PSt w X' a b k n := by
  obtain ⟨h1, h2, h3⟩ := h
  exact ⟨heap_below hb (Array.getElem?_eq_some_iff.1 h1).1 h1, heap_below hb (Array.getElem?_eq_some_iff.1 h2).1 h2, h3.trans (hb.mono h3.size)⟩
theorem PSt.start (w : World) : PSt w ((w.alloc (.cells #[.int .i64 0, .int .i64 0, .int .u8 0, .int .i64 0] 40)).alloc (.cells #[.int .i64 0, .int .i64 0, .int .u8 0, .int .i64 0] 40)) 0 0 0 0 := by
  obtain ⟨k0, k1⟩ := blocks2 w (.cells #[.int .i64 0, .int .i64 0, .int .u8 0, .int .i64 0] 40) (.cells #[.int .i64 0, .int .i64 0, .int .u8 0, .int .i64 0] 40)
  exact ⟨k0, k1, below_two⟩
theorem PSt.setA {w X : World} {a b : Int} {k : Nat} {n : Int} (h : PSt w X a b k n) (x : Int) : PSt w (X.setCell ⟨w.heap.size + 1, 0, none⟩ (.int .i64 x)) x b k n := by
  obtain ⟨h1, h2, h3⟩ := h
  exact ⟨(heap_setCell_other X ⟨w.heap.size + 1, 0, none⟩ w.heap.size _ (by show w.heap.size ≠ w.heap.size + 1; omega)).trans h1, heap_setCell_same X _ 0 _ _ _ h2, h3.setCell (by show w.heap.size ≤ w.heap.size + 1; omega) _⟩
theorem PSt.setB {w X : World} {a b : Int} {k : Nat} {n : Int} (h : PSt w X a b k n) (x : Int) : PSt w (X.setCell ⟨w.heap.size + 1, 1, none⟩ (.int .i64 x)) a x k n := by
  obtain ⟨h1, h2, h3⟩ := h
  exact ⟨(heap_setCell_other X ⟨w.heap.size + 1, 1, none⟩ w.heap.size _ (by show w.heap.size ≠ w.heap.size + 1; omega)).trans h1, heap_setCell_same X _ 1 _ _ _ h2, h3.setCell (by show w.heap.size ≤ w.heap.size + 1; omega) _⟩
theorem PSt.setK {w X : World} {a b : Int} {k : Nat} {n : Int} (h : PSt w X a b k n) (x : Nat) : PSt w (X.setCell ⟨w.heap.size + 1, 2, none⟩ (.int .u8 (x : Int))) a b x n := by
  obtain ⟨h1, h2, h3⟩ := h
  exact ⟨(heap_setCell_other X ⟨w.heap.size + 1, 2, none⟩ w.heap.size _ (by show w.heap.size ≠ w.heap.size + 1; omega)).trans h1, heap_setCell_same X _ 2 _ _ _ h2, h3.setCell (by show w.heap.size ≤ w.heap.size + 1; omega) _⟩
theorem PSt.setN {w X : World} {a b : Int} {k : Nat} {n : Int} (h : PSt w X a b k n) (x : Int) : PSt w (X.setCell ⟨w.heap.size + 1, 3, none⟩ (.int .i64 x)) a b k x := by
  obtain ⟨h1, h2, h3⟩ := h
  exact ⟨(heap_setCell_other X ⟨w.heap.size + 1, 3, none⟩ w.heap.size _ (by show w.heap.size ≠ w.heap.size + 1; omega)).trans h1, heap_setCell_same X _ 3 _ _ _ h2, h3.setCell (by show w.heap.size ≤ w.heap.size + 1; omega) _⟩
theorem PSt.draw {w X : World} {a b : Int} {k : Nat} {n : Int} (h : PSt w X a b k n) (j : Nat) : PSt w (X.drewN j) a b k n := h.call ⟨rfl, rfl, rfl, Nat.le_refl _, fun _ _ => rfl⟩

set_option maxRecDepth 100000 in
set_option maxHeartbeats 4000000 in
theorem refParse_nodot (s : List UInt8) (w : World) (hdot : ¬ (s.drop (digL s).length).head? = some 46) :
    Calls Tryz.prog 44 #[.string (strB s)] w fun e w' => e = .returned (refR s) ∧ Below w.heap.size w w' := by
  have HD := Lib.hid (fun (l : List UInt8) V => digits_any l V)
  have HT := Lib.hid (fun (m : Mv) V (h : MvOk m) => refText_any m V h)
  have hP := PSt.start w
  have HSL := Lib.hid (fun (l : List UInt8) (k : Nat) (h : k ≤ l.length) => slice_from h)
  have HIX := Lib.hid (fun (l : List UInt8) (k : Nat) (c : UInt8) (h : l[k]? = some c) => index_at h)
  have hd1 := digL_le s
  have hRO : refO s = match (refQ s).2 with
    | [] => none
    | c :: t => some ⟨valD (digL s), (refQ s).1, kindB c, if (refQ s).2 = [33, 42] then -1 else valD (digL t)⟩ := rfl
  have hQ : refQ s = if (s.drop (digL s).length).head? = some 46 then (valD (digL ((s.drop (digL s).length).drop 1)), (s.drop (digL s).length).drop (1 + (digL ((s.drop (digL s).length).drop 1)).length)) else (0, s.drop (digL s).length) := rfl
  have HRO := Lib.hid hRO
  have HQ := Lib.hid hQ
  have hD1 := HD.out s
  have hs1 := HSL.out s (digL s).length hd1
  clear hRO hQ hd1
  generalize digL s = D at *
  generalize s.drop D.length = r1 at *
  go_enter Tryz.func44, Tryz.ntmps44
  go_upto_region 2 with (fail)
  generalize (w.alloc (.cells #[.int .i64 0, .int .i64 0, .int .u8 0, .int .i64 0] 40)).alloc (.cells #[.int .i64 0, .int .i64 0, .int .u8 0, .int .i64 0] 40) = X0 at hP ⊢
  go_upto_region 4 with (go_at_call 100; refine (hD1 _).mono ?_; rintro e X1 ⟨rfl, hb1⟩)
  have hP1 := hP.call hb1
  clear hP hb1 hD1
  obtain ⟨h1, h2, h3⟩ := hP1
  have HP1 := Lib.hid (show PSt w X1 0 0 0 0 from ⟨h1, h2, h3⟩)
  obtain ⟨⟨c0, c1, c2, c3⟩, ⟨f0, f1, f2, f3⟩, hl⟩ := four_c h2
  clear h1 h2 h3
  refine wp_region_chain (fun _ => True) [(true, 0), (true, 1), (true, 2), (true, 3), (true, 4), (false, 5), (true, 6)] (by kernel_rfl) (by kernel_rfl) (by kernel_rfl) (by kernel_rfl) (by intro d v c a w h; cases d <;> exact h) trivial ?_
  simp only [chainOps, List.filterMap_cons, List.filterMap_nil, List.getElem?_toArray, List.getElem?_cons_zero, List.getElem?_cons_succ, Option.map_some]
  repeat (first
    | (refine chain_skip (by rfl) ?_
       try simp only [Act.put, List.setIfInBounds_toArray, List.set_cons_zero, List.set_cons_succ])
    | (apply chain_take (by rfl)
       · (intro w' hSw; (try dsimp only at hSw); go_simp; try with_reducible rfl)
       try simp only [Act.put, List.setIfInBounds_toArray, List.set_cons_zero, List.set_cons_succ]))
  refine chain_act (fun KK hKK => ?_)
  go_simp
  refine hKK.out _ _ trivial ?_
  clear hKK KK
  try simp only [Act.put, List.setIfInBounds_toArray, List.set_cons_zero, List.set_cons_succ]
  repeat (first
    | (refine chain_skip (by rfl) ?_
       try simp only [Act.put, List.setIfInBounds_toArray, List.set_cons_zero, List.set_cons_succ])
    | (apply chain_take (by rfl)
       · (intro w' hSw; (try dsimp only at hSw); go_simp; try with_reducible rfl)
       try simp only [Act.put, List.setIfInBounds_toArray, List.set_cons_zero, List.set_cons_succ]))
  refine chain_nil ?_
  have hP2 := (HP1.out.setA (valD D)).call (X' := (X1.setCell ⟨w.heap.size + 1, 0, none⟩ (.int .i64 (valD D))).drew) ⟨rfl, rfl, rfl, Nat.le_refl _, fun _ _ => rfl⟩
  generalize (X1.setCell ⟨w.heap.size + 1, 0, none⟩ (.int .i64 (valD D))).drew = X2 at *
  have HP2 := Lib.hid hP2
  clear hP2 c0 c1 c2 c3 f0 f1 f2 f3 hl HP1 hs1
  have hsz := strB_size r1
  have hq : refQ s = (0, r1) := by rw [HQ.out, if_neg hdot]
  have hRQ := HRO.out
  rw [hq] at hRQ
  dsimp only at hRQ
  obtain ⟨b, hbb⟩ : ∃ b : Int, b = 0 := ⟨0, rfl⟩
  rw [← hbb] at hRQ
  have hPS := HP2.out
  have hPS' : PSt w X2 (valD D) b 0 0 := by rw [hbb]; exact hPS
  have HPS := Lib.hid hPS'
  have HRQ := Lib.hid hRQ
  clear hPS hPS' HP2 hq hRQ hbb HRO HQ
  generalize X2 = X3 at *
  cases r1 with
  | nil =>
    have hs0 : (strB ([] : List UInt8)).size = 0 := rfl
    have HR := Lib.hid (show refR s = .tuple #[.agg #[.int .i64 0, .int .i64 0, .int .u8 0, .int .i64 0], .int .i64 4] by unfold refR; rw [HRQ.out]; rfl)
    have he : ((strB ([] : List UInt8)).toList == []) = true := by rw [ByteArray.toList_eq]; rfl
    have he1 : strB ([] : List UInt8) = ⟨#[]⟩ := rfl
    rw [he1] at *
    go_upto_region 8 with (fail)
    obtain ⟨h1, h2, h3⟩ := HPS.out
    obtain ⟨⟨q0, q1, q2, q3⟩, ⟨f0, f1, f2, f3⟩, -⟩ := four_c h1
    clear h1 h2
    go_wp2
    refine bodyPost_ret (v := .tuple #[.agg #[.int .i64 0, .int .i64 0, .int .u8 0, .int .i64 0], .int .i64 4]) (by simp [results, Tryz.results44, go_sem, q0, q1, q2, q3]) rfl ⟨by rw [HR.out], ?_⟩
    exact below4s h3 (Nat.le_refl _)
  | cons cq tq =>
    have hc46 : cq ≠ 46 := fun e => hdot (by rw [e]; rfl)
    have y0 : ((cq.toNat : Int) == 46) = false := by rw [beq_eq_false_iff_ne]; intro e; exact hc46 (UInt8.toNat_inj.1 (by have e9 : (46 : UInt8).toNat = 46 := rfl; omega))
    have hix0 : ∀ W, (Instr.index 9 (.string (strB (cq :: tq))) (.int .i64 0)).run Tryz.prog W = .ok (.int .u8 (cq.toNat : Int)) W := HIX.out (cq :: tq) 0 cq rfl
    have hs1 : (strB (cq :: tq)).size = tq.length + 1 := by rw [strB_size]; rfl
    go_upto_region 8 with (fail)
    clear hix0 y0 hc46 hdot
    have hix := HIX.out (cq :: tq) 0 cq rfl
    have hix' : ∀ W, (Instr.index 9 (.string (strB (cq :: tq))) (.int .i64 0)).run Tryz.prog W = .ok (.int .u8 (cq.toNat : Int)) W := hix
    have hsl' : ∀ W, (Instr.slice 9 (.string (strB (cq :: tq))) (some (.int .i64 1)) none none).run Tryz.prog W = .ok (.string (strB tq)) W := HSL.out (cq :: tq) 1 (by simp)
    have HDT := Lib.hid (HD.out tq)
    have he2 : ((strB (cq :: tq)).toList == []) = false := by rw [ByteArray.toList_eq, strB_toList]; rfl
    have he3 : ((strB (cq :: tq)).toList == [33, 42]) = decide (cq :: tq = [33, 42]) := by rw [ByteArray.toList_eq, strB_toList, Bool.eq_iff_iff]; simp
    have he4 : (strB (cq :: tq)).isEmpty = false := by rw [ByteArray.isEmpty, strB_size]; simp
    have hkk : (cq = 63 ∧ kindB cq = 1) ∨ (cq = 61 ∧ kindB cq = 2) ∨ (cq = 33 ∧ kindB cq = 3) ∨ (cq ≠ 63 ∧ cq ≠ 61 ∧ cq ≠ 33 ∧ kindB cq = 0) := by
      unfold kindB
      by_cases g1 : cq = 63
      · exact .inl ⟨g1, by rw [if_pos g1]⟩
      · by_cases g2 : cq = 61
        · exact .inr (.inl ⟨g2, by rw [if_neg g1, if_pos g2]⟩)
        · by_cases g3 : cq = 33
          · exact .inr (.inr (.inl ⟨g3, by rw [if_neg g1, if_neg g2, if_pos g3]⟩))
          · exact .inr (.inr (.inr ⟨g1, g2, g3, by rw [if_neg g1, if_neg g2, if_neg g3]⟩))
    have hRQ := HRQ.out
    dsimp only at hRQ
    clear hix HRQ
    rcases hkk with ⟨g, hk⟩ | ⟨g, hk⟩ | ⟨g, hk⟩ | ⟨g1, g2, g3, hk⟩
    · have hst : ¬ cq :: tq = [33, 42] := by intro e; rw [g] at e; cases e
      rw [hk, if_neg hst] at hRQ
      have HO := Lib.hid hRQ
      rw [decide_eq_false hst] at he3
      have hy : (cq.toNat : Int) = 63 := by rw [g]; rfl
      rw [hy] at hix'
      clear hst hk g hy hRQ
      generalize strB (cq :: tq) = Q at *
      obtain ⟨h1, h2, h3⟩ := HPS.out
      obtain ⟨⟨c0, c1, c2, c3⟩, ⟨f0, f1, f2, f3⟩, hl⟩ := four_c h2
      clear h1 h2 h3
      go_upto_region 17 with (fail)
      have HPK := Lib.hid (HPS.out.setK 1)
      generalize X3.setCell ⟨w.heap.size + 1, 2, none⟩ (.int .u8 1) = X4 at *
      clear c0 c1 c2 c3 f0 f1 f2 f3 hl
      go_upto_region 18 with (go_at_call 100; refine (HDT.out _).mono ?_; rintro e X5 ⟨rfl, hb5⟩; have HP5 := Lib.hid (HPK.out.call hb5); obtain ⟨h1, h2, h3⟩ := HP5.out; obtain ⟨⟨c0, c1, c2, c3⟩, ⟨f0, f1, f2, f3⟩, hl⟩ := four_c h2; clear h1 h2 h3)
      have HPN := Lib.hid (HP5.out.setN (valD (digL tq)))
      generalize X5.setCell ⟨w.heap.size + 1, 3, none⟩ (.int .i64 (valD (digL tq))) = X6 at *
      clear c0 c1 c2 c3 f0 f1 f2 f3 hl hb5 HP5 HPK HPS HDT
      go_upto_region 20 with (fail)
      have HPZ := HPN
      have hmk := refO_ok HO.out
      have hTm := fun V => HT.out (⟨valD D, b, 1, valD (digL tq)⟩ : Mv) V hmk
      clear hmk
      by_cases hok : okText (⟨valD D, b, 1, valD (digL tq)⟩ : Mv) = true
      · by_cases hts : textL (⟨valD D, b, 1, valD (digL tq)⟩ : Mv) = s
        · have HR := Lib.hid (show refR s = .tuple #[.agg #[.int .i64 (valD D), .int .i64 b, .int .u8 1, .int .i64 (valD (digL tq))], .int .i64 0] by unfold refR; rw [HO.out]; simp only; rw [if_pos ⟨hok, hts⟩]; rfl)
          have hr : textR (⟨valD D, b, 1, valD (digL tq)⟩ : Mv) = .tuple #[.string (strB s), .int .i64 0] := by unfold textR; rw [if_pos hok, hts]
          rw [hr] at hTm
          have HTM := Lib.hid hTm
          clear hTm hr hts hok HO
          unfold mvV at HTM
          obtain ⟨h1, h2, h3⟩ := HPZ.out
          obtain ⟨⟨c0, c1, c2, c3⟩, -, -⟩ := four_c h2
          clear h1 h2 h3
          go_upto_region 21 with (go_at_call 43; refine (HTM.out _).mono ?_; rintro e X9 ⟨rfl, hb9⟩)
          obtain ⟨h1, h2, h3⟩ := HPZ.out.call hb9
          obtain ⟨⟨q0, q1, q2, q3⟩, ⟨f0, f1, f2, f3⟩, -⟩ := four_c h1
          obtain ⟨⟨d0, d1, d2, d3⟩, -, -⟩ := four_c h2
          clear h1 h2 c0 c1 c2 c3 hb9
          go_wp2
          refine bodyPost_ret (v := .tuple #[.agg #[.int .i64 (valD D), .int .i64 b, .int .u8 1, .int .i64 (valD (digL tq))], .int .i64 0]) (by simp [results, Tryz.results44, go_sem, q0, q1, q2, q3]) rfl ⟨by rw [HR.out], ?_⟩
          exact below4s h3 (Nat.le_refl _)
        · have HR := Lib.hid (show refR s = .tuple #[.agg #[.int .i64 0, .int .i64 0, .int .u8 0, .int .i64 0], .int .i64 4] by unfold refR; rw [HO.out]; simp only; rw [if_neg (fun h => hts h.2)]; rfl)
          have hr : textR (⟨valD D, b, 1, valD (digL tq)⟩ : Mv) = .tuple #[.string (strB (textL (⟨valD D, b, 1, valD (digL tq)⟩ : Mv))), .int .i64 0] := by unfold textR; rw [if_pos hok]
          rw [hr] at hTm
          have he2 : ((strB (textL (⟨valD D, b, 1, valD (digL tq)⟩ : Mv))).toList == (strB s).toList) = false := by
            rw [ByteArray.toList_eq, ByteArray.toList_eq, strB_toList, strB_toList]
            simpa using hts
          have HTM := Lib.hid hTm
          clear hTm hr hts hok HO
          generalize strB (textL (⟨valD D, b, 1, valD (digL tq)⟩ : Mv)) = st at *
          unfold mvV at HTM
          obtain ⟨h1, h2, h3⟩ := HPZ.out
          obtain ⟨⟨c0, c1, c2, c3⟩, -, -⟩ := four_c h2
          clear h1 h2 h3
          go_upto_region 21 with (go_at_call 43; refine (HTM.out _).mono ?_; rintro e X9 ⟨rfl, hb9⟩)
          clear c0 c1 c2 c3
          obtain ⟨h1, h2, h3⟩ := HPZ.out.call hb9
          obtain ⟨⟨q0, q1, q2, q3⟩, ⟨f0, f1, f2, f3⟩, -⟩ := four_c h1
          clear h1 h2
          go_wp2
          refine bodyPost_ret (v := .tuple #[.agg #[.int .i64 0, .int .i64 0, .int .u8 0, .int .i64 0], .int .i64 4]) (by simp [results, Tryz.results44, go_sem, q0, q1, q2, q3]) rfl ⟨by rw [HR.out], ?_⟩
          exact below4s h3 (Nat.le_refl _)
      · have HR := Lib.hid (show refR s = .tuple #[.agg #[.int .i64 0, .int .i64 0, .int .u8 0, .int .i64 0], .int .i64 4] by unfold refR; rw [HO.out]; simp only; rw [if_neg (fun h => hok h.1)]; rfl)
        have hr : textR (⟨valD D, b, 1, valD (digL tq)⟩ : Mv) = .tuple #[.string ⟨#[]⟩, .int .i64 4] := by unfold textR; rw [if_neg hok]
        rw [hr] at hTm
        have HTM := Lib.hid hTm
        clear hTm hr hok HO
        unfold mvV at HTM
        obtain ⟨h1, h2, h3⟩ := HPZ.out
        obtain ⟨⟨c0, c1, c2, c3⟩, -, -⟩ := four_c h2
        clear h1 h2 h3
        go_upto_region 21 with (go_at_call 43; refine (HTM.out _).mono ?_; rintro e X9 ⟨rfl, hb9⟩)
        clear c0 c1 c2 c3
        obtain ⟨h1, h2, h3⟩ := HPZ.out.call hb9
        obtain ⟨⟨q0, q1, q2, q3⟩, ⟨f0, f1, f2, f3⟩, -⟩ := four_c h1
        clear h1 h2
        go_wp2
        refine bodyPost_ret (v := .tuple #[.agg #[.int .i64 0, .int .i64 0, .int .u8 0, .int .i64 0], .int .i64 4]) (by simp [results, Tryz.results44, go_sem, q0, q1, q2, q3]) rfl ⟨by rw [HR.out], ?_⟩
        exact below4s h3 (Nat.le_refl _)
    · have hst : ¬ cq :: tq = [33, 42] := by intro e; rw [g] at e; cases e
      rw [hk, if_neg hst] at hRQ
      have HO := Lib.hid hRQ
      rw [decide_eq_false hst] at he3
      have hy : (cq.toNat : Int) = 61 := by rw [g]; rfl
      rw [hy] at hix'
      clear hst hk g hy hRQ
      generalize strB (cq :: tq) = Q at *
      obtain ⟨h1, h2, h3⟩ := HPS.out
      obtain ⟨⟨c0, c1, c2, c3⟩, ⟨f0, f1, f2, f3⟩, hl⟩ := four_c h2
      clear h1 h2 h3
      go_upto_region 17 with (fail)
      have HPK := Lib.hid (HPS.out.setK 2)
      generalize X3.setCell ⟨w.heap.size + 1, 2, none⟩ (.int .u8 2) = X4 at *
      clear c0 c1 c2 c3 f0 f1 f2 f3 hl
      go_upto_region 18 with (go_at_call 100; refine (HDT.out _).mono ?_; rintro e X5 ⟨rfl, hb5⟩; have HP5 := Lib.hid (HPK.out.call hb5); obtain ⟨h1, h2, h3⟩ := HP5.out; obtain ⟨⟨c0, c1, c2, c3⟩, ⟨f0, f1, f2, f3⟩, hl⟩ := four_c h2; clear h1 h2 h3)
      have HPN := Lib.hid (HP5.out.setN (valD (digL tq)))
      generalize X5.setCell ⟨w.heap.size + 1, 3, none⟩ (.int .i64 (valD (digL tq))) = X6 at *
      clear c0 c1 c2 c3 f0 f1 f2 f3 hl hb5 HP5 HPK HPS HDT
      go_upto_region 20 with (fail)
      have HPZ := HPN
      have hmk := refO_ok HO.out
      have hTm := fun V => HT.out (⟨valD D, b, 2, valD (digL tq)⟩ : Mv) V hmk
      clear hmk
      by_cases hok : okText (⟨valD D, b, 2, valD (digL tq)⟩ : Mv) = true
      · by_cases hts : textL (⟨valD D, b, 2, valD (digL tq)⟩ : Mv) = s
        · have HR := Lib.hid (show refR s = .tuple #[.agg #[.int .i64 (valD D), .int .i64 b, .int .u8 2, .int .i64 (valD (digL tq))], .int .i64 0] by unfold refR; rw [HO.out]; simp only; rw [if_pos ⟨hok, hts⟩]; rfl)
          have hr : textR (⟨valD D, b, 2, valD (digL tq)⟩ : Mv) = .tuple #[.string (strB s), .int .i64 0] := by unfold textR; rw [if_pos hok, hts]
          rw [hr] at hTm
          have HTM := Lib.hid hTm
          clear hTm hr hts hok HO
          unfold mvV at HTM
          obtain ⟨h1, h2, h3⟩ := HPZ.out
          obtain ⟨⟨c0, c1, c2, c3⟩, -, -⟩ := four_c h2
          clear h1 h2 h3
          go_upto_region 21 with (go_at_call 43; refine (HTM.out _).mono ?_; rintro e X9 ⟨rfl, hb9⟩)
          obtain ⟨h1, h2, h3⟩ := HPZ.out.call hb9
          obtain ⟨⟨q0, q1, q2, q3⟩, ⟨f0, f1, f2, f3⟩, -⟩ := four_c h1
          obtain ⟨⟨d0, d1, d2, d3⟩, -, -⟩ := four_c h2
          clear h1 h2 c0 c1 c2 c3 hb9
          go_wp2
          refine bodyPost_ret (v := .tuple #[.agg #[.int .i64 (valD D), .int .i64 b, .int .u8 2, .int .i64 (valD (digL tq))], .int .i64 0]) (by simp [results, Tryz.results44, go_sem, q0, q1, q2, q3]) rfl ⟨by rw [HR.out], ?_⟩
          exact below4s h3 (Nat.le_refl _)
        · have HR := Lib.hid (show refR s = .tuple #[.agg #[.int .i64 0, .int .i64 0, .int .u8 0, .int .i64 0], .int .i64 4] by unfold refR; rw [HO.out]; simp only; rw [if_neg (fun h => hts h.2)]; rfl)
          have hr : textR (⟨valD D, b, 2, valD (digL tq)⟩ : Mv) = .tuple #[.string (strB (textL (⟨valD D, b, 2, valD (digL tq)⟩ : Mv))), .int .i64 0] := by unfold textR; rw [if_pos hok]
          rw [hr] at hTm
          have he2 : ((strB (textL (⟨valD D, b, 2, valD (digL tq)⟩ : Mv))).toList == (strB s).toList) = false := by
            rw [ByteArray.toList_eq, ByteArray.toList_eq, strB_toList, strB_toList]
            simpa using hts
          have HTM := Lib.hid hTm
          clear hTm hr hts hok HO
          generalize strB (textL (⟨valD D, b, 2, valD (digL tq)⟩ : Mv)) = st at *
          unfold mvV at HTM
          obtain ⟨h1, h2, h3⟩ := HPZ.out
          obtain ⟨⟨c0, c1, c2, c3⟩, -, -⟩ := four_c h2
          clear h1 h2 h3
          go_upto_region 21 with (go_at_call 43; refine (HTM.out _).mono ?_; rintro e X9 ⟨rfl, hb9⟩)
          clear c0 c1 c2 c3
          obtain ⟨h1, h2, h3⟩ := HPZ.out.call hb9
          obtain ⟨⟨q0, q1, q2, q3⟩, ⟨f0, f1, f2, f3⟩, -⟩ := four_c h1
          clear h1 h2
          go_wp2
          refine bodyPost_ret (v := .tuple #[.agg #[.int .i64 0, .int .i64 0, .int .u8 0, .int .i64 0], .int .i64 4]) (by simp [results, Tryz.results44, go_sem, q0, q1, q2, q3]) rfl ⟨by rw [HR.out], ?_⟩
          exact below4s h3 (Nat.le_refl _)
      · have HR := Lib.hid (show refR s = .tuple #[.agg #[.int .i64 0, .int .i64 0, .int .u8 0, .int .i64 0], .int .i64 4] by unfold refR; rw [HO.out]; simp only; rw [if_neg (fun h => hok h.1)]; rfl)
        have hr : textR (⟨valD D, b, 2, valD (digL tq)⟩ : Mv) = .tuple #[.string ⟨#[]⟩, .int .i64 4] := by unfold textR; rw [if_neg hok]
        rw [hr] at hTm
        have HTM := Lib.hid hTm
        clear hTm hr hok HO
        unfold mvV at HTM
        obtain ⟨h1, h2, h3⟩ := HPZ.out
        obtain ⟨⟨c0, c1, c2, c3⟩, -, -⟩ := four_c h2
        clear h1 h2 h3
        go_upto_region 21 with (go_at_call 43; refine (HTM.out _).mono ?_; rintro e X9 ⟨rfl, hb9⟩)
        clear c0 c1 c2 c3
        obtain ⟨h1, h2, h3⟩ := HPZ.out.call hb9
        obtain ⟨⟨q0, q1, q2, q3⟩, ⟨f0, f1, f2, f3⟩, -⟩ := four_c h1
        clear h1 h2
        go_wp2
        refine bodyPost_ret (v := .tuple #[.agg #[.int .i64 0, .int .i64 0, .int .u8 0, .int .i64 0], .int .i64 4]) (by simp [results, Tryz.results44, go_sem, q0, q1, q2, q3]) rfl ⟨by rw [HR.out], ?_⟩
        exact below4s h3 (Nat.le_refl _)
    · have hy : (cq.toNat : Int) = 33 := by rw [g]; rfl
      rw [hy] at hix'
      rw [hk] at hRQ
      clear hk g hy
      by_cases hst : cq :: tq = [33, 42]
      · rw [if_pos hst] at hRQ
        have HO := Lib.hid hRQ
        rw [decide_eq_true hst] at he3
        clear hst hRQ
        generalize strB (cq :: tq) = Q at *
        obtain ⟨h1, h2, h3⟩ := HPS.out
        obtain ⟨⟨c0, c1, c2, c3⟩, ⟨f0, f1, f2, f3⟩, hl⟩ := four_c h2
        clear h1 h2 h3
        go_upto_region 17 with (fail)
        have HPK := Lib.hid (HPS.out.setK 3)
        generalize X3.setCell ⟨w.heap.size + 1, 2, none⟩ (.int .u8 3) = X4 at *
        clear c0 c1 c2 c3 f0 f1 f2 f3 hl
        go_upto_region 18 with (go_at_call 100; refine (HDT.out _).mono ?_; rintro e X5 ⟨rfl, hb5⟩; have HP5 := Lib.hid (HPK.out.call hb5); obtain ⟨h1, h2, h3⟩ := HP5.out; obtain ⟨⟨c0, c1, c2, c3⟩, ⟨f0, f1, f2, f3⟩, hl⟩ := four_c h2; clear h1 h2 h3)
        have HPN := Lib.hid (HP5.out.setN (valD (digL tq)))
        generalize X5.setCell ⟨w.heap.size + 1, 3, none⟩ (.int .i64 (valD (digL tq))) = X6 at *
        clear c0 c1 c2 c3 f0 f1 f2 f3 hl hb5 HP5 HPK HPS HDT
        obtain ⟨h1, h2, h3⟩ := HPN.out
        obtain ⟨⟨c0, c1, c2, c3⟩, ⟨f0, f1, f2, f3⟩, hl⟩ := four_c h2
        clear h1 h2 h3
        go_upto_region 20 with (fail)
        have HPZ := Lib.hid (HPN.out.setN (-1))
        generalize X6.setCell ⟨w.heap.size + 1, 3, none⟩ (.int .i64 (-1)) = X7 at *
        clear c0 c1 c2 c3 f0 f1 f2 f3 hl
        have hmk := refO_ok HO.out
        have hTm := fun V => HT.out (⟨valD D, b, 3, -1⟩ : Mv) V hmk
        clear hmk
        by_cases hok : okText (⟨valD D, b, 3, -1⟩ : Mv) = true
        · by_cases hts : textL (⟨valD D, b, 3, -1⟩ : Mv) = s
          · have HR := Lib.hid (show refR s = .tuple #[.agg #[.int .i64 (valD D), .int .i64 b, .int .u8 3, .int .i64 (-1)], .int .i64 0] by unfold refR; rw [HO.out]; simp only; rw [if_pos ⟨hok, hts⟩]; rfl)
            have hr : textR (⟨valD D, b, 3, -1⟩ : Mv) = .tuple #[.string (strB s), .int .i64 0] := by unfold textR; rw [if_pos hok, hts]
            rw [hr] at hTm
            have HTM := Lib.hid hTm
            clear hTm hr hts hok HO
            unfold mvV at HTM
            obtain ⟨h1, h2, h3⟩ := HPZ.out
            obtain ⟨⟨c0, c1, c2, c3⟩, -, -⟩ := four_c h2
            clear h1 h2 h3
            go_upto_region 21 with (go_at_call 43; refine (HTM.out _).mono ?_; rintro e X9 ⟨rfl, hb9⟩)
            obtain ⟨h1, h2, h3⟩ := HPZ.out.call hb9
            obtain ⟨⟨q0, q1, q2, q3⟩, ⟨f0, f1, f2, f3⟩, -⟩ := four_c h1
            obtain ⟨⟨d0, d1, d2, d3⟩, -, -⟩ := four_c h2
            clear h1 h2 c0 c1 c2 c3 hb9
            go_wp2
            refine bodyPost_ret (v := .tuple #[.agg #[.int .i64 (valD D), .int .i64 b, .int .u8 3, .int .i64 (-1)], .int .i64 0]) (by simp [results, Tryz.results44, go_sem, q0, q1, q2, q3]) rfl ⟨by rw [HR.out], ?_⟩
            exact below4s h3 (Nat.le_refl _)
          · have HR := Lib.hid (show refR s = .tuple #[.agg #[.int .i64 0, .int .i64 0, .int .u8 0, .int .i64 0], .int .i64 4] by unfold refR; rw [HO.out]; simp only; rw [if_neg (fun h => hts h.2)]; rfl)
            have hr : textR (⟨valD D, b, 3, -1⟩ : Mv) = .tuple #[.string (strB (textL (⟨valD D, b, 3, -1⟩ : Mv))), .int .i64 0] := by unfold textR; rw [if_pos hok]
            rw [hr] at hTm
            have he2 : ((strB (textL (⟨valD D, b, 3, -1⟩ : Mv))).toList == (strB s).toList) = false := by
              rw [ByteArray.toList_eq, ByteArray.toList_eq, strB_toList, strB_toList]
              simpa using hts
            have HTM := Lib.hid hTm
            clear hTm hr hts hok HO
            generalize strB (textL (⟨valD D, b, 3, -1⟩ : Mv)) = st at *
            unfold mvV at HTM
            obtain ⟨h1, h2, h3⟩ := HPZ.out
            obtain ⟨⟨c0, c1, c2, c3⟩, -, -⟩ := four_c h2
            clear h1 h2 h3
            go_upto_region 21 with (go_at_call 43; refine (HTM.out _).mono ?_; rintro e X9 ⟨rfl, hb9⟩)
            clear c0 c1 c2 c3
            obtain ⟨h1, h2, h3⟩ := HPZ.out.call hb9
            obtain ⟨⟨q0, q1, q2, q3⟩, ⟨f0, f1, f2, f3⟩, -⟩ := four_c h1
            clear h1 h2
            go_wp2
            refine bodyPost_ret (v := .tuple #[.agg #[.int .i64 0, .int .i64 0, .int .u8 0, .int .i64 0], .int .i64 4]) (by simp [results, Tryz.results44, go_sem, q0, q1, q2, q3]) rfl ⟨by rw [HR.out], ?_⟩
            exact below4s h3 (Nat.le_refl _)
        · have HR := Lib.hid (show refR s = .tuple #[.agg #[.int .i64 0, .int .i64 0, .int .u8 0, .int .i64 0], .int .i64 4] by unfold refR; rw [HO.out]; simp only; rw [if_neg (fun h => hok h.1)]; rfl)
          have hr : textR (⟨valD D, b, 3, -1⟩ : Mv) = .tuple #[.string ⟨#[]⟩, .int .i64 4] := by unfold textR; rw [if_neg hok]
          rw [hr] at hTm
          have HTM := Lib.hid hTm
          clear hTm hr hok HO
          unfold mvV at HTM
          obtain ⟨h1, h2, h3⟩ := HPZ.out
          obtain ⟨⟨c0, c1, c2, c3⟩, -, -⟩ := four_c h2
          clear h1 h2 h3
          go_upto_region 21 with (go_at_call 43; refine (HTM.out _).mono ?_; rintro e X9 ⟨rfl, hb9⟩)
          clear c0 c1 c2 c3
          obtain ⟨h1, h2, h3⟩ := HPZ.out.call hb9
          obtain ⟨⟨q0, q1, q2, q3⟩, ⟨f0, f1, f2, f3⟩, -⟩ := four_c h1
          clear h1 h2
          go_wp2
          refine bodyPost_ret (v := .tuple #[.agg #[.int .i64 0, .int .i64 0, .int .u8 0, .int .i64 0], .int .i64 4]) (by simp [results, Tryz.results44, go_sem, q0, q1, q2, q3]) rfl ⟨by rw [HR.out], ?_⟩
          exact below4s h3 (Nat.le_refl _)
      · rw [if_neg hst] at hRQ
        have HO := Lib.hid hRQ
        rw [decide_eq_false hst] at he3
        clear hst hRQ
        generalize strB (cq :: tq) = Q at *
        obtain ⟨h1, h2, h3⟩ := HPS.out
        obtain ⟨⟨c0, c1, c2, c3⟩, ⟨f0, f1, f2, f3⟩, hl⟩ := four_c h2
        clear h1 h2 h3
        go_upto_region 17 with (fail)
        have HPK := Lib.hid (HPS.out.setK 3)
        generalize X3.setCell ⟨w.heap.size + 1, 2, none⟩ (.int .u8 3) = X4 at *
        clear c0 c1 c2 c3 f0 f1 f2 f3 hl
        go_upto_region 18 with (go_at_call 100; refine (HDT.out _).mono ?_; rintro e X5 ⟨rfl, hb5⟩; have HP5 := Lib.hid (HPK.out.call hb5); obtain ⟨h1, h2, h3⟩ := HP5.out; obtain ⟨⟨c0, c1, c2, c3⟩, ⟨f0, f1, f2, f3⟩, hl⟩ := four_c h2; clear h1 h2 h3)
        have HPN := Lib.hid (HP5.out.setN (valD (digL tq)))
        generalize X5.setCell ⟨w.heap.size + 1, 3, none⟩ (.int .i64 (valD (digL tq))) = X6 at *
        clear c0 c1 c2 c3 f0 f1 f2 f3 hl hb5 HP5 HPK HPS HDT
        go_upto_region 20 with (fail)
        have HPZ := HPN
        have hmk := refO_ok HO.out
        have hTm := fun V => HT.out (⟨valD D, b, 3, valD (digL tq)⟩ : Mv) V hmk
        clear hmk
        by_cases hok : okText (⟨valD D, b, 3, valD (digL tq)⟩ : Mv) = true
        · by_cases hts : textL (⟨valD D, b, 3, valD (digL tq)⟩ : Mv) = s
          · have HR := Lib.hid (show refR s = .tuple #[.agg #[.int .i64 (valD D), .int .i64 b, .int .u8 3, .int .i64 (valD (digL tq))], .int .i64 0] by unfold refR; rw [HO.out]; simp only; rw [if_pos ⟨hok, hts⟩]; rfl)
            have hr : textR (⟨valD D, b, 3, valD (digL tq)⟩ : Mv) = .tuple #[.string (strB s), .int .i64 0] := by unfold textR; rw [if_pos hok, hts]
            rw [hr] at hTm
            have HTM := Lib.hid hTm
            clear hTm hr hts hok HO
            unfold mvV at HTM
            obtain ⟨h1, h2, h3⟩ := HPZ.out
            obtain ⟨⟨c0, c1, c2, c3⟩, -, -⟩ := four_c h2
            clear h1 h2 h3
            go_upto_region 21 with (go_at_call 43; refine (HTM.out _).mono ?_; rintro e X9 ⟨rfl, hb9⟩)
            obtain ⟨h1, h2, h3⟩ := HPZ.out.call hb9
            obtain ⟨⟨q0, q1, q2, q3⟩, ⟨f0, f1, f2, f3⟩, -⟩ := four_c h1
            obtain ⟨⟨d0, d1, d2, d3⟩, -, -⟩ := four_c h2
            clear h1 h2 c0 c1 c2 c3 hb9
            go_wp2
            refine bodyPost_ret (v := .tuple #[.agg #[.int .i64 (valD D), .int .i64 b, .int .u8 3, .int .i64 (valD (digL tq))], .int .i64 0]) (by simp [results, Tryz.results44, go_sem, q0, q1, q2, q3]) rfl ⟨by rw [HR.out], ?_⟩
            exact below4s h3 (Nat.le_refl _)
          · have HR := Lib.hid (show refR s = .tuple #[.agg #[.int .i64 0, .int .i64 0, .int .u8 0, .int .i64 0], .int .i64 4] by unfold refR; rw [HO.out]; simp only; rw [if_neg (fun h => hts h.2)]; rfl)
            have hr : textR (⟨valD D, b, 3, valD (digL tq)⟩ : Mv) = .tuple #[.string (strB (textL (⟨valD D, b, 3, valD (digL tq)⟩ : Mv))), .int .i64 0] := by unfold textR; rw [if_pos hok]
            rw [hr] at hTm
            have he2 : ((strB (textL (⟨valD D, b, 3, valD (digL tq)⟩ : Mv))).toList == (strB s).toList) = false := by
              rw [ByteArray.toList_eq, ByteArray.toList_eq, strB_toList, strB_toList]
              simpa using hts
            have HTM := Lib.hid hTm
            clear hTm hr hts hok HO
            generalize strB (textL (⟨valD D, b, 3, valD (digL tq)⟩ : Mv)) = st at *
            unfold mvV at HTM
            obtain ⟨h1, h2, h3⟩ := HPZ.out
            obtain ⟨⟨c0, c1, c2, c3⟩, -, -⟩ := four_c h2
            clear h1 h2 h3
            go_upto_region 21 with (go_at_call 43; refine (HTM.out _).mono ?_; rintro e X9 ⟨rfl, hb9⟩)
            clear c0 c1 c2 c3
            obtain ⟨h1, h2, h3⟩ := HPZ.out.call hb9
            obtain ⟨⟨q0, q1, q2, q3⟩, ⟨f0, f1, f2, f3⟩, -⟩ := four_c h1
            clear h1 h2
            go_wp2
            refine bodyPost_ret (v := .tuple #[.agg #[.int .i64 0, .int .i64 0, .int .u8 0, .int .i64 0], .int .i64 4]) (by simp [results, Tryz.results44, go_sem, q0, q1, q2, q3]) rfl ⟨by rw [HR.out], ?_⟩
            exact below4s h3 (Nat.le_refl _)
        · have HR := Lib.hid (show refR s = .tuple #[.agg #[.int .i64 0, .int .i64 0, .int .u8 0, .int .i64 0], .int .i64 4] by unfold refR; rw [HO.out]; simp only; rw [if_neg (fun h => hok h.1)]; rfl)
          have hr : textR (⟨valD D, b, 3, valD (digL tq)⟩ : Mv) = .tuple #[.string ⟨#[]⟩, .int .i64 4] := by unfold textR; rw [if_neg hok]
          rw [hr] at hTm
          have HTM := Lib.hid hTm
          clear hTm hr hok HO
          unfold mvV at HTM
          obtain ⟨h1, h2, h3⟩ := HPZ.out
          obtain ⟨⟨c0, c1, c2, c3⟩, -, -⟩ := four_c h2
          clear h1 h2 h3
          go_upto_region 21 with (go_at_call 43; refine (HTM.out _).mono ?_; rintro e X9 ⟨rfl, hb9⟩)
          clear c0 c1 c2 c3
          obtain ⟨h1, h2, h3⟩ := HPZ.out.call hb9
          obtain ⟨⟨q0, q1, q2, q3⟩, ⟨f0, f1, f2, f3⟩, -⟩ := four_c h1
          clear h1 h2
          go_wp2
          refine bodyPost_ret (v := .tuple #[.agg #[.int .i64 0, .int .i64 0, .int .u8 0, .int .i64 0], .int .i64 4]) (by simp [results, Tryz.results44, go_sem, q0, q1, q2, q3]) rfl ⟨by rw [HR.out], ?_⟩
          exact below4s h3 (Nat.le_refl _)
    · have hst : ¬ cq :: tq = [33, 42] := by intro e; injection e with e1 e2; exact g3 e1
      rw [hk, if_neg hst] at hRQ
      have HO := Lib.hid hRQ
      rw [decide_eq_false hst] at he3
      have y1 : ((cq.toNat : Int) == 63) = false := by rw [beq_eq_false_iff_ne]; intro e; exact g1 (UInt8.toNat_inj.1 (by have e9 : (63 : UInt8).toNat = 63 := rfl; omega))
      have y2 : ((cq.toNat : Int) == 61) = false := by rw [beq_eq_false_iff_ne]; intro e; exact g2 (UInt8.toNat_inj.1 (by have e9 : (61 : UInt8).toNat = 61 := rfl; omega))
      have y3 : ((cq.toNat : Int) == 33) = false := by rw [beq_eq_false_iff_ne]; intro e; exact g3 (UInt8.toNat_inj.1 (by have e9 : (33 : UInt8).toNat = 33 := rfl; omega))
      clear hst hk g1 g2 g3 hRQ
      generalize (cq.toNat : Int) = y at *
      generalize strB (cq :: tq) = Q at *
      have HPK := HPS
      go_upto_region 17 with (fail)
      generalize X3 = X4 at *
      go_upto_region 18 with (go_at_call 100; refine (HDT.out _).mono ?_; rintro e X5 ⟨rfl, hb5⟩; have HP5 := Lib.hid (HPK.out.call hb5); obtain ⟨h1, h2, h3⟩ := HP5.out; obtain ⟨⟨c0, c1, c2, c3⟩, ⟨f0, f1, f2, f3⟩, hl⟩ := four_c h2; clear h1 h2 h3)
      have HPN := Lib.hid (HP5.out.setN (valD (digL tq)))
      generalize X5.setCell ⟨w.heap.size + 1, 3, none⟩ (.int .i64 (valD (digL tq))) = X6 at *
      clear c0 c1 c2 c3 f0 f1 f2 f3 hl hb5 HP5 HPK HPS HDT
      go_upto_region 20 with (fail)
      have HPZ := HPN
      have hmk := refO_ok HO.out
      have hTm := fun V => HT.out (⟨valD D, b, 0, valD (digL tq)⟩ : Mv) V hmk
      clear hmk
      by_cases hok : okText (⟨valD D, b, 0, valD (digL tq)⟩ : Mv) = true
      · by_cases hts : textL (⟨valD D, b, 0, valD (digL tq)⟩ : Mv) = s
        · have HR := Lib.hid (show refR s = .tuple #[.agg #[.int .i64 (valD D), .int .i64 b, .int .u8 0, .int .i64 (valD (digL tq))], .int .i64 0] by unfold refR; rw [HO.out]; simp only; rw [if_pos ⟨hok, hts⟩]; rfl)
          have hr : textR (⟨valD D, b, 0, valD (digL tq)⟩ : Mv) = .tuple #[.string (strB s), .int .i64 0] := by unfold textR; rw [if_pos hok, hts]
          rw [hr] at hTm
          have HTM := Lib.hid hTm
          clear hTm hr hts hok HO
          unfold mvV at HTM
          obtain ⟨h1, h2, h3⟩ := HPZ.out
          obtain ⟨⟨c0, c1, c2, c3⟩, -, -⟩ := four_c h2
          clear h1 h2 h3
          go_upto_region 21 with (go_at_call 43; refine (HTM.out _).mono ?_; rintro e X9 ⟨rfl, hb9⟩)
          obtain ⟨h1, h2, h3⟩ := HPZ.out.call hb9
          obtain ⟨⟨q0, q1, q2, q3⟩, ⟨f0, f1, f2, f3⟩, -⟩ := four_c h1
          obtain ⟨⟨d0, d1, d2, d3⟩, -, -⟩ := four_c h2
          clear h1 h2 c0 c1 c2 c3 hb9
          go_wp2
          refine bodyPost_ret (v := .tuple #[.agg #[.int .i64 (valD D), .int .i64 b, .int .u8 0, .int .i64 (valD (digL tq))], .int .i64 0]) (by simp [results, Tryz.results44, go_sem, q0, q1, q2, q3]) rfl ⟨by rw [HR.out], ?_⟩
          exact below4s h3 (Nat.le_refl _)
        · have HR := Lib.hid (show refR s = .tuple #[.agg #[.int .i64 0, .int .i64 0, .int .u8 0, .int .i64 0], .int .i64 4] by unfold refR; rw [HO.out]; simp only; rw [if_neg (fun h => hts h.2)]; rfl)
          have hr : textR (⟨valD D, b, 0, valD (digL tq)⟩ : Mv) = .tuple #[.string (strB (textL (⟨valD D, b, 0, valD (digL tq)⟩ : Mv))), .int .i64 0] := by unfold textR; rw [if_pos hok]
          rw [hr] at hTm
          have he2 : ((strB (textL (⟨valD D, b, 0, valD (digL tq)⟩ : Mv))).toList == (strB s).toList) = false := by
            rw [ByteArray.toList_eq, ByteArray.toList_eq, strB_toList, strB_toList]
            simpa using hts
          have HTM := Lib.hid hTm
          clear hTm hr hts hok HO
          generalize strB (textL (⟨valD D, b, 0, valD (digL tq)⟩ : Mv)) = st at *
          unfold mvV at HTM
          obtain ⟨h1, h2, h3⟩ := HPZ.out
          obtain ⟨⟨c0, c1, c2, c3⟩, -, -⟩ := four_c h2
          clear h1 h2 h3
          go_upto_region 21 with (go_at_call 43; refine (HTM.out _).mono ?_; rintro e X9 ⟨rfl, hb9⟩)
          clear c0 c1 c2 c3
          obtain ⟨h1, h2, h3⟩ := HPZ.out.call hb9
          obtain ⟨⟨q0, q1, q2, q3⟩, ⟨f0, f1, f2, f3⟩, -⟩ := four_c h1
          clear h1 h2
          go_wp2
          refine bodyPost_ret (v := .tuple #[.agg #[.int .i64 0, .int .i64 0, .int .u8 0, .int .i64 0], .int .i64 4]) (by simp [results, Tryz.results44, go_sem, q0, q1, q2, q3]) rfl ⟨by rw [HR.out], ?_⟩
          exact below4s h3 (Nat.le_refl _)
      · have HR := Lib.hid (show refR s = .tuple #[.agg #[.int .i64 0, .int .i64 0, .int .u8 0, .int .i64 0], .int .i64 4] by unfold refR; rw [HO.out]; simp only; rw [if_neg (fun h => hok h.1)]; rfl)
        have hr : textR (⟨valD D, b, 0, valD (digL tq)⟩ : Mv) = .tuple #[.string ⟨#[]⟩, .int .i64 4] := by unfold textR; rw [if_neg hok]
        rw [hr] at hTm
        have HTM := Lib.hid hTm
        clear hTm hr hok HO
        unfold mvV at HTM
        obtain ⟨h1, h2, h3⟩ := HPZ.out
        obtain ⟨⟨c0, c1, c2, c3⟩, -, -⟩ := four_c h2
        clear h1 h2 h3
        go_upto_region 21 with (go_at_call 43; refine (HTM.out _).mono ?_; rintro e X9 ⟨rfl, hb9⟩)
        clear c0 c1 c2 c3
        obtain ⟨h1, h2, h3⟩ := HPZ.out.call hb9
        obtain ⟨⟨q0, q1, q2, q3⟩, ⟨f0, f1, f2, f3⟩, -⟩ := four_c h1
        clear h1 h2
        go_wp2
        refine bodyPost_ret (v := .tuple #[.agg #[.int .i64 0, .int .i64 0, .int .u8 0, .int .i64 0], .int .i64 4]) (by simp [results, Tryz.results44, go_sem, q0, q1, q2, q3]) rfl ⟨by rw [HR.out], ?_⟩
        exact below4s h3 (Nat.le_refl _)

end Go.Proofs.YtoncdnelacolaaaGreatDoor.Ar

namespace Go.Proofs.YtoncdnelacolaaaGreatDoor.Ar
open Go Go.Proofs Go.RowKit Go.Sort Lx Ps

theorem digL_19 (s : List UInt8) : (digL s).length ≤ 19 := by unfold digL; rw [List.length_take]; omega
set_option maxRecDepth 100000 in
set_option maxHeartbeats 4000000 in
theorem refParse_dot (s : List UInt8) (w : World) (hdot : (s.drop (digL s).length).head? = some 46) :
    Calls Tryz.prog 44 #[.string (strB s)] w fun e w' => e = .returned (refR s) ∧ Below w.heap.size w w' := by
  have HD := Lib.hid (fun (l : List UInt8) V => digits_any l V)
  have HT := Lib.hid (fun (m : Mv) V (h : MvOk m) => refText_any m V h)
  have hP := PSt.start w
  have HSL := Lib.hid (fun (l : List UInt8) (k : Nat) (h : k ≤ l.length) => slice_from h)
  have HIX := Lib.hid (fun (l : List UInt8) (k : Nat) (c : UInt8) (h : l[k]? = some c) => index_at h)
  have hd1 := digL_le s
  have hRO : refO s = match (refQ s).2 with
    | [] => none
    | c :: t => some ⟨valD (digL s), (refQ s).1, kindB c, if (refQ s).2 = [33, 42] then -1 else valD (digL t)⟩ := rfl
  have hQ : refQ s = if (s.drop (digL s).length).head? = some 46 then (valD (digL ((s.drop (digL s).length).drop 1)), (s.drop (digL s).length).drop (1 + (digL ((s.drop (digL s).length).drop 1)).length)) else (0, s.drop (digL s).length) := rfl
  have HRO := Lib.hid hRO
  have HQ := Lib.hid hQ
  have hD1 := HD.out s
  have hs1 := HSL.out s (digL s).length hd1
  clear hRO hQ hd1
  generalize digL s = D at *
  generalize s.drop D.length = r1 at *
  go_enter Tryz.func44, Tryz.ntmps44
  go_upto_region 2 with (fail)
  generalize (w.alloc (.cells #[.int .i64 0, .int .i64 0, .int .u8 0, .int .i64 0] 40)).alloc (.cells #[.int .i64 0, .int .i64 0, .int .u8 0, .int .i64 0] 40) = X0 at hP ⊢
  go_upto_region 4 with (go_at_call 100; refine (hD1 _).mono ?_; rintro e X1 ⟨rfl, hb1⟩)
  have hP1 := hP.call hb1
  clear hP hb1 hD1
  obtain ⟨h1, h2, h3⟩ := hP1
  have HP1 := Lib.hid (show PSt w X1 0 0 0 0 from ⟨h1, h2, h3⟩)
  obtain ⟨⟨c0, c1, c2, c3⟩, ⟨f0, f1, f2, f3⟩, hl⟩ := four_c h2
  clear h1 h2 h3
  refine wp_region_chain (fun _ => True) [(true, 0), (true, 1), (true, 2), (true, 3), (true, 4), (false, 5), (true, 6)] (by kernel_rfl) (by kernel_rfl) (by kernel_rfl) (by kernel_rfl) (by intro d v c a w h; cases d <;> exact h) trivial ?_
  simp only [chainOps, List.filterMap_cons, List.filterMap_nil, List.getElem?_toArray, List.getElem?_cons_zero, List.getElem?_cons_succ, Option.map_some]
  repeat (first
    | (refine chain_skip (by rfl) ?_
       try simp only [Act.put, List.setIfInBounds_toArray, List.set_cons_zero, List.set_cons_succ])
    | (apply chain_take (by rfl)
       · (intro w' hSw; (try dsimp only at hSw); go_simp; try with_reducible rfl)
       try simp only [Act.put, List.setIfInBounds_toArray, List.set_cons_zero, List.set_cons_succ]))
  refine chain_act (fun KK hKK => ?_)
  go_simp
  refine hKK.out _ _ trivial ?_
  clear hKK KK
  try simp only [Act.put, List.setIfInBounds_toArray, List.set_cons_zero, List.set_cons_succ]
  repeat (first
    | (refine chain_skip (by rfl) ?_
       try simp only [Act.put, List.setIfInBounds_toArray, List.set_cons_zero, List.set_cons_succ])
    | (apply chain_take (by rfl)
       · (intro w' hSw; (try dsimp only at hSw); go_simp; try with_reducible rfl)
       try simp only [Act.put, List.setIfInBounds_toArray, List.set_cons_zero, List.set_cons_succ]))
  refine chain_nil ?_
  have hP2 := (HP1.out.setA (valD D)).call (X' := (X1.setCell ⟨w.heap.size + 1, 0, none⟩ (.int .i64 (valD D))).drew) ⟨rfl, rfl, rfl, Nat.le_refl _, fun _ _ => rfl⟩
  generalize (X1.setCell ⟨w.heap.size + 1, 0, none⟩ (.int .i64 (valD D))).drew = X2 at *
  have HP2 := Lib.hid hP2
  clear hP2 c0 c1 c2 c3 f0 f1 f2 f3 hl HP1 hs1
  have hsz := strB_size r1
  obtain ⟨t1, rfl⟩ : ∃ t1, r1 = 46 :: t1 := by
    cases r1 with
    | nil => cases hdot
    | cons c t1 => simp at hdot; exact ⟨t1, by rw [hdot]⟩
  have hq : refQ s = (valD (digL t1), (46 :: t1).drop (1 + (digL t1).length)) := by rw [HQ.out, if_pos hdot]; rfl
  have hRQ := HRO.out
  rw [hq] at hRQ
  dsimp only at hRQ
  have HRQ := Lib.hid hRQ
  clear hq hRQ HRO HQ hdot
  have hix0 : ∀ W, (Instr.index 9 (.string (strB (46 :: t1))) (.int .i64 0)).run Tryz.prog W = .ok (.int .u8 46) W := HIX.out (46 :: t1) 0 46 rfl
  have hs1 : (strB (46 :: t1)).size = t1.length + 1 := by rw [strB_size]; rfl
  have hsl1 : ∀ W, (Instr.slice 9 (.string (strB (46 :: t1))) (some (.int .i64 1)) none none).run Tryz.prog W = .ok (.string (strB t1)) W := HSL.out (46 :: t1) 1 (by simp)
  have hd2 := digL_le t1
  have hd19 := digL_19 t1
  have hsl2 : ∀ W, (Instr.slice 9 (.string (strB (46 :: t1))) (some (.int .i64 (1 + ((digL t1).length : Int)))) none none).run Tryz.prog W = .ok (.string (strB ((46 :: t1).drop (1 + (digL t1).length)))) W := fun W => by
    have h9 := HSL.out (46 :: t1) (1 + (digL t1).length) (by simp; omega) W
    have e9 : ((1 + (digL t1).length : Nat) : Int) = 1 + ((digL t1).length : Int) := by omega
    rw [e9] at h9
    exact h9
  have hw2 : IntKind.i64.wrap (1 + ((digL t1).length : Int)) = 1 + ((digL t1).length : Int) := IntWalk.i64_in _ (by omega)
  have HDD := Lib.hid (HD.out t1)
  clear hd2 hd19
  generalize (46 :: t1).drop (1 + (digL t1).length) = q at *
  generalize digL t1 = D2 at *
  go_upto_region 7 with (go_at_call 100; refine (HDD.out _).mono ?_; rintro e Y1 ⟨rfl, hb1⟩; have HPY := Lib.hid (HP2.out.call hb1))
  clear hb1 HDD hix0 hsl1
  obtain ⟨h1, h2, h3⟩ := HPY.out
  obtain ⟨⟨c0, c1, c2, c3⟩, ⟨f0, f1, f2, f3⟩, hl⟩ := four_c h2
  clear h1 h2 h3
  refine wp_region_chain (fun _ => True) [(true, 0), (true, 1), (true, 2), (true, 3), (true, 4), (true, 5), (false, 6), (true, 7)] (by kernel_rfl) (by kernel_rfl) (by kernel_rfl) (by kernel_rfl) (by intro d v c a w h; cases d <;> exact h) trivial ?_
  simp only [chainOps, List.filterMap_cons, List.filterMap_nil, List.getElem?_toArray, List.getElem?_cons_zero, List.getElem?_cons_succ, Option.map_some]
  repeat (first
    | (refine chain_skip (by rfl) ?_
       try simp only [Act.put, List.setIfInBounds_toArray, List.set_cons_zero, List.set_cons_succ])
    | (apply chain_take (by rfl)
       · (intro w' hSw; (try dsimp only at hSw); go_simp; try with_reducible rfl)
       try simp only [Act.put, List.setIfInBounds_toArray, List.set_cons_zero, List.set_cons_succ]))
  refine chain_act (fun KK hKK => ?_)
  go_simp
  refine hKK.out _ _ trivial ?_
  clear hKK KK
  try simp only [Act.put, List.setIfInBounds_toArray, List.set_cons_zero, List.set_cons_succ]
  repeat (first
    | (refine chain_skip (by rfl) ?_
       try simp only [Act.put, List.setIfInBounds_toArray, List.set_cons_zero, List.set_cons_succ])
    | (apply chain_take (by rfl)
       · (intro w' hSw; (try dsimp only at hSw); go_simp; try with_reducible rfl)
       try simp only [Act.put, List.setIfInBounds_toArray, List.set_cons_zero, List.set_cons_succ]))
  refine chain_nil ?_
  have hPB := (HPY.out.setB (valD D2)).call (X' := (Y1.setCell ⟨w.heap.size + 1, 1, none⟩ (.int .i64 (valD D2))).drew) ⟨rfl, rfl, rfl, Nat.le_refl _, fun _ _ => rfl⟩
  generalize (Y1.setCell ⟨w.heap.size + 1, 1, none⟩ (.int .i64 (valD D2))).drew = X3 at *
  obtain ⟨b, hbb⟩ : ∃ b : Int, b = valD D2 := ⟨_, rfl⟩
  rw [← hbb] at HRQ hPB
  have HPS := Lib.hid hPB
  clear hPB hbb hsl2 hw2 c0 c1 c2 c3 f0 f1 f2 f3 hl HPY HP2 hs1
  cases q with
  | nil =>
    have hs0 : (strB ([] : List UInt8)).size = 0 := rfl
    have HR := Lib.hid (show refR s = .tuple #[.agg #[.int .i64 0, .int .i64 0, .int .u8 0, .int .i64 0], .int .i64 4] by unfold refR; rw [HRQ.out]; rfl)
    have he : ((strB ([] : List UInt8)).toList == []) = true := by rw [ByteArray.toList_eq]; rfl
    have he1 : strB ([] : List UInt8) = ⟨#[]⟩ := rfl
    rw [he1] at *
    obtain ⟨h1, h2, h3⟩ := HPS.out
    obtain ⟨⟨q0, q1, q2, q3⟩, ⟨f0, f1, f2, f3⟩, -⟩ := four_c h1
    clear h1 h2
    go_wp2
    refine bodyPost_ret (v := .tuple #[.agg #[.int .i64 0, .int .i64 0, .int .u8 0, .int .i64 0], .int .i64 4]) (by simp [results, Tryz.results44, go_sem, q0, q1, q2, q3]) rfl ⟨by rw [HR.out], ?_⟩
    exact below4s h3 (Nat.le_refl _)
  | cons cq tq =>
    have hix := HIX.out (cq :: tq) 0 cq rfl
    have hix' : ∀ W, (Instr.index 9 (.string (strB (cq :: tq))) (.int .i64 0)).run Tryz.prog W = .ok (.int .u8 (cq.toNat : Int)) W := hix
    have hsl' : ∀ W, (Instr.slice 9 (.string (strB (cq :: tq))) (some (.int .i64 1)) none none).run Tryz.prog W = .ok (.string (strB tq)) W := HSL.out (cq :: tq) 1 (by simp)
    have HDT := Lib.hid (HD.out tq)
    have he2 : ((strB (cq :: tq)).toList == []) = false := by rw [ByteArray.toList_eq, strB_toList]; rfl
    have he3 : ((strB (cq :: tq)).toList == [33, 42]) = decide (cq :: tq = [33, 42]) := by rw [ByteArray.toList_eq, strB_toList, Bool.eq_iff_iff]; simp
    have he4 : (strB (cq :: tq)).isEmpty = false := by rw [ByteArray.isEmpty, strB_size]; simp
    have hkk : (cq = 63 ∧ kindB cq = 1) ∨ (cq = 61 ∧ kindB cq = 2) ∨ (cq = 33 ∧ kindB cq = 3) ∨ (cq ≠ 63 ∧ cq ≠ 61 ∧ cq ≠ 33 ∧ kindB cq = 0) := by
      unfold kindB
      by_cases g1 : cq = 63
      · exact .inl ⟨g1, by rw [if_pos g1]⟩
      · by_cases g2 : cq = 61
        · exact .inr (.inl ⟨g2, by rw [if_neg g1, if_pos g2]⟩)
        · by_cases g3 : cq = 33
          · exact .inr (.inr (.inl ⟨g3, by rw [if_neg g1, if_neg g2, if_pos g3]⟩))
          · exact .inr (.inr (.inr ⟨g1, g2, g3, by rw [if_neg g1, if_neg g2, if_neg g3]⟩))
    have hRQ := HRQ.out
    dsimp only at hRQ
    clear hix HRQ
    rcases hkk with ⟨g, hk⟩ | ⟨g, hk⟩ | ⟨g, hk⟩ | ⟨g1, g2, g3, hk⟩
    · have hst : ¬ cq :: tq = [33, 42] := by intro e; rw [g] at e; cases e
      rw [hk, if_neg hst] at hRQ
      have HO := Lib.hid hRQ
      rw [decide_eq_false hst] at he3
      have hy : (cq.toNat : Int) = 63 := by rw [g]; rfl
      rw [hy] at hix'
      clear hst hk g hy hRQ
      generalize strB (cq :: tq) = Q at *
      obtain ⟨h1, h2, h3⟩ := HPS.out
      obtain ⟨⟨c0, c1, c2, c3⟩, ⟨f0, f1, f2, f3⟩, hl⟩ := four_c h2
      clear h1 h2 h3
      go_upto_region 17 with (fail)
      have HPK := Lib.hid (HPS.out.setK 1)
      generalize X3.setCell ⟨w.heap.size + 1, 2, none⟩ (.int .u8 1) = X4 at *
      clear c0 c1 c2 c3 f0 f1 f2 f3 hl
      go_upto_region 18 with (go_at_call 100; refine (HDT.out _).mono ?_; rintro e X5 ⟨rfl, hb5⟩; have HP5 := Lib.hid (HPK.out.call hb5); obtain ⟨h1, h2, h3⟩ := HP5.out; obtain ⟨⟨c0, c1, c2, c3⟩, ⟨f0, f1, f2, f3⟩, hl⟩ := four_c h2; clear h1 h2 h3)
      have HPN := Lib.hid (HP5.out.setN (valD (digL tq)))
      generalize X5.setCell ⟨w.heap.size + 1, 3, none⟩ (.int .i64 (valD (digL tq))) = X6 at *
      clear c0 c1 c2 c3 f0 f1 f2 f3 hl hb5 HP5 HPK HPS HDT
      go_upto_region 20 with (fail)
      have HPZ := HPN
      have hmk := refO_ok HO.out
      have hTm := fun V => HT.out (⟨valD D, b, 1, valD (digL tq)⟩ : Mv) V hmk
      clear hmk
      by_cases hok : okText (⟨valD D, b, 1, valD (digL tq)⟩ : Mv) = true
      · by_cases hts : textL (⟨valD D, b, 1, valD (digL tq)⟩ : Mv) = s
        · have HR := Lib.hid (show refR s = .tuple #[.agg #[.int .i64 (valD D), .int .i64 b, .int .u8 1, .int .i64 (valD (digL tq))], .int .i64 0] by unfold refR; rw [HO.out]; simp only; rw [if_pos ⟨hok, hts⟩]; rfl)
          have hr : textR (⟨valD D, b, 1, valD (digL tq)⟩ : Mv) = .tuple #[.string (strB s), .int .i64 0] := by unfold textR; rw [if_pos hok, hts]
          rw [hr] at hTm
          have HTM := Lib.hid hTm
          clear hTm hr hts hok HO
          unfold mvV at HTM
          obtain ⟨h1, h2, h3⟩ := HPZ.out
          obtain ⟨⟨c0, c1, c2, c3⟩, -, -⟩ := four_c h2
          clear h1 h2 h3
          go_upto_region 21 with (go_at_call 43; refine (HTM.out _).mono ?_; rintro e X9 ⟨rfl, hb9⟩)
          obtain ⟨h1, h2, h3⟩ := HPZ.out.call hb9
          obtain ⟨⟨q0, q1, q2, q3⟩, ⟨f0, f1, f2, f3⟩, -⟩ := four_c h1
          obtain ⟨⟨d0, d1, d2, d3⟩, -, -⟩ := four_c h2
          clear h1 h2 c0 c1 c2 c3 hb9
          go_wp2
          refine bodyPost_ret (v := .tuple #[.agg #[.int .i64 (valD D), .int .i64 b, .int .u8 1, .int .i64 (valD (digL tq))], .int .i64 0]) (by simp [results, Tryz.results44, go_sem, q0, q1, q2, q3]) rfl ⟨by rw [HR.out], ?_⟩
          exact below4s h3 (Nat.le_refl _)
        · have HR := Lib.hid (show refR s = .tuple #[.agg #[.int .i64 0, .int .i64 0, .int .u8 0, .int .i64 0], .int .i64 4] by unfold refR; rw [HO.out]; simp only; rw [if_neg (fun h => hts h.2)]; rfl)
          have hr : textR (⟨valD D, b, 1, valD (digL tq)⟩ : Mv) = .tuple #[.string (strB (textL (⟨valD D, b, 1, valD (digL tq)⟩ : Mv))), .int .i64 0] := by unfold textR; rw [if_pos hok]
          rw [hr] at hTm
          have he2 : ((strB (textL (⟨valD D, b, 1, valD (digL tq)⟩ : Mv))).toList == (strB s).toList) = false := by
            rw [ByteArray.toList_eq, ByteArray.toList_eq, strB_toList, strB_toList]
            simpa using hts
          have HTM := Lib.hid hTm
          clear hTm hr hts hok HO
          generalize strB (textL (⟨valD D, b, 1, valD (digL tq)⟩ : Mv)) = st at *
          unfold mvV at HTM
          obtain ⟨h1, h2, h3⟩ := HPZ.out
          obtain ⟨⟨c0, c1, c2, c3⟩, -, -⟩ := four_c h2
          clear h1 h2 h3
          go_upto_region 21 with (go_at_call 43; refine (HTM.out _).mono ?_; rintro e X9 ⟨rfl, hb9⟩)
          clear c0 c1 c2 c3
          obtain ⟨h1, h2, h3⟩ := HPZ.out.call hb9
          obtain ⟨⟨q0, q1, q2, q3⟩, ⟨f0, f1, f2, f3⟩, -⟩ := four_c h1
          clear h1 h2
          go_wp2
          refine bodyPost_ret (v := .tuple #[.agg #[.int .i64 0, .int .i64 0, .int .u8 0, .int .i64 0], .int .i64 4]) (by simp [results, Tryz.results44, go_sem, q0, q1, q2, q3]) rfl ⟨by rw [HR.out], ?_⟩
          exact below4s h3 (Nat.le_refl _)
      · have HR := Lib.hid (show refR s = .tuple #[.agg #[.int .i64 0, .int .i64 0, .int .u8 0, .int .i64 0], .int .i64 4] by unfold refR; rw [HO.out]; simp only; rw [if_neg (fun h => hok h.1)]; rfl)
        have hr : textR (⟨valD D, b, 1, valD (digL tq)⟩ : Mv) = .tuple #[.string ⟨#[]⟩, .int .i64 4] := by unfold textR; rw [if_neg hok]
        rw [hr] at hTm
        have HTM := Lib.hid hTm
        clear hTm hr hok HO
        unfold mvV at HTM
        obtain ⟨h1, h2, h3⟩ := HPZ.out
        obtain ⟨⟨c0, c1, c2, c3⟩, -, -⟩ := four_c h2
        clear h1 h2 h3
        go_upto_region 21 with (go_at_call 43; refine (HTM.out _).mono ?_; rintro e X9 ⟨rfl, hb9⟩)
        clear c0 c1 c2 c3
        obtain ⟨h1, h2, h3⟩ := HPZ.out.call hb9
        obtain ⟨⟨q0, q1, q2, q3⟩, ⟨f0, f1, f2, f3⟩, -⟩ := four_c h1
        clear h1 h2
        go_wp2
        refine bodyPost_ret (v := .tuple #[.agg #[.int .i64 0, .int .i64 0, .int .u8 0, .int .i64 0], .int .i64 4]) (by simp [results, Tryz.results44, go_sem, q0, q1, q2, q3]) rfl ⟨by rw [HR.out], ?_⟩
        exact below4s h3 (Nat.le_refl _)
    · have hst : ¬ cq :: tq = [33, 42] := by intro e; rw [g] at e; cases e
      rw [hk, if_neg hst] at hRQ
      have HO := Lib.hid hRQ
      rw [decide_eq_false hst] at he3
      have hy : (cq.toNat : Int) = 61 := by rw [g]; rfl
      rw [hy] at hix'
      clear hst hk g hy hRQ
      generalize strB (cq :: tq) = Q at *
      obtain ⟨h1, h2, h3⟩ := HPS.out
      obtain ⟨⟨c0, c1, c2, c3⟩, ⟨f0, f1, f2, f3⟩, hl⟩ := four_c h2
      clear h1 h2 h3
      go_upto_region 17 with (fail)
      have HPK := Lib.hid (HPS.out.setK 2)
      generalize X3.setCell ⟨w.heap.size + 1, 2, none⟩ (.int .u8 2) = X4 at *
      clear c0 c1 c2 c3 f0 f1 f2 f3 hl
      go_upto_region 18 with (go_at_call 100; refine (HDT.out _).mono ?_; rintro e X5 ⟨rfl, hb5⟩; have HP5 := Lib.hid (HPK.out.call hb5); obtain ⟨h1, h2, h3⟩ := HP5.out; obtain ⟨⟨c0, c1, c2, c3⟩, ⟨f0, f1, f2, f3⟩, hl⟩ := four_c h2; clear h1 h2 h3)
      have HPN := Lib.hid (HP5.out.setN (valD (digL tq)))
      generalize X5.setCell ⟨w.heap.size + 1, 3, none⟩ (.int .i64 (valD (digL tq))) = X6 at *
      clear c0 c1 c2 c3 f0 f1 f2 f3 hl hb5 HP5 HPK HPS HDT
      go_upto_region 20 with (fail)
      have HPZ := HPN
      have hmk := refO_ok HO.out
      have hTm := fun V => HT.out (⟨valD D, b, 2, valD (digL tq)⟩ : Mv) V hmk
      clear hmk
      by_cases hok : okText (⟨valD D, b, 2, valD (digL tq)⟩ : Mv) = true
      · by_cases hts : textL (⟨valD D, b, 2, valD (digL tq)⟩ : Mv) = s
        · have HR := Lib.hid (show refR s = .tuple #[.agg #[.int .i64 (valD D), .int .i64 b, .int .u8 2, .int .i64 (valD (digL tq))], .int .i64 0] by unfold refR; rw [HO.out]; simp only; rw [if_pos ⟨hok, hts⟩]; rfl)
          have hr : textR (⟨valD D, b, 2, valD (digL tq)⟩ : Mv) = .tuple #[.string (strB s), .int .i64 0] := by unfold textR; rw [if_pos hok, hts]
          rw [hr] at hTm
          have HTM := Lib.hid hTm
          clear hTm hr hts hok HO
          unfold mvV at HTM
          obtain ⟨h1, h2, h3⟩ := HPZ.out
          obtain ⟨⟨c0, c1, c2, c3⟩, -, -⟩ := four_c h2
          clear h1 h2 h3
          go_upto_region 21 with (go_at_call 43; refine (HTM.out _).mono ?_; rintro e X9 ⟨rfl, hb9⟩)
          obtain ⟨h1, h2, h3⟩ := HPZ.out.call hb9
          obtain ⟨⟨q0, q1, q2, q3⟩, ⟨f0, f1, f2, f3⟩, -⟩ := four_c h1
          obtain ⟨⟨d0, d1, d2, d3⟩, -, -⟩ := four_c h2
          clear h1 h2 c0 c1 c2 c3 hb9
          go_wp2
          refine bodyPost_ret (v := .tuple #[.agg #[.int .i64 (valD D), .int .i64 b, .int .u8 2, .int .i64 (valD (digL tq))], .int .i64 0]) (by simp [results, Tryz.results44, go_sem, q0, q1, q2, q3]) rfl ⟨by rw [HR.out], ?_⟩
          exact below4s h3 (Nat.le_refl _)
        · have HR := Lib.hid (show refR s = .tuple #[.agg #[.int .i64 0, .int .i64 0, .int .u8 0, .int .i64 0], .int .i64 4] by unfold refR; rw [HO.out]; simp only; rw [if_neg (fun h => hts h.2)]; rfl)
          have hr : textR (⟨valD D, b, 2, valD (digL tq)⟩ : Mv) = .tuple #[.string (strB (textL (⟨valD D, b, 2, valD (digL tq)⟩ : Mv))), .int .i64 0] := by unfold textR; rw [if_pos hok]
          rw [hr] at hTm
          have he2 : ((strB (textL (⟨valD D, b, 2, valD (digL tq)⟩ : Mv))).toList == (strB s).toList) = false := by
            rw [ByteArray.toList_eq, ByteArray.toList_eq, strB_toList, strB_toList]
            simpa using hts
          have HTM := Lib.hid hTm
          clear hTm hr hts hok HO
          generalize strB (textL (⟨valD D, b, 2, valD (digL tq)⟩ : Mv)) = st at *
          unfold mvV at HTM
          obtain ⟨h1, h2, h3⟩ := HPZ.out
          obtain ⟨⟨c0, c1, c2, c3⟩, -, -⟩ := four_c h2
          clear h1 h2 h3
          go_upto_region 21 with (go_at_call 43; refine (HTM.out _).mono ?_; rintro e X9 ⟨rfl, hb9⟩)
          clear c0 c1 c2 c3
          obtain ⟨h1, h2, h3⟩ := HPZ.out.call hb9
          obtain ⟨⟨q0, q1, q2, q3⟩, ⟨f0, f1, f2, f3⟩, -⟩ := four_c h1
          clear h1 h2
          go_wp2
          refine bodyPost_ret (v := .tuple #[.agg #[.int .i64 0, .int .i64 0, .int .u8 0, .int .i64 0], .int .i64 4]) (by simp [results, Tryz.results44, go_sem, q0, q1, q2, q3]) rfl ⟨by rw [HR.out], ?_⟩
          exact below4s h3 (Nat.le_refl _)
      · have HR := Lib.hid (show refR s = .tuple #[.agg #[.int .i64 0, .int .i64 0, .int .u8 0, .int .i64 0], .int .i64 4] by unfold refR; rw [HO.out]; simp only; rw [if_neg (fun h => hok h.1)]; rfl)
        have hr : textR (⟨valD D, b, 2, valD (digL tq)⟩ : Mv) = .tuple #[.string ⟨#[]⟩, .int .i64 4] := by unfold textR; rw [if_neg hok]
        rw [hr] at hTm
        have HTM := Lib.hid hTm
        clear hTm hr hok HO
        unfold mvV at HTM
        obtain ⟨h1, h2, h3⟩ := HPZ.out
        obtain ⟨⟨c0, c1, c2, c3⟩, -, -⟩ := four_c h2
        clear h1 h2 h3
        go_upto_region 21 with (go_at_call 43; refine (HTM.out _).mono ?_; rintro e X9 ⟨rfl, hb9⟩)
        clear c0 c1 c2 c3
        obtain ⟨h1, h2, h3⟩ := HPZ.out.call hb9
        obtain ⟨⟨q0, q1, q2, q3⟩, ⟨f0, f1, f2, f3⟩, -⟩ := four_c h1
        clear h1 h2
        go_wp2
        refine bodyPost_ret (v := .tuple #[.agg #[.int .i64 0, .int .i64 0, .int .u8 0, .int .i64 0], .int .i64 4]) (by simp [results, Tryz.results44, go_sem, q0, q1, q2, q3]) rfl ⟨by rw [HR.out], ?_⟩
        exact below4s h3 (Nat.le_refl _)
    · have hy : (cq.toNat : Int) = 33 := by rw [g]; rfl
      rw [hy] at hix'
      rw [hk] at hRQ
      clear hk g hy
      by_cases hst : cq :: tq = [33, 42]
      · rw [if_pos hst] at hRQ
        have HO := Lib.hid hRQ
        rw [decide_eq_true hst] at he3
        clear hst hRQ
        generalize strB (cq :: tq) = Q at *
        obtain ⟨h1, h2, h3⟩ := HPS.out
        obtain ⟨⟨c0, c1, c2, c3⟩, ⟨f0, f1, f2, f3⟩, hl⟩ := four_c h2
        clear h1 h2 h3
        go_upto_region 17 with (fail)
        have HPK := Lib.hid (HPS.out.setK 3)
        generalize X3.setCell ⟨w.heap.size + 1, 2, none⟩ (.int .u8 3) = X4 at *
        clear c0 c1 c2 c3 f0 f1 f2 f3 hl
        go_upto_region 18 with (go_at_call 100; refine (HDT.out _).mono ?_; rintro e X5 ⟨rfl, hb5⟩; have HP5 := Lib.hid (HPK.out.call hb5); obtain ⟨h1, h2, h3⟩ := HP5.out; obtain ⟨⟨c0, c1, c2, c3⟩, ⟨f0, f1, f2, f3⟩, hl⟩ := four_c h2; clear h1 h2 h3)
        have HPN := Lib.hid (HP5.out.setN (valD (digL tq)))
        generalize X5.setCell ⟨w.heap.size + 1, 3, none⟩ (.int .i64 (valD (digL tq))) = X6 at *
        clear c0 c1 c2 c3 f0 f1 f2 f3 hl hb5 HP5 HPK HPS HDT
        obtain ⟨h1, h2, h3⟩ := HPN.out
        obtain ⟨⟨c0, c1, c2, c3⟩, ⟨f0, f1, f2, f3⟩, hl⟩ := four_c h2
        clear h1 h2 h3
        go_upto_region 20 with (fail)
        have HPZ := Lib.hid (HPN.out.setN (-1))
        generalize X6.setCell ⟨w.heap.size + 1, 3, none⟩ (.int .i64 (-1)) = X7 at *
        clear c0 c1 c2 c3 f0 f1 f2 f3 hl
        have hmk := refO_ok HO.out
        have hTm := fun V => HT.out (⟨valD D, b, 3, -1⟩ : Mv) V hmk
        clear hmk
        by_cases hok : okText (⟨valD D, b, 3, -1⟩ : Mv) = true
        · by_cases hts : textL (⟨valD D, b, 3, -1⟩ : Mv) = s
          · have HR := Lib.hid (show refR s = .tuple #[.agg #[.int .i64 (valD D), .int .i64 b, .int .u8 3, .int .i64 (-1)], .int .i64 0] by unfold refR; rw [HO.out]; simp only; rw [if_pos ⟨hok, hts⟩]; rfl)
            have hr : textR (⟨valD D, b, 3, -1⟩ : Mv) = .tuple #[.string (strB s), .int .i64 0] := by unfold textR; rw [if_pos hok, hts]
            rw [hr] at hTm
            have HTM := Lib.hid hTm
            clear hTm hr hts hok HO
            unfold mvV at HTM
            obtain ⟨h1, h2, h3⟩ := HPZ.out
            obtain ⟨⟨c0, c1, c2, c3⟩, -, -⟩ := four_c h2
            clear h1 h2 h3
            go_upto_region 21 with (go_at_call 43; refine (HTM.out _).mono ?_; rintro e X9 ⟨rfl, hb9⟩)
            obtain ⟨h1, h2, h3⟩ := HPZ.out.call hb9
            obtain ⟨⟨q0, q1, q2, q3⟩, ⟨f0, f1, f2, f3⟩, -⟩ := four_c h1
            obtain ⟨⟨d0, d1, d2, d3⟩, -, -⟩ := four_c h2
            clear h1 h2 c0 c1 c2 c3 hb9
            go_wp2
            refine bodyPost_ret (v := .tuple #[.agg #[.int .i64 (valD D), .int .i64 b, .int .u8 3, .int .i64 (-1)], .int .i64 0]) (by simp [results, Tryz.results44, go_sem, q0, q1, q2, q3]) rfl ⟨by rw [HR.out], ?_⟩
            exact below4s h3 (Nat.le_refl _)
          · have HR := Lib.hid (show refR s = .tuple #[.agg #[.int .i64 0, .int .i64 0, .int .u8 0, .int .i64 0], .int .i64 4] by unfold refR; rw [HO.out]; simp only; rw [if_neg (fun h => hts h.2)]; rfl)
            have hr : textR (⟨valD D, b, 3, -1⟩ : Mv) = .tuple #[.string (strB (textL (⟨valD D, b, 3, -1⟩ : Mv))), .int .i64 0] := by unfold textR; rw [if_pos hok]
            rw [hr] at hTm
            have he2 : ((strB (textL (⟨valD D, b, 3, -1⟩ : Mv))).toList == (strB s).toList) = false := by
              rw [ByteArray.toList_eq, ByteArray.toList_eq, strB_toList, strB_toList]
              simpa using hts
            have HTM := Lib.hid hTm
            clear hTm hr hts hok HO
            generalize strB (textL (⟨valD D, b, 3, -1⟩ : Mv)) = st at *
            unfold mvV at HTM
            obtain ⟨h1, h2, h3⟩ := HPZ.out
            obtain ⟨⟨c0, c1, c2, c3⟩, -, -⟩ := four_c h2
            clear h1 h2 h3
            go_upto_region 21 with (go_at_call 43; refine (HTM.out _).mono ?_; rintro e X9 ⟨rfl, hb9⟩)
            clear c0 c1 c2 c3
            obtain ⟨h1, h2, h3⟩ := HPZ.out.call hb9
            obtain ⟨⟨q0, q1, q2, q3⟩, ⟨f0, f1, f2, f3⟩, -⟩ := four_c h1
            clear h1 h2
            go_wp2
            refine bodyPost_ret (v := .tuple #[.agg #[.int .i64 0, .int .i64 0, .int .u8 0, .int .i64 0], .int .i64 4]) (by simp [results, Tryz.results44, go_sem, q0, q1, q2, q3]) rfl ⟨by rw [HR.out], ?_⟩
            exact below4s h3 (Nat.le_refl _)
        · have HR := Lib.hid (show refR s = .tuple #[.agg #[.int .i64 0, .int .i64 0, .int .u8 0, .int .i64 0], .int .i64 4] by unfold refR; rw [HO.out]; simp only; rw [if_neg (fun h => hok h.1)]; rfl)
          have hr : textR (⟨valD D, b, 3, -1⟩ : Mv) = .tuple #[.string ⟨#[]⟩, .int .i64 4] := by unfold textR; rw [if_neg hok]
          rw [hr] at hTm
          have HTM := Lib.hid hTm
          clear hTm hr hok HO
          unfold mvV at HTM
          obtain ⟨h1, h2, h3⟩ := HPZ.out
          obtain ⟨⟨c0, c1, c2, c3⟩, -, -⟩ := four_c h2
          clear h1 h2 h3
          go_upto_region 21 with (go_at_call 43; refine (HTM.out _).mono ?_; rintro e X9 ⟨rfl, hb9⟩)
          clear c0 c1 c2 c3
          obtain ⟨h1, h2, h3⟩ := HPZ.out.call hb9
          obtain ⟨⟨q0, q1, q2, q3⟩, ⟨f0, f1, f2, f3⟩, -⟩ := four_c h1
          clear h1 h2
          go_wp2
          refine bodyPost_ret (v := .tuple #[.agg #[.int .i64 0, .int .i64 0, .int .u8 0, .int .i64 0], .int .i64 4]) (by simp [results, Tryz.results44, go_sem, q0, q1, q2, q3]) rfl ⟨by rw [HR.out], ?_⟩
          exact below4s h3 (Nat.le_refl _)
      · rw [if_neg hst] at hRQ
        have HO := Lib.hid hRQ
        rw [decide_eq_false hst] at he3
        clear hst hRQ
        generalize strB (cq :: tq) = Q at *
        obtain ⟨h1, h2, h3⟩ := HPS.out
        obtain ⟨⟨c0, c1, c2, c3⟩, ⟨f0, f1, f2, f3⟩, hl⟩ := four_c h2
        clear h1 h2 h3
        go_upto_region 17 with (fail)
        have HPK := Lib.hid (HPS.out.setK 3)
        generalize X3.setCell ⟨w.heap.size + 1, 2, none⟩ (.int .u8 3) = X4 at *
        clear c0 c1 c2 c3 f0 f1 f2 f3 hl
        go_upto_region 18 with (go_at_call 100; refine (HDT.out _).mono ?_; rintro e X5 ⟨rfl, hb5⟩; have HP5 := Lib.hid (HPK.out.call hb5); obtain ⟨h1, h2, h3⟩ := HP5.out; obtain ⟨⟨c0, c1, c2, c3⟩, ⟨f0, f1, f2, f3⟩, hl⟩ := four_c h2; clear h1 h2 h3)
        have HPN := Lib.hid (HP5.out.setN (valD (digL tq)))
        generalize X5.setCell ⟨w.heap.size + 1, 3, none⟩ (.int .i64 (valD (digL tq))) = X6 at *
        clear c0 c1 c2 c3 f0 f1 f2 f3 hl hb5 HP5 HPK HPS HDT
        go_upto_region 20 with (fail)
        have HPZ := HPN
        have hmk := refO_ok HO.out
        have hTm := fun V => HT.out (⟨valD D, b, 3, valD (digL tq)⟩ : Mv) V hmk
        clear hmk
        by_cases hok : okText (⟨valD D, b, 3, valD (digL tq)⟩ : Mv) = true
        · by_cases hts : textL (⟨valD D, b, 3, valD (digL tq)⟩ : Mv) = s
          · have HR := Lib.hid (show refR s = .tuple #[.agg #[.int .i64 (valD D), .int .i64 b, .int .u8 3, .int .i64 (valD (digL tq))], .int .i64 0] by unfold refR; rw [HO.out]; simp only; rw [if_pos ⟨hok, hts⟩]; rfl)
            have hr : textR (⟨valD D, b, 3, valD (digL tq)⟩ : Mv) = .tuple #[.string (strB s), .int .i64 0] := by unfold textR; rw [if_pos hok, hts]
            rw [hr] at hTm
            have HTM := Lib.hid hTm
            clear hTm hr hts hok HO
            unfold mvV at HTM
            obtain ⟨h1, h2, h3⟩ := HPZ.out
            obtain ⟨⟨c0, c1, c2, c3⟩, -, -⟩ := four_c h2
            clear h1 h2 h3
            go_upto_region 21 with (go_at_call 43; refine (HTM.out _).mono ?_; rintro e X9 ⟨rfl, hb9⟩)
            obtain ⟨h1, h2, h3⟩ := HPZ.out.call hb9
            obtain ⟨⟨q0, q1, q2, q3⟩, ⟨f0, f1, f2, f3⟩, -⟩ := four_c h1
            obtain ⟨⟨d0, d1, d2, d3⟩, -, -⟩ := four_c h2
            clear h1 h2 c0 c1 c2 c3 hb9
            go_wp2
            refine bodyPost_ret (v := .tuple #[.agg #[.int .i64 (valD D), .int .i64 b, .int .u8 3, .int .i64 (valD (digL tq))], .int .i64 0]) (by simp [results, Tryz.results44, go_sem, q0, q1, q2, q3]) rfl ⟨by rw [HR.out], ?_⟩
            exact below4s h3 (Nat.le_refl _)
          · have HR := Lib.hid (show refR s = .tuple #[.agg #[.int .i64 0, .int .i64 0, .int .u8 0, .int .i64 0], .int .i64 4] by unfold refR; rw [HO.out]; simp only; rw [if_neg (fun h => hts h.2)]; rfl)
            have hr : textR (⟨valD D, b, 3, valD (digL tq)⟩ : Mv) = .tuple #[.string (strB (textL (⟨valD D, b, 3, valD (digL tq)⟩ : Mv))), .int .i64 0] := by unfold textR; rw [if_pos hok]
            rw [hr] at hTm
            have he2 : ((strB (textL (⟨valD D, b, 3, valD (digL tq)⟩ : Mv))).toList == (strB s).toList) = false := by
              rw [ByteArray.toList_eq, ByteArray.toList_eq, strB_toList, strB_toList]
              simpa using hts
            have HTM := Lib.hid hTm
            clear hTm hr hts hok HO
            generalize strB (textL (⟨valD D, b, 3, valD (digL tq)⟩ : Mv)) = st at *
            unfold mvV at HTM
            obtain ⟨h1, h2, h3⟩ := HPZ.out
            obtain ⟨⟨c0, c1, c2, c3⟩, -, -⟩ := four_c h2
            clear h1 h2 h3
            go_upto_region 21 with (go_at_call 43; refine (HTM.out _).mono ?_; rintro e X9 ⟨rfl, hb9⟩)
            clear c0 c1 c2 c3
            obtain ⟨h1, h2, h3⟩ := HPZ.out.call hb9
            obtain ⟨⟨q0, q1, q2, q3⟩, ⟨f0, f1, f2, f3⟩, -⟩ := four_c h1
            clear h1 h2
            go_wp2
            refine bodyPost_ret (v := .tuple #[.agg #[.int .i64 0, .int .i64 0, .int .u8 0, .int .i64 0], .int .i64 4]) (by simp [results, Tryz.results44, go_sem, q0, q1, q2, q3]) rfl ⟨by rw [HR.out], ?_⟩
            exact below4s h3 (Nat.le_refl _)
        · have HR := Lib.hid (show refR s = .tuple #[.agg #[.int .i64 0, .int .i64 0, .int .u8 0, .int .i64 0], .int .i64 4] by unfold refR; rw [HO.out]; simp only; rw [if_neg (fun h => hok h.1)]; rfl)
          have hr : textR (⟨valD D, b, 3, valD (digL tq)⟩ : Mv) = .tuple #[.string ⟨#[]⟩, .int .i64 4] := by unfold textR; rw [if_neg hok]
          rw [hr] at hTm
          have HTM := Lib.hid hTm
          clear hTm hr hok HO
          unfold mvV at HTM
          obtain ⟨h1, h2, h3⟩ := HPZ.out
          obtain ⟨⟨c0, c1, c2, c3⟩, -, -⟩ := four_c h2
          clear h1 h2 h3
          go_upto_region 21 with (go_at_call 43; refine (HTM.out _).mono ?_; rintro e X9 ⟨rfl, hb9⟩)
          clear c0 c1 c2 c3
          obtain ⟨h1, h2, h3⟩ := HPZ.out.call hb9
          obtain ⟨⟨q0, q1, q2, q3⟩, ⟨f0, f1, f2, f3⟩, -⟩ := four_c h1
          clear h1 h2
          go_wp2
          refine bodyPost_ret (v := .tuple #[.agg #[.int .i64 0, .int .i64 0, .int .u8 0, .int .i64 0], .int .i64 4]) (by simp [results, Tryz.results44, go_sem, q0, q1, q2, q3]) rfl ⟨by rw [HR.out], ?_⟩
          exact below4s h3 (Nat.le_refl _)
    · have hst : ¬ cq :: tq = [33, 42] := by intro e; injection e with e1 e2; exact g3 e1
      rw [hk, if_neg hst] at hRQ
      have HO := Lib.hid hRQ
      rw [decide_eq_false hst] at he3
      have y1 : ((cq.toNat : Int) == 63) = false := by rw [beq_eq_false_iff_ne]; intro e; exact g1 (UInt8.toNat_inj.1 (by have e9 : (63 : UInt8).toNat = 63 := rfl; omega))
      have y2 : ((cq.toNat : Int) == 61) = false := by rw [beq_eq_false_iff_ne]; intro e; exact g2 (UInt8.toNat_inj.1 (by have e9 : (61 : UInt8).toNat = 61 := rfl; omega))
      have y3 : ((cq.toNat : Int) == 33) = false := by rw [beq_eq_false_iff_ne]; intro e; exact g3 (UInt8.toNat_inj.1 (by have e9 : (33 : UInt8).toNat = 33 := rfl; omega))
      clear hst hk g1 g2 g3 hRQ
      generalize (cq.toNat : Int) = y at *
      generalize strB (cq :: tq) = Q at *
      have HPK := HPS
      go_upto_region 17 with (fail)
      generalize X3 = X4 at *
      go_upto_region 18 with (go_at_call 100; refine (HDT.out _).mono ?_; rintro e X5 ⟨rfl, hb5⟩; have HP5 := Lib.hid (HPK.out.call hb5); obtain ⟨h1, h2, h3⟩ := HP5.out; obtain ⟨⟨c0, c1, c2, c3⟩, ⟨f0, f1, f2, f3⟩, hl⟩ := four_c h2; clear h1 h2 h3)
      have HPN := Lib.hid (HP5.out.setN (valD (digL tq)))
      generalize X5.setCell ⟨w.heap.size + 1, 3, none⟩ (.int .i64 (valD (digL tq))) = X6 at *
      clear c0 c1 c2 c3 f0 f1 f2 f3 hl hb5 HP5 HPK HPS HDT
      go_upto_region 20 with (fail)
      have HPZ := HPN
      have hmk := refO_ok HO.out
      have hTm := fun V => HT.out (⟨valD D, b, 0, valD (digL tq)⟩ : Mv) V hmk
      clear hmk
      by_cases hok : okText (⟨valD D, b, 0, valD (digL tq)⟩ : Mv) = true
      · by_cases hts : textL (⟨valD D, b, 0, valD (digL tq)⟩ : Mv) = s
        · have HR := Lib.hid (show refR s = .tuple #[.agg #[.int .i64 (valD D), .int .i64 b, .int .u8 0, .int .i64 (valD (digL tq))], .int .i64 0] by unfold refR; rw [HO.out]; simp only; rw [if_pos ⟨hok, hts⟩]; rfl)
          have hr : textR (⟨valD D, b, 0, valD (digL tq)⟩ : Mv) = .tuple #[.string (strB s), .int .i64 0] := by unfold textR; rw [if_pos hok, hts]
          rw [hr] at hTm
          have HTM := Lib.hid hTm
          clear hTm hr hts hok HO
          unfold mvV at HTM
          obtain ⟨h1, h2, h3⟩ := HPZ.out
          obtain ⟨⟨c0, c1, c2, c3⟩, -, -⟩ := four_c h2
          clear h1 h2 h3
          go_upto_region 21 with (go_at_call 43; refine (HTM.out _).mono ?_; rintro e X9 ⟨rfl, hb9⟩)
          obtain ⟨h1, h2, h3⟩ := HPZ.out.call hb9
          obtain ⟨⟨q0, q1, q2, q3⟩, ⟨f0, f1, f2, f3⟩, -⟩ := four_c h1
          obtain ⟨⟨d0, d1, d2, d3⟩, -, -⟩ := four_c h2
          clear h1 h2 c0 c1 c2 c3 hb9
          go_wp2
          refine bodyPost_ret (v := .tuple #[.agg #[.int .i64 (valD D), .int .i64 b, .int .u8 0, .int .i64 (valD (digL tq))], .int .i64 0]) (by simp [results, Tryz.results44, go_sem, q0, q1, q2, q3]) rfl ⟨by rw [HR.out], ?_⟩
          exact below4s h3 (Nat.le_refl _)
        · have HR := Lib.hid (show refR s = .tuple #[.agg #[.int .i64 0, .int .i64 0, .int .u8 0, .int .i64 0], .int .i64 4] by unfold refR; rw [HO.out]; simp only; rw [if_neg (fun h => hts h.2)]; rfl)
          have hr : textR (⟨valD D, b, 0, valD (digL tq)⟩ : Mv) = .tuple #[.string (strB (textL (⟨valD D, b, 0, valD (digL tq)⟩ : Mv))), .int .i64 0] := by unfold textR; rw [if_pos hok]
          rw [hr] at hTm
          have he2 : ((strB (textL (⟨valD D, b, 0, valD (digL tq)⟩ : Mv))).toList == (strB s).toList) = false := by
            rw [ByteArray.toList_eq, ByteArray.toList_eq, strB_toList, strB_toList]
            simpa using hts
          have HTM := Lib.hid hTm
          clear hTm hr hts hok HO
          generalize strB (textL (⟨valD D, b, 0, valD (digL tq)⟩ : Mv)) = st at *
          unfold mvV at HTM
          obtain ⟨h1, h2, h3⟩ := HPZ.out
          obtain ⟨⟨c0, c1, c2, c3⟩, -, -⟩ := four_c h2
          clear h1 h2 h3
          go_upto_region 21 with (go_at_call 43; refine (HTM.out _).mono ?_; rintro e X9 ⟨rfl, hb9⟩)
          clear c0 c1 c2 c3
          obtain ⟨h1, h2, h3⟩ := HPZ.out.call hb9
          obtain ⟨⟨q0, q1, q2, q3⟩, ⟨f0, f1, f2, f3⟩, -⟩ := four_c h1
          clear h1 h2
          go_wp2
          refine bodyPost_ret (v := .tuple #[.agg #[.int .i64 0, .int .i64 0, .int .u8 0, .int .i64 0], .int .i64 4]) (by simp [results, Tryz.results44, go_sem, q0, q1, q2, q3]) rfl ⟨by rw [HR.out], ?_⟩
          exact below4s h3 (Nat.le_refl _)
      · have HR := Lib.hid (show refR s = .tuple #[.agg #[.int .i64 0, .int .i64 0, .int .u8 0, .int .i64 0], .int .i64 4] by unfold refR; rw [HO.out]; simp only; rw [if_neg (fun h => hok h.1)]; rfl)
        have hr : textR (⟨valD D, b, 0, valD (digL tq)⟩ : Mv) = .tuple #[.string ⟨#[]⟩, .int .i64 4] := by unfold textR; rw [if_neg hok]
        rw [hr] at hTm
        have HTM := Lib.hid hTm
        clear hTm hr hok HO
        unfold mvV at HTM
        obtain ⟨h1, h2, h3⟩ := HPZ.out
        obtain ⟨⟨c0, c1, c2, c3⟩, -, -⟩ := four_c h2
        clear h1 h2 h3
        go_upto_region 21 with (go_at_call 43; refine (HTM.out _).mono ?_; rintro e X9 ⟨rfl, hb9⟩)
        clear c0 c1 c2 c3
        obtain ⟨h1, h2, h3⟩ := HPZ.out.call hb9
        obtain ⟨⟨q0, q1, q2, q3⟩, ⟨f0, f1, f2, f3⟩, -⟩ := four_c h1
        clear h1 h2
        go_wp2
        refine bodyPost_ret (v := .tuple #[.agg #[.int .i64 0, .int .i64 0, .int .u8 0, .int .i64 0], .int .i64 4]) (by simp [results, Tryz.results44, go_sem, q0, q1, q2, q3]) rfl ⟨by rw [HR.out], ?_⟩
        exact below4s h3 (Nat.le_refl _)

theorem refParse_any (s : List UInt8) (w : World) :
    Calls Tryz.prog 44 #[.string (strB s)] w fun e w' => e = .returned (refR s) ∧ Below w.heap.size w w' := by
  by_cases hdot : (s.drop (digL s).length).head? = some 46
  · exact refParse_dot s w hdot
  · exact refParse_nodot s w hdot

end Go.Proofs.YtoncdnelacolaaaGreatDoor.Ar
