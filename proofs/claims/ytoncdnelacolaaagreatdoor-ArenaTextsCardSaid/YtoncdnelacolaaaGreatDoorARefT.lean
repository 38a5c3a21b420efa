/- The reference: Digits, Words, Text. -/
import Derived.Test.YtoncdnelacolaaaGreatDoorASpecK
import Derived.Test.YtoncdnelacolaaaGreatDoorATextD
namespace Go.Proofs.YtoncdnelacolaaaGreatDoor.Ar
open Go Go.Proofs Go.RowKit Go.Sort Lx Ps

theorem index_at {s : List UInt8} {k : Nat} {c : UInt8} (h : s[k]? = some c) (W : World) : (Instr.index 9 (.string (strB s)) (.int .i64 (k : Int))).run Tryz.prog W = .ok (.int .u8 (c.toNat : Int)) W := by
  obtain ⟨hk, hc⟩ := List.getElem?_eq_some_iff.1 h
  rw [run_index_string W 9 (strB s) .i64 (k : Int) Tryz.underlying9, dif_pos ⟨by omega, by rw [strB_size]; omega⟩]
  have : ((strB s)[(k : Int).toNat]'(by rw [strB_size]; omega)) = c := by
    rw [← hc]; rfl
  rw [this]
theorem digL_get {s : List UInt8} {k : Nat} (h : k < (digL s).length) : ∃ c, s[k]? = some c ∧ (digL s)[k]? = some c ∧ isDig c = true ∧ k < 19 ∧ k < s.length := by
  have hc := List.getElem?_eq_getElem h
  generalize (digL s)[k] = c at hc
  have hd := hc
  unfold digL at hd h
  rw [List.length_take] at h
  rw [List.getElem?_take, if_pos (by omega)] at hd
  have hp : s.takeWhile isDig <+: s := List.takeWhile_prefix _
  have hs : s[k]? = some c := by
    obtain ⟨t, ht⟩ := hp
    rw [← ht, List.getElem?_append_left (by omega)]; exact hd
  exact ⟨c, hs, hc, List.all_eq_true.1 List.all_takeWhile c (List.mem_of_getElem? hd), by omega, (List.getElem?_eq_some_iff.1 hs).1⟩
theorem tw_stop (p : UInt8 → Bool) : ∀ (s : List UInt8), (s.takeWhile p).length = s.length ∨ ∃ c, s[(s.takeWhile p).length]? = some c ∧ p c = false
  | [] => .inl rfl
  | x :: r => by
    by_cases h : p x = true
    · rw [List.takeWhile_cons, if_pos h]
      rcases tw_stop p r with h1 | ⟨c, h1, h2⟩
      · exact .inl (by simp [h1])
      · exact .inr ⟨c, by simpa using h1, h2⟩
    · rw [List.takeWhile_cons, if_neg h]
      exact .inr ⟨x, rfl, by simpa using h⟩
theorem digL_end (s : List UInt8) : (digL s).length = s.length ∨ 19 ≤ (digL s).length ∨ ((digL s).length < 19 ∧ (digL s).length < s.length ∧ ∃ c, s[(digL s).length]? = some c ∧ isDig c = false) := by
  unfold digL
  rw [List.length_take]
  by_cases h : 19 ≤ (s.takeWhile isDig).length
  · exact .inr (.inl (by omega))
  · rw [Nat.min_eq_right (by omega)]
    rcases tw_stop isDig s with h1 | ⟨c, h1, h2⟩
    · exact .inl h1
    · exact .inr (.inr ⟨by omega, (List.getElem?_eq_some_iff.1 h1).1, c, h1, h2⟩)
theorem digL_le (s : List UInt8) : (digL s).length ≤ s.length := by
  unfold digL
  rw [List.length_take]
  have := (List.takeWhile_prefix (p := isDig) (l := s)).length_le
  omega
theorem valD_succ {l : List UInt8} {k : Nat} {c : UInt8} (h : l[k]? = some c) : valD (l.take (k + 1)) = stepD (valD (l.take k)) c := by
  unfold valD
  rw [List.take_add_one, h, List.foldl_append]; rfl

set_option maxRecDepth 100000 in
set_option maxHeartbeats 1000000 in
theorem digits_any (s : List UInt8) (w : World) :
    Calls Tryz.prog 100 #[.string (strB s)] w fun e w' => e = .returned (.tuple #[.int .i64 (valD (digL s)), .int .i64 ((digL s).length : Int)]) ∧ Below w.heap.size w w' := by
  have hsz := strB_size s
  have hI := fun (k : Nat) (c : UInt8) (h : s[k]? = some c) => index_at h
  have hle := digL_le s
  have HG := Lib.hid (fun (k : Nat) (h : k < (digL s).length) => digL_get h)
  have HE := Lib.hid (digL_end s)
  have HI := Lib.hid hI
  clear hI
  generalize digL s = D at *
  generalize strB s = S at *
  have hS : (S.size : Int) = (s.length : Int) := by rw [hsz]
  clear hsz
  go_enter Tryz.func100, Tryz.ntmps100
  go_wp2
  go_loopw [4, 5] (fun u c wr => ∃ k : Nat, u = .int .i64 (valD (D.take k)) ∧ c = .int .i64 (k : Int) ∧ k ≤ D.length ∧ Below w.heap.size w wr) (fun _ c _ => D.length + 1 - (intOf c).toNat)
  case atStart => exact ⟨0, rfl, rfl, Nat.zero_le _, Below.refl _ _⟩
  case round =>
    obtain ⟨k, rfl, rfl, hk, hb⟩ := hrel
    by_cases hlt : k < D.length
    · obtain ⟨c, h1, h2, h3, h4, h5⟩ := HG.out k hlt
      have hix := HI.out k c h1
      have HV := Lib.hid (valD_succ h2)
      unfold isDig at h3
      simp only [Bool.and_eq_true, decide_eq_true_eq] at h3
      obtain ⟨d1, d2⟩ := h3
      unfold stepD at HV
      have k1 : (k : Int) < (s.length : Int) := by omega
      have k2 : (k : Int) < 19 := by omega
      have g1 : (48 : Int) ≤ (c.toNat : Int) := by omega
      have g2 : (c.toNat : Int) ≤ 57 := by omega
      have g3 : IntKind.u8.wrap ((c.toNat : Int) - 48) = (c.toNat : Int) - 48 := by rw [IntKind.wrap_u8]; omega
      have g4 : IntKind.i64.wrap ((c.toNat : Int) - 48) = (c.toNat : Int) - 48 := IntWalk.i64_in _ (by omega)
      clear h1 h2 d1 d2
      generalize valD (D.take k) = x at *
      generalize (c.toNat : Int) = y at *
      go_wp2
      go_roundw
      case rel => exact ⟨k + 1, by rw [HV.out]; simp only [wrap64, IntKind.wrap_i64], by go_num, by omega, hb⟩
      case measure => simp [intOf]; omega
    · obtain rfl : k = D.length := by omega
      rcases HE.out with h | h | ⟨h, h', c, h1, h2⟩
      · have k1 : ¬ (D.length : Int) < (s.length : Int) := by omega
        clear h
        go_wp2
        go_ret2
        exact ⟨rfl, hb⟩
      · have k2 : ¬ (D.length : Int) < 19 := by omega
        by_cases hh : (D.length : Int) < (s.length : Int)
        · go_wp2
          go_ret2
          exact ⟨rfl, hb⟩
        · go_wp2
          go_ret2
          exact ⟨rfl, hb⟩
      · have k1 : (D.length : Int) < (s.length : Int) := by omega
        have k2 : (D.length : Int) < 19 := by omega
        have hix := HI.out D.length c h1
        unfold isDig at h2
        clear h1 h h'
        by_cases g1 : (48 : Int) ≤ (c.toNat : Int)
        · have g2 : ¬ (c.toNat : Int) ≤ 57 := by
            intro g
            have e1 : 48 ≤ c.toNat := by omega
            have e2 : c.toNat ≤ 57 := by omega
            simp [e1, e2] at h2
          clear h2
          generalize (c.toNat : Int) = y at *
          go_wp2
          go_ret2
          exact ⟨rfl, hb⟩
        · clear h2
          generalize (c.toNat : Int) = y at *
          go_wp2
          go_ret2
          exact ⟨rfl, hb⟩

set_option maxRecDepth 100000 in
set_option maxHeartbeats 1000000 in
theorem words_any (m : Mv) (w : World) (hm : MvOk m) (ho : okText m = true) :
    Calls Tryz.prog 99 #[mvV m] w fun e w' => e = .returned (.string (strB (textL m))) ∧ Below w.heap.size w w' := by
  obtain ⟨p1, p2, p3, p4⟩ := okText_parts ho
  have hvc := value_cases p3 p4
  have hD := fun (n : Int) V (h0 : -9223372036854775808 ≤ n) (h1 : n ≤ 9223372036854775807) => decimal_any n V h0 h1
  have HDi := Lib.hid (fun V => hD m.id V hm.id0 hm.id1)
  have HDa := Lib.hid (fun V => hD m.arg V hm.arg0 hm.arg1)
  have HDn := Lib.hid (fun V => hD m.n V hm.n0 hm.n1)
  have l1 := Lib.itoa_length_le m.id hm.id0 hm.id1
  have l2 := Lib.itoa_length_le m.arg hm.arg0 hm.arg1
  have l3 := Lib.itoa_length_le m.n hm.n0 hm.n1
  have k0 := heap_alloc_new w (.cells #[.int .i64 m.id, .int .i64 m.arg, .int .u8 (m.kind : Int), .int .i64 m.n] 40)
  have hb0 : Below w.heap.size w (w.alloc (.cells #[.int .i64 m.id, .int .i64 m.arg, .int .u8 (m.kind : Int), .int .i64 m.n] 40)) := (Below.refl _ _).alloc (Nat.le_refl _) _
  have HT := Lib.hid (show textL m = placeT m ++ signB m.kind :: (valueT m).1 from textL_form m)
  have HP := Lib.hid (show placeT m = if m.arg = 0 then Lib.itoa m.id else Lib.itoa m.id ++ 46 :: Lib.itoa m.arg by
    unfold placeT; split
    · rfl
    · rw [List.append_assoc]; rfl)
  have hpl : (placeT m).length ≤ 43 := placeT_len m hm
  have a1 := fun W => add_any [46] (Lib.itoa m.arg) (by simp) (by omega) W
  have a2 := fun W => add_any (Lib.itoa m.id) (46 :: Lib.itoa m.arg) (by omega) (by simp; omega) W
  have a1' : ∀ W, (Op.stringOp .add ⟨#[46]⟩ (strB (Lib.itoa m.arg))).run Tryz.prog W = .ok (.string (strB (46 :: Lib.itoa m.arg))) W := a1
  have a3 : ∀ W, (Op.stringOp .add (strB (placeT m)) ⟨#[63]⟩).run Tryz.prog W = .ok (.string (strB (placeT m ++ [63]))) W := add_any (placeT m) [63] (by omega) (by simp)
  have a4 : ∀ W, (Op.stringOp .add (strB (placeT m)) ⟨#[61]⟩).run Tryz.prog W = .ok (.string (strB (placeT m ++ [61]))) W := add_any (placeT m) [61] (by omega) (by simp)
  have a5 : ∀ W, (Op.stringOp .add (strB (placeT m)) ⟨#[33, 42]⟩).run Tryz.prog W = .ok (.string (strB (placeT m ++ [33, 42]))) W := add_any (placeT m) [33, 42] (by omega) (by simp)
  have a6 : ∀ W, (Op.stringOp .add (strB (placeT m)) ⟨#[33]⟩).run Tryz.prog W = .ok (.string (strB (placeT m ++ [33]))) W := add_any (placeT m) [33] (by omega) (by simp)
  have a7 := add_any (placeT m ++ [61]) (Lib.itoa m.n) (by simp; omega) (by omega)
  have a8 := add_any (placeT m ++ [33]) (Lib.itoa m.n) (by simp; omega) (by omega)
  clear a1 hD ho hm p4 l1 l2 l3
  unfold mvV
  have hvc' : (m.kind = 1 ∧ strB (textL m) = strB (placeT m ++ [63])) ∨ (m.kind = 3 ∧ m.n = -1 ∧ strB (textL m) = strB (placeT m ++ [33, 42])) ∨ (m.kind = 2 ∧ strB (textL m) = strB (placeT m ++ [61] ++ Lib.itoa m.n)) ∨ (m.kind = 3 ∧ ¬ m.n = -1 ∧ strB (textL m) = strB (placeT m ++ [33] ++ Lib.itoa m.n)) := by
    rw [HT.out]
    rcases hvc with ⟨e0, e1, e2⟩ | ⟨e0, e1, e2⟩ | ⟨e0, e1, e2⟩
    · exact .inl ⟨e0, by rw [e2, e0]; rfl⟩
    · exact .inr (.inl ⟨e0, e1, by rw [e2, e0]; rfl⟩)
    · rcases p3 with h | h | h
      · exact absurd h e0
      · exact .inr (.inr (.inl ⟨h, by rw [e2, h, ← itoa_dec e1, List.append_assoc]; rfl⟩))
      · exact .inr (.inr (.inr ⟨h, by omega, by rw [e2, h, ← itoa_dec e1, List.append_assoc]; rfl⟩))
  clear hvc p3 hpl
  have HV := Lib.hid hvc'
  clear hvc'
  by_cases hz : m.arg = 0
  · have hP := HP.out
    rw [if_pos hz] at hP
    rw [hP] at a3 a4 a5 a6 a7 a8 HV
    have g1 : ¬ 0 < m.arg := by omega
    clear hz a1' a2 HDa hP HP HT
    generalize strB (Lib.itoa m.n) = sn at *
    generalize strB (Lib.itoa m.id ++ [61] ++ Lib.itoa m.n) = r1 at *
    generalize strB (Lib.itoa m.id ++ [33] ++ Lib.itoa m.n) = r2 at *
    generalize strB (Lib.itoa m.id ++ [63]) = r3 at *
    generalize strB (Lib.itoa m.id ++ [61]) = r4 at *
    generalize strB (Lib.itoa m.id ++ [33, 42]) = r5 at *
    generalize strB (Lib.itoa m.id ++ [33]) = r6 at *
    generalize strB (Lib.itoa m.id) = si at *
    generalize strB (textL m) = st at *
    obtain ⟨mi, ma, mk, mn⟩ := m
    dsimp only at *
    rcases HV.out with ⟨rfl, rfl⟩ | ⟨rfl, rfl, rfl⟩ | ⟨rfl, rfl⟩ | ⟨rfl, hn, rfl⟩
    all_goals
      clear HV
      go_enter Tryz.func99, Tryz.ntmps99
      go_upto_region 1 with (fail)
      generalize w.alloc _ = V at k0 hb0 ⊢
      obtain ⟨⟨c0, c1, c2, c3⟩, -, hl0⟩ := four_c k0
      have HK := Lib.hid k0
      clear k0
      go_upto_region 2 with (go_at_call 115; refine (HDi.out _).mono ?_; rintro e w1 ⟨rfl, hb1⟩)
      have hb2 := hb0.trans (hb1.mono hb0.size)
      obtain ⟨⟨d0, d1, d2, d3⟩, -, -⟩ := four_c (heap_below hb1 hl0 HK.out)
      clear c0 c1 c2 c3
      first
        | (go_wp2_with (go_at_call 115; refine (HDn.out _).mono ?_; rintro e w3 ⟨rfl, hb3⟩)
           go_ret
           exact ⟨rfl, hb2.trans (hb3.mono hb2.size)⟩)
        | (go_wp2
           go_ret
           exact ⟨rfl, hb2⟩)
  · have hP := HP.out
    rw [if_neg hz] at hP
    rw [hP] at a3 a4 a5 a6 a7 a8 HV
    have g1 : 0 < m.arg := by omega
    clear hz hP HP HT
    generalize strB (Lib.itoa m.n) = sn at *
    generalize strB (Lib.itoa m.id ++ 46 :: Lib.itoa m.arg ++ [61] ++ Lib.itoa m.n) = r1 at *
    generalize strB (Lib.itoa m.id ++ 46 :: Lib.itoa m.arg ++ [33] ++ Lib.itoa m.n) = r2 at *
    generalize strB (Lib.itoa m.id ++ 46 :: Lib.itoa m.arg ++ [63]) = r3 at *
    generalize strB (Lib.itoa m.id ++ 46 :: Lib.itoa m.arg ++ [61]) = r4 at *
    generalize strB (Lib.itoa m.id ++ 46 :: Lib.itoa m.arg ++ [33, 42]) = r5 at *
    generalize strB (Lib.itoa m.id ++ 46 :: Lib.itoa m.arg ++ [33]) = r6 at *
    generalize strB (Lib.itoa m.id ++ 46 :: Lib.itoa m.arg) = r7 at *
    generalize strB (46 :: Lib.itoa m.arg) = r8 at *
    generalize strB (Lib.itoa m.arg) = sa at *
    generalize strB (Lib.itoa m.id) = si at *
    generalize strB (textL m) = st at *
    obtain ⟨mi, ma, mk, mn⟩ := m
    dsimp only at *
    rcases HV.out with ⟨rfl, rfl⟩ | ⟨rfl, rfl, rfl⟩ | ⟨rfl, rfl⟩ | ⟨rfl, hn, rfl⟩
    all_goals
      clear HV
      go_enter Tryz.func99, Tryz.ntmps99
      go_upto_region 1 with (fail)
      generalize w.alloc _ = V at k0 hb0 ⊢
      obtain ⟨⟨c0, c1, c2, c3⟩, -, hl0⟩ := four_c k0
      have HK := Lib.hid k0
      clear k0
      go_upto_region 2 with (go_at_call 115; refine (HDi.out _).mono ?_; rintro e w1 ⟨rfl, hb1⟩)
      have hb2 := hb0.trans (hb1.mono hb0.size)
      obtain ⟨⟨d0, d1, d2, d3⟩, -, -⟩ := four_c (heap_below hb1 hl0 HK.out)
      clear c0 c1 c2 c3
      go_upto_region 4 with (go_at_call 115; refine (HDa.out _).mono ?_; rintro e w2 ⟨rfl, hb4⟩)
      have hb5 := hb2.trans (hb4.mono hb2.size)
      obtain ⟨⟨c0, c1, c2, c3⟩, -, -⟩ := four_c (heap_below (hb1.trans (hb4.mono hb1.size)) hl0 HK.out)
      clear d0 d1 d2 d3
      first
        | (go_wp2_with (go_at_call 115; refine (HDn.out _).mono ?_; rintro e w3 ⟨rfl, hb3⟩)
           go_ret
           exact ⟨rfl, hb5.trans (hb3.mono hb5.size)⟩)
        | (go_wp2
           go_ret
           exact ⟨rfl, hb5⟩)

end Go.Proofs.YtoncdnelacolaaaGreatDoor.Ar
