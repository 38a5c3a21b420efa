/- The document's own bytes, runs of letters and digits, comments and numbers. -/
import Derived.Test.YthjnoboceibjjaaGreatDoorWalkY
import Derived.Test.YthjnoboceibjjaaGreatDoorSpecF
namespace Go.Proofs.YthjnoboceibjjaaGreatDoor.Lx
open Go Go.Proofs Go.RowKit Go.Shelf

theorem cls_small (c : Nat) (h : c < 256) : cls c = 4 ↔ 97 ≤ c ∧ c ≤ 122 := by
  have H : ∀ c : Fin 256, (decide (cls c.val = 4) = decide (97 ≤ c.val ∧ c.val ≤ 122)) := by decide +kernel
  exact decide_eq_decide.1 (H ⟨c, h⟩)
theorem cls_capital (c : Nat) (h : c < 256) : cls c = 5 ↔ 65 ≤ c ∧ c ≤ 90 := by
  have H : ∀ c : Fin 256, (decide (cls c.val = 5) = decide (65 ≤ c.val ∧ c.val ≤ 90)) := by decide +kernel
  exact decide_eq_decide.1 (H ⟨c, h⟩)
theorem cls_digit (c : Nat) (h : c < 256) : cls c = 6 ↔ 48 ≤ c ∧ c ≤ 57 := by
  have H : ∀ c : Fin 256, (decide (cls c.val = 6) = decide (48 ≤ c.val ∧ c.val ≤ 57)) := by decide +kernel
  exact decide_eq_decide.1 (H ⟨c, h⟩)
theorem cls_tilde (c : Nat) (h : c < 256) : cls c = 3 ↔ c = 126 := by
  have H : ∀ c : Fin 256, (decide (cls c.val = 3) = decide (c.val = 126)) := by decide +kernel
  exact decide_eq_decide.1 (H ⟨c, h⟩)
theorem cls_blank (c : Nat) (h : c < 256) : cls c = 2 ↔ c = 32 ∨ c = 10 := by
  have H : ∀ c : Fin 256, (decide (cls c.val = 2) = decide (c.val = 32 ∨ c.val = 10)) := by decide +kernel
  exact decide_eq_decide.1 (H ⟨c, h⟩)
theorem cls_sign (c : Nat) (h : c < 256) : cls c = 7 ↔ c ∈ signs := by
  have H : ∀ c : Fin 256, (decide (cls c.val = 7) = decide (c.val ∈ signs)) := by decide +kernel
  exact decide_eq_decide.1 (H ⟨c, h⟩)

set_option maxHeartbeats 400000 in
theorem isSmall_any (c : Nat) (h : c < 256) (w : World) :
    Calls Tryz.prog 62 #[.int .u8 (c : Int)] w fun e w' => e = .returned (.bool (decide (cls c = 4))) ∧ w = w' := by
  have Hc := Lib.hid (cls_small c h)
  go_enter Tryz.func62, Tryz.ntmps62
  go_wp2
  all_goals
    go_ret
    exact ⟨ret_bool (by rw [Bool.eq_iff_iff]; simp [Hc.out]; omega), rfl⟩
set_option maxHeartbeats 400000 in
theorem isDigit_any (c : Nat) (h : c < 256) (w : World) :
    Calls Tryz.prog 65 #[.int .u8 (c : Int)] w fun e w' => e = .returned (.bool (decide (cls c = 6))) ∧ w = w' := by
  have Hc := Lib.hid (cls_digit c h)
  go_enter Tryz.func65, Tryz.ntmps65
  go_wp2
  all_goals
    go_ret
    exact ⟨ret_bool (by rw [Bool.eq_iff_iff]; simp [Hc.out]; omega), rfl⟩
set_option maxHeartbeats 400000 in
theorem isLetter_any (c : Nat) (h : c < 256) (w : World) :
    Calls Tryz.prog 75 #[.int .u8 (c : Int)] w fun e w' => e = .returned (.bool (decide (cls c = 4) || decide (cls c = 5))) ∧ w = w' := by
  have Hc := Lib.hid (cls_capital c h)
  have hsm := fun W => isSmall_any c h W
  by_cases h4 : cls c = 4
  · rw [decide_eq_true h4] at hsm
    have Hs := Lib.hid hsm
    have Hf := Lib.hid (show (decide (cls c = 4) || decide (cls c = 5)) = true by rw [decide_eq_true h4]; rfl)
    clear hsm h4
    go_enter Tryz.func75, Tryz.ntmps75
    go_wp2_with (go_at_call 62; refine (Hs.out _).mono ?_; rintro e w' ⟨rfl, rfl⟩)
    go_ret
    exact ⟨ret_bool Hf.out.symm, rfl⟩
  · rw [decide_eq_false h4] at hsm
    have Hs := Lib.hid hsm
    have Hf := Lib.hid (show (decide (cls c = 4) || decide (cls c = 5)) = decide (65 ≤ c ∧ c ≤ 90) by rw [decide_eq_false h4, Bool.false_or]; exact decide_eq_decide.2 Hc.out)
    clear hsm h4
    go_enter Tryz.func75, Tryz.ntmps75
    go_wp2_with (go_at_call 62; refine (Hs.out _).mono ?_; rintro e w' ⟨rfl, rfl⟩)
    all_goals
      go_ret
      exact ⟨ret_bool (by rw [Hf.out, Bool.eq_iff_iff]; simp; omega), rfl⟩

theorem aln_iff (c : Nat) : aln c = true ↔ cls c = 4 ∨ cls c = 5 ∨ cls c = 6 := by simp [aln]

set_option maxRecDepth 100000 in
set_option maxHeartbeats 2000000 in
theorem refRun_any (s : ByteArray) (a : Nat) (w : World) (hs : s.size ≤ 100000) (ha : a ≤ s.size) :
    Calls Tryz.prog 61 #[.string s, .int .i64 (a : Int)] w fun e w' => e = .returned (.string (s.extract a (runEnd aln s a))) ∧ w = w' := by
  go_enter Tryz.func61, Tryz.ntmps61
  go_wp2
  go_loop [5] (fun i => ∃ k : Nat, k ≤ s.size ∧ a ≤ k ∧ i = .int .i64 k ∧ runEnd aln s a = runEnd aln s k) (fun i => s.size - (intOf i).toNat)
  case atStart => exact ⟨a, ha, Nat.le_refl _, rfl, rfl⟩
  case round =>
    obtain ⟨k, hk, hak, rfl, hn⟩ := hrel
    have Hn := Lib.hid hn
    clear hn
    by_cases hlt : k < s.size
    · have hc := bt_eq s k hlt
      have hl := fun W => isLetter_any _ (UInt8.toNat_lt s[k]) W
      have hd := fun W => isDigit_any _ (UInt8.toNat_lt s[k]) W
      by_cases h1 : cls s[k].toNat = 4 ∨ cls s[k].toNat = 5
      · rw [show (decide (cls s[k].toNat = 4) || decide (cls s[k].toNat = 5)) = true by simpa using h1] at hl
        rw [hc] at h1
        have Hl := Lib.hid hl
        have Hs := Lib.hid (runEnd_step hlt ((aln_iff _).2 (by omega)))
        clear hl hd h1 hc
        go_wp2_with (go_at_call 75; refine (Hl.out _).mono ?_; rintro e w' ⟨rfl, rfl⟩)
        go_round
        case rel => exact ⟨k + 1, by omega, by omega, by go_num, by rw [Hn.out, Hs.out]⟩
        case measure => simp [intOf]; omega
      · rw [show (decide (cls s[k].toNat = 4) || decide (cls s[k].toNat = 5)) = false by simpa using h1] at hl
        by_cases h2 : cls s[k].toNat = 6
        · rw [decide_eq_true h2] at hd
          rw [hc] at h2
          have Hl := Lib.hid hl
          have Hd := Lib.hid hd
          have Hs := Lib.hid (runEnd_step hlt ((aln_iff _).2 (by omega)))
          clear hl hd h1 h2 hc
          go_wp2_with (first
            | (go_at_call 75; refine (Hl.out _).mono ?_; rintro e w' ⟨rfl, rfl⟩)
            | (go_at_call 65; refine (Hd.out _).mono ?_; rintro e w' ⟨rfl, rfl⟩))
          go_round
          case rel => exact ⟨k + 1, by omega, by omega, by go_num, by rw [Hn.out, Hs.out]⟩
          case measure => simp [intOf]; omega
        · rw [decide_eq_false h2] at hd
          rw [hc] at h1 h2
          have Hl := Lib.hid hl
          have Hd := Lib.hid hd
          have hst : runEnd aln s k = k := runEnd_stop (.inr (by
            cases hb : aln (bt s k) with
            | false => rfl
            | true => have := (aln_iff _).1 hb; omega))
          have Hs := Lib.hid (Hn.out.trans hst)
          clear hl hd h1 h2 hc hst
          go_wp2_with (first
            | (go_at_call 75; refine (Hl.out _).mono ?_; rintro e w' ⟨rfl, rfl⟩)
            | (go_at_call 65; refine (Hd.out _).mono ?_; rintro e w' ⟨rfl, rfl⟩))
          go_ret
          exact ⟨by rw [Hs.out]; rfl, rfl⟩
    · have Hs := Lib.hid (Hn.out.trans (runEnd_stop (.inl (by omega))))
      go_wp2
      go_ret
      exact ⟨by rw [Hs.out]; rfl, rfl⟩

theorem runTo_le_bad (p : Nat → Bool) (s : ByteArray) (k : Nat) (hp : p (bt s k) = false) : ∀ (f a : Nat), a ≤ k → runTo p s f a ≤ k := by
  intro f
  induction f with
  | zero => intro a h; exact h
  | succ f ih =>
    intro a h
    rw [runTo]
    split
    · rename_i h2
      by_cases e : a = k
      · rw [e, hp] at h2; exact absurd h2.2 (by decide)
      · exact ih (a + 1) (by omega)
    · exact h
theorem runEnd_le_bad {p : Nat → Bool} {s : ByteArray} {k a : Nat} (hp : p (bt s k) = false) (h : a ≤ k) : runEnd p s a ≤ k := runTo_le_bad p s k hp _ a h
theorem runTo_full (p : Nat → Bool) (s : ByteArray) (hp : ∀ j, j < s.size → p (bt s j) = true) : ∀ (f a : Nat), s.size - a ≤ f → a ≤ s.size → runTo p s f a = s.size := by
  intro f
  induction f with
  | zero => intro a h1 h2; rw [runTo]; omega
  | succ f ih =>
    intro a h1 h2
    rw [runTo]
    by_cases h : a < s.size
    · rw [if_pos ⟨h, hp a h⟩]; exact ih (a + 1) (by omega) (by omega)
    · rw [if_neg (fun x => h x.1)]; omega
theorem runEnd_full {p : Nat → Bool} {s : ByteArray} {a : Nat} (hp : ∀ j, j < s.size → p (bt s j) = true) (ha : a ≤ s.size) : runEnd p s a = s.size := runTo_full p s hp _ a (Nat.le_refl _) ha

theorem digVal_take {w : ByteArray} {k : Nat} (hk : k < w.size) : digVal (w.data.toList.take (k + 1)) = 10 * digVal (w.data.toList.take k) + (bt w k - 48) := by
  have hk' : k < w.data.toList.length := by rw [len_list]; exact hk
  rw [List.take_succ_eq_append_getElem hk']
  unfold digVal
  rw [List.foldl_append, List.foldl_cons, List.foldl_nil]
  unfold bt
  rw [List.getD_eq_getElem?_getD, List.getElem?_eq_getElem hk']
  rfl

theorem numErr_form {w : ByteArray} (h : (bt w 0 = 48 ∧ 1 < w.size) ∨ runEnd dig w 0 < w.size) : numErr w = 4 := if_pos h
theorem numErr_big {w : ByteArray} (h : ¬ ((bt w 0 = 48 ∧ 1 < w.size) ∨ runEnd dig w 0 < w.size)) (h2 : 1000000 < digVal w.data.toList) : numErr w = 3 := by unfold numErr; rw [if_neg h, if_pos h2]
theorem numErr_ok {w : ByteArray} (h : ¬ ((bt w 0 = 48 ∧ 1 < w.size) ∨ runEnd dig w 0 < w.size)) (h2 : ¬ 1000000 < digVal w.data.toList) : numErr w = 0 := by unfold numErr; rw [if_neg h, if_neg h2]

set_option maxRecDepth 100000 in
set_option maxHeartbeats 2000000 in
theorem refNumberError_any (s : ByteArray) (w : World) (hs : s.size ≤ 100000) :
    Calls Tryz.prog 66 #[.string s] w fun e w' => e = .returned (.int .i64 (numErr s : Int)) ∧ w = w' := by
  go_enter Tryz.func66, Tryz.ntmps66
  go_wp2
  go_loop [3, 4] (fun t i => ∃ k n : Nat, k ≤ s.size ∧ i = .int .i64 k ∧ t = .int .i64 n ∧ n ≤ 1000001 ∧ n = min (digVal (s.data.toList.take k)) 1000001 ∧ (∀ j, j < k → dig (bt s j) = true) ∧ (k ≤ 1 ∨ bt s 0 ≠ 48)) (fun _ i => s.size - (intOf i).toNat)
  case atStart => exact ⟨0, 0, Nat.zero_le _, rfl, rfl, by omega, by rfl, fun j h => absurd h (by omega), .inl (by omega)⟩
  case round =>
    obtain ⟨k, n, hk, rfl, rfl, hn1, hn, hdg, hz⟩ := hrel
    have Hn := Lib.hid hn
    have Hdg := Lib.hid hdg
    have Hz := Lib.hid hz
    clear hn hdg hz
    by_cases hlt : k < s.size
    · have hc := bt_eq s k hlt
      have hc0 := bt_eq s 0 (by omega)
      have hd := fun W => isDigit_any _ (UInt8.toNat_lt s[k]) W
      by_cases h6 : cls s[k].toNat = 6
      · rw [decide_eq_true h6] at hd
        rw [hc] at h6
        have Hd := Lib.hid hd
        have hbd := (cls_digit _ (bt_lt s k)).1 h6
        have Hk := Lib.hid (digVal_take hlt)
        have H6 := Lib.hid (show dig (bt s k) = true by unfold dig; simp [h6])
        clear hd h6
        by_cases hz2 : 0 < k ∧ bt s 0 = 48
        · obtain ⟨hk0, h48⟩ := hz2
          have hq : ((s[0].toNat : Int) == 48) = true := by rw [hc0, h48]; rfl
          have Hf := Lib.hid (numErr_form (w := s) (.inl ⟨h48, by omega⟩))
          clear h48 hc hc0 hbd
          go_wp2_with (go_at_call 65; refine (Hd.out _).mono ?_; rintro e w' ⟨rfl, rfl⟩)
          go_ret
          exact ⟨ret_int (by rw [Hf.out]; rfl), rfl⟩
        · have hb1 : 48 ≤ s[k].toNat ∧ s[k].toNat ≤ 57 := by rw [hc]; exact hbd
          obtain ⟨hb2, hb3⟩ := hb1
          have Hc := Lib.hid hc
          by_cases hk0 : 0 < k
          · have hq : ((s[0].toNat : Int) == 48) = false := by rw [hc0]; simp; omega
            have Hz3 := Lib.hid (show bt s 0 ≠ 48 by omega)
            clear hz2 hc hc0 hbd
            go_wp2_with (go_at_call 65; refine (Hd.out _).mono ?_; rintro e w' ⟨rfl, rfl⟩)
            go_round
            case rel =>
              refine ⟨k + 1, min (10 * n + (s[k].toNat - 48)) 1000001, by omega, by go_num, congrArg (Value.int .i64) (by omega), by omega, ?_, fun j hj => ?_, .inr Hz3.out⟩
              · rw [Hk.out, ← Hc.out, Hn.out]; omega
              · rcases Nat.lt_succ_iff_lt_or_eq.1 hj with h | rfl
                · exact Hdg.out j h
                · exact H6.out
            case measure => simp [intOf]; omega
          · clear hz2 hc hc0 hbd
            go_wp2_with (go_at_call 65; refine (Hd.out _).mono ?_; rintro e w' ⟨rfl, rfl⟩)
            go_round
            case rel =>
              refine ⟨k + 1, min (10 * n + (s[k].toNat - 48)) 1000001, by omega, by go_num, congrArg (Value.int .i64) (by omega), by omega, ?_, fun j hj => ?_, .inl (by omega)⟩
              · rw [Hk.out, ← Hc.out, Hn.out]; omega
              · rcases Nat.lt_succ_iff_lt_or_eq.1 hj with h | rfl
                · exact Hdg.out j h
                · exact H6.out
            case measure => simp [intOf]; omega
      · rw [decide_eq_false h6] at hd
        rw [hc] at h6
        have Hd := Lib.hid hd
        have hp : dig (bt s k) = false := by unfold dig; simp [h6]
        have Hf := Lib.hid (numErr_form (w := s) (.inr (Nat.lt_of_le_of_lt (runEnd_le_bad hp (Nat.zero_le _)) hlt)))
        clear hd h6 hp hc hc0
        go_wp2_with (go_at_call 65; refine (Hd.out _).mono ?_; rintro e w' ⟨rfl, rfl⟩)
        go_ret
        exact ⟨ret_int (by rw [Hf.out]; rfl), rfl⟩
    · have hnb : ¬ ((bt s 0 = 48 ∧ 1 < s.size) ∨ runEnd dig s 0 < s.size) := by
        rw [runEnd_full (fun j hj => Hdg.out j (by omega)) (Nat.zero_le _)]
        rintro (⟨h1, h2⟩ | h)
        · rcases Hz.out with h | h
          · omega
          · exact h h1
        · omega
      have hv : digVal (s.data.toList.take k) = digVal s.data.toList := by rw [List.take_of_length_le (by rw [len_list]; omega)]
      have Hv := Lib.hid hv
      have Hnb := Lib.hid hnb
      clear hv hnb
      by_cases hbig : 1000000 < n
      · have Hf := Lib.hid (numErr_big Hnb.out (by have := Hn.out; rw [Hv.out] at this; omega))
        go_wp2
        go_ret
        exact ⟨ret_int (by rw [Hf.out]; rfl), rfl⟩
      · have Hf := Lib.hid (numErr_ok Hnb.out (by have := Hn.out; rw [Hv.out] at this; omega))
        go_wp2
        go_ret
        exact ⟨ret_int (by rw [Hf.out]; rfl), rfl⟩

end Go.Proofs.YthjnoboceibjjaaGreatDoor.Lx
