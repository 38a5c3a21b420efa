/- Contracts of numbers, keywords and kinds of tokens, for package lex. -/
import Derived.Test.YthjnoboceibjjaaGreatDoorWalkC
import Derived.Maps.Views
import Derived.Lib.LaidTab
import Derived.Lib.AtoiErrMem
namespace Go.Proofs.YthjnoboceibjjaaGreatDoor.Lx
open Go Go.Proofs Go.RowKit

/-- All bytes are digits where the run of digits from the beginning is the whole text. -/
theorem runTo_all (p : Nat → Bool) (s : ByteArray) : ∀ (f a : Nat), s.size ≤ a + f → s.size ≤ runTo p s f a → ∀ j, a ≤ j → j < s.size → p (bt s j) = true
  | 0, a, h, _, j, h1, h2 => absurd h1 (by omega)
  | f + 1, a, h, hr, j, h1, h2 => by
    rw [runTo] at hr
    split at hr
    · rename_i hc
      rcases Nat.lt_or_eq_of_le h1 with h3 | rfl
      · exact runTo_all p s f (a + 1) (by omega) hr j h3 h2
      · exact hc.2
    · omega
theorem digits_all (w : ByteArray) (h : ¬ runEnd dig w 0 < w.size) : ∀ c ∈ w.data.toList, 48 ≤ c.toNat ∧ c.toNat ≤ 57 := by
  intro c hc
  obtain ⟨j, hj, e⟩ := List.mem_iff_getElem.1 hc
  have hj' : j < w.size := by simpa using hj
  have h1 := runTo_all dig w (w.size - 0) 0 (by omega) (by unfold runEnd at h; omega) j (by omega) hj'
  have h2 : bt w j = c.toNat := by
    unfold bt
    rw [List.getD_eq_getElem?_getD, List.getElem?_eq_getElem hj, e]; rfl
  rw [h2] at h1
  have h3 : cls c.toNat = 6 := of_decide_eq_true h1
  unfold cls at h3
  repeat' (split at h3 <;> try omega)

set_option maxRecDepth 100000 in
set_option maxHeartbeats 400000 in
theorem numberErrorA (s : ByteArray) (w : World) (_hs : s.size ≤ 100000) (h0 : 0 < s.size) (hk : bt s 0 = 48) (h1 : 1 < s.size) :
    Calls Tryz.prog 57 #[.string s] w fun e w' => e = .returned (.int .i64 (numErr s : Int)) ∧ Below w.heap.size w w' := by
  have hc := bt_eq s 0 h0
  have ht : ((s[0].toNat : Int) == 48) = true := by rw [hc, hk]; rfl
  have Hk := Lib.hid hk
  clear hc hk
  go_enter Tryz.func57, Tryz.ntmps57
  go_wp2
  go_ret
  exact ⟨ret_int (by rw [numErr, if_pos (.inl ⟨Hk.out, h1⟩)]; rfl), Below.refl _ _⟩

theorem runEnd_dig0 (s : ByteArray) (w : World) (hs : s.size ≤ 100000) :
    Calls Tryz.prog 53 #[.string s, .int .i64 0, .func (.func 72) #[] #[]] w fun e w' => e = .returned (.int .i64 (runEnd dig s 0 : Int)) ∧ Below w.heap.size w w' :=
  runEnd_dig s 0 w hs (Nat.zero_le _)

/-- The first byte is 0 and no other one follows, or it is another one. -/
theorem numberErrorB (s : ByteArray) (w : World) (hs : s.size ≤ 100000) (h0 : 0 < s.size) (h1 : ¬ (bt s 0 = 48 ∧ 1 < s.size)) (hr : runEnd dig s 0 < s.size) :
    Calls Tryz.prog 57 #[.string s] w fun e w' => e = .returned (.int .i64 (numErr s : Int)) ∧ Below w.heap.size w w' := by
  have hc := bt_eq s 0 h0
  have hfin : numErr s = 4 := by rw [numErr, if_pos (.inr hr)]
  have Hf := Lib.hid hfin
  have hr2 : (runEnd dig s 0 : Int) < (s.size : Int) := by omega
  by_cases hk : bt s 0 = 48
  · have ht : ((s[0].toNat : Int) == 48) = true := by rw [hc, hk]; rfl
    have h2 : ¬ 1 < s.size := fun h => h1 ⟨hk, h⟩
    clear hc hk h1 hfin hr
    go_enter Tryz.func57, Tryz.ntmps57
    go_wp2_with (go_at_call 53; refine (runEnd_dig0 s _ hs).mono ?_; rintro e w1 ⟨rfl, hb1⟩)
    go_ret
    exact ⟨ret_int (by rw [Hf.out]; rfl), hb1⟩
  · have ht : ((s[0].toNat : Int) == 48) = false := by rw [hc]; simp; omega
    clear hc hk h1 hfin hr
    go_enter Tryz.func57, Tryz.ntmps57
    go_wp2_with (go_at_call 53; refine (runEnd_dig0 s _ hs).mono ?_; rintro e w1 ⟨rfl, hb1⟩)
    go_ret
    exact ⟨ret_int (by rw [Hf.out]; rfl), hb1⟩

theorem atoi_call (s : ByteArray) (w : World) (hs : s.size ≤ 100000) (h0 : 0 < s.size) (hG : Gl w) (hd : ∀ c ∈ s.data.toList, 48 ≤ c.toNat ∧ c.toNat ≤ 57) :
    Calls Tryz.prog 73 #[.string s] w fun e w' => ((e = .returned (.tuple #[.int .i64 (digVal s.data.toList : Int), .nilIface]) ∧ digVal s.data.toList < 9223372036854775808) ∨ (∃ v t p, e = .returned (.tuple #[.int .i64 v, .iface t p]) ∧ 1000000 < digVal s.data.toList)) ∧ Below w.heap.size w w' := by
  obtain ⟨_, _, te, pe, hv⟩ := hG
  have hne : ∃ c r, s.data.toList = c :: r := by
    cases h : s.data.toList with
    | nil => have : s.data.toList.length = 0 := by rw [h]; rfl
             have h' : s.data.toList.length = s.size := by simp
             omega
    | cons c r => exact ⟨c, r, rfl⟩
  obtain ⟨c, r, hcr⟩ := hne
  rcases atoi_digits c r (by rw [← hcr]; exact hd) with h | ⟨h, hg⟩
  · rw [← hcr] at h
    have hb := Lib.atoiAll_bounds h
    refine (Tryz.strconv_Atoi_ok s (by omega) _ h w).mono ?_
    rintro e w' ⟨rfl, hw⟩
    refine ⟨.inl ⟨rfl, by omega⟩, ?_⟩
    rcases hw with rfl | ⟨t, rfl⟩
    · exact Below.refl _ _
    · exact Lib.bytesWorld_below _ _ _
  · rw [← hcr] at h hg
    refine (Tryz.strconv_Atoi_range s (by omega) h _ w hv (.inr ⟨te, pe, rfl⟩)).mono ?_
    rintro e w' ⟨N, rfl, _, _, hb⟩
    exact ⟨.inr ⟨_, _, _, rfl, hg⟩, hb⟩

set_option maxHeartbeats 400000 in
theorem numberErrorC (s : ByteArray) (w : World) (hs : s.size ≤ 100000) (h0 : 0 < s.size) (hG : Gl w) (h1 : ¬ (bt s 0 = 48 ∧ 1 < s.size)) (hr : ¬ runEnd dig s 0 < s.size) :
    Calls Tryz.prog 57 #[.string s] w fun e w' => e = .returned (.int .i64 (numErr s : Int)) ∧ Below w.heap.size w w' := by
  have hd := digits_all s hr
  have hc := bt_eq s 0 h0
  have hfin : numErr s = if 1000000 < digVal s.data.toList then 3 else 0 := by
    rw [numErr, if_neg]
    rintro (h | h)
    · exact h1 h
    · exact hr h
  have Hf := Lib.hid hfin
  have hr2 : ¬ (runEnd dig s 0 : Int) < (s.size : Int) := by omega
  have Hd := Lib.hid hd
  clear hd
  by_cases hk : bt s 0 = 48
  · have ht : ((s[0].toNat : Int) == 48) = true := by rw [hc, hk]; rfl
    have h2 : ¬ 1 < s.size := fun h => h1 ⟨hk, h⟩
    clear hc hk h1 hfin hr
    go_enter Tryz.func57, Tryz.ntmps57
    go_wp2_with (first | (go_at_call 53; refine (runEnd_dig0 s _ hs).mono ?_; rintro e w1 ⟨rfl, hb1⟩) | (go_at_call 73; refine (atoi_call s _ hs h0 (hG.next hb1) Hd.out).mono ?_; rintro e w2 ⟨(⟨rfl, hv⟩ | ⟨v, t, p, rfl, hv⟩), hb2⟩))
    · have hb := hb1.trans (hb2.mono hb1.size)
      have h : 1000000 < (digVal s.data.toList : Int) := by assumption
      go_ret
      exact ⟨ret_int (by rw [Hf.out, if_pos (by omega)]; rfl), hb⟩
    · have hb := hb1.trans (hb2.mono hb1.size)
      have h : ¬ 1000000 < (digVal s.data.toList : Int) := by first | assumption | omega
      go_ret
      exact ⟨ret_int (by rw [Hf.out, if_neg (by omega)]; rfl), hb⟩
    · have hb := hb1.trans (hb2.mono hb1.size)
      go_ret
      exact ⟨ret_int (by rw [Hf.out, if_pos hv]; rfl), hb⟩
  · have ht : ((s[0].toNat : Int) == 48) = false := by rw [hc]; simp; omega
    clear hc hk h1 hfin hr
    go_enter Tryz.func57, Tryz.ntmps57
    go_wp2_with (first | (go_at_call 53; refine (runEnd_dig0 s _ hs).mono ?_; rintro e w1 ⟨rfl, hb1⟩) | (go_at_call 73; refine (atoi_call s _ hs h0 (hG.next hb1) Hd.out).mono ?_; rintro e w2 ⟨(⟨rfl, hv⟩ | ⟨v, t, p, rfl, hv⟩), hb2⟩))
    · have hb := hb1.trans (hb2.mono hb1.size)
      have h : 1000000 < (digVal s.data.toList : Int) := by assumption
      go_ret
      exact ⟨ret_int (by rw [Hf.out, if_pos (by omega)]; rfl), hb⟩
    · have hb := hb1.trans (hb2.mono hb1.size)
      have h : ¬ 1000000 < (digVal s.data.toList : Int) := by first | assumption | omega
      go_ret
      exact ⟨ret_int (by rw [Hf.out, if_neg (by omega)]; rfl), hb⟩
    · have hb := hb1.trans (hb2.mono hb1.size)
      go_ret
      exact ⟨ret_int (by rw [Hf.out, if_pos hv]; rfl), hb⟩

theorem numberError_any (s : ByteArray) (w : World) (hs : s.size ≤ 100000) (h0 : 0 < s.size) (hG : Gl w) :
    Calls Tryz.prog 57 #[.string s] w fun e w' => e = .returned (.int .i64 (numErr s : Int)) ∧ Below w.heap.size w w' := by
  by_cases h1 : bt s 0 = 48 ∧ 1 < s.size
  · exact numberErrorA s w hs h0 h1.1 h1.2
  · by_cases hr : runEnd dig s 0 < s.size
    · exact numberErrorB s w hs h0 h1 hr
    · exact numberErrorC s w hs h0 hG h1 hr

end Go.Proofs.YthjnoboceibjjaaGreatDoor.Lx
