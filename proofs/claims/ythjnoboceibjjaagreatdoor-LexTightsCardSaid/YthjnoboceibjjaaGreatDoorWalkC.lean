/- Contracts of where a piece ends and of numbers, for package lex. -/
import Derived.Test.YthjnoboceibjjaaGreatDoorWalkB
namespace Go.Proofs.YthjnoboceibjjaaGreatDoor.Lx
open Go Go.Proofs Go.RowKit

/-- A two-byte sign stands at a place just where the text from there on begins so. -/
theorem prefix_two (s : ByteArray) (a x y : Nat) (hx : 0 < x) (hx2 : x < 256) (hy : 0 < y) (hy2 : y < 256) :
    Lib.hasPrefix (s.extract a s.size).data.toList [UInt8.ofNat x, UInt8.ofNat y] = (bt s a == x && bt s (a + 1) == y) := by
  have e : (s.extract a s.size).data.toList = s.data.toList.drop a := Lib.extract_to_end s a
  rw [e]
  unfold Lib.hasPrefix bt
  rw [List.getD_eq_getElem?_getD, List.getD_eq_getElem?_getD]
  have d0 : s.data.toList[a]? = (s.data.toList.drop a)[0]? := by rw [List.getElem?_drop]; rfl
  have d1 : s.data.toList[a + 1]? = (s.data.toList.drop a)[1]? := by rw [List.getElem?_drop]
  rw [d0, d1]
  generalize s.data.toList.drop a = l
  have f : ∀ (u : UInt8) (n : Nat), n < 256 → (UInt8.ofNat n == u) = (u.toNat == n) := by
    intro u n hn
    rw [Bool.eq_iff_iff]
    simp only [beq_iff_eq]
    constructor
    · rintro rfl; simp; omega
    · intro h; rw [← h]; simp
  match l with
  | [] =>
    show false = ((0 : Nat) == x && _)
    rw [show ((0 : Nat) == x) = false from by simp; omega]; rfl
  | [u] =>
    show (UInt8.ofNat x == u && false) = (u.toNat == x && ((0 : Nat) == y))
    rw [show ((0 : Nat) == y) = false from by simp; omega]; simp
  | u :: v :: r =>
    show (UInt8.ofNat x == u && (UInt8.ofNat y == v && true)) = (u.toNat == x && v.toNat == y)
    rw [f u x hx2, f v y hy2, Bool.and_true]

set_option maxRecDepth 100000 in
set_option maxHeartbeats 400000 in
theorem pieceEnd3 (s : ByteArray) (a : Nat) (w : World) (hs : s.size ≤ 100000) (ha : a < s.size) (hk : cls (bt s a) = 3) :
    Calls Tryz.prog 42 #[.string s, .int .i64 (a : Int)] w fun e w' => e = .returned (.int .i64 (pieceEnd s a : Int)) ∧ Below w.heap.size w w' := by
  have hc := bt_eq s a ha
  have Hc := Lib.hid hc
  have Hk := Lib.hid hk
  clear hc hk
  go_enter Tryz.func42, Tryz.ntmps42
  go_wp2_with (first | (go_at_call 52; refine (classOf_any _ (UInt8.toNat_lt _) _).mono ?_; rw [Hc.out, Hk.out]; rintro e w1 ⟨rfl, rfl⟩) | (go_at_call 53; refine (runEnd_notFeed s a _ hs (by omega)).mono ?_; rintro e w1 ⟨rfl, hb1⟩))
  go_ret
  exact ⟨ret_int (by rw [pieceEnd, if_pos Hk.out]), hb1⟩

set_option maxRecDepth 100000 in
set_option maxHeartbeats 400000 in
theorem pieceEnd4 (s : ByteArray) (a : Nat) (w : World) (hs : s.size ≤ 100000) (ha : a < s.size) (hk : cls (bt s a) = 4) :
    Calls Tryz.prog 42 #[.string s, .int .i64 (a : Int)] w fun e w' => e = .returned (.int .i64 (pieceEnd s a : Int)) ∧ Below w.heap.size w w' := by
  have hc := bt_eq s a ha
  have Hc := Lib.hid hc
  have Hk := Lib.hid hk
  clear hc hk
  go_enter Tryz.func42, Tryz.ntmps42
  go_wp2_with (first | (go_at_call 52; refine (classOf_any _ (UInt8.toNat_lt _) _).mono ?_; rw [Hc.out, Hk.out]; rintro e w1 ⟨rfl, rfl⟩) | (go_at_call 53; refine (runEnd_aln s a _ hs (by omega)).mono ?_; rintro e w1 ⟨rfl, hb1⟩))
  go_ret
  exact ⟨ret_int (by rw [pieceEnd, if_neg (by rw [Hk.out]; omega), if_pos (by rw [Hk.out]; omega)]), hb1⟩

set_option maxRecDepth 100000 in
set_option maxHeartbeats 400000 in
theorem pieceEnd6 (s : ByteArray) (a : Nat) (w : World) (hs : s.size ≤ 100000) (ha : a < s.size) (hk : cls (bt s a) = 6) :
    Calls Tryz.prog 42 #[.string s, .int .i64 (a : Int)] w fun e w' => e = .returned (.int .i64 (pieceEnd s a : Int)) ∧ Below w.heap.size w w' := by
  have hc := bt_eq s a ha
  have Hc := Lib.hid hc
  have Hk := Lib.hid hk
  clear hc hk
  go_enter Tryz.func42, Tryz.ntmps42
  go_wp2_with (first | (go_at_call 52; refine (classOf_any _ (UInt8.toNat_lt _) _).mono ?_; rw [Hc.out, Hk.out]; rintro e w1 ⟨rfl, rfl⟩) | (go_at_call 53; refine (runEnd_aln s a _ hs (by omega)).mono ?_; rintro e w1 ⟨rfl, hb1⟩))
  go_ret
  exact ⟨ret_int (by rw [pieceEnd, if_neg (by rw [Hk.out]; omega), if_pos (by rw [Hk.out]; omega)]), hb1⟩

set_option maxRecDepth 100000 in
set_option maxHeartbeats 400000 in
theorem pieceEnd7 (s : ByteArray) (a : Nat) (w : World) (hs : s.size ≤ 100000) (ha : a < s.size) (hk : cls (bt s a) = 7) :
    Calls Tryz.prog 42 #[.string s, .int .i64 (a : Int)] w fun e w' => e = .returned (.int .i64 (pieceEnd s a : Int)) ∧ Below w.heap.size w w' := by
  have hc := bt_eq s a ha
  have Hc := Lib.hid hc
  have Hk := Lib.hid hk
  clear hc hk
  have hp1 := prefix_two s a 58 61 (by omega) (by omega) (by omega) (by omega)
  have hp2 := prefix_two s a 45 62 (by omega) (by omega) (by omega) (by omega)
  have Hp1 := Lib.hid hp1
  have Hp2 := Lib.hid hp2
  clear hp1 hp2
  go_enter Tryz.func42, Tryz.ntmps42
  go_wp2_with (first | (go_at_call 52; refine (classOf_any _ (UInt8.toNat_lt _) _).mono ?_; rw [Hc.out, Hk.out]; rintro e w1 ⟨rfl, rfl⟩) | (go_at_call 56; refine (Tryz.strings_HasPrefix _ _ _).mono ?_; rw [show (⟨#[58, 61]⟩ : ByteArray).data.toList = [UInt8.ofNat 58, UInt8.ofNat 61] from rfl, Hp1.out]; rintro e w1 ⟨rfl, rfl⟩) | (go_at_call 56; refine (Tryz.strings_HasPrefix _ _ _).mono ?_; rw [show (⟨#[45, 62]⟩ : ByteArray).data.toList = [UInt8.ofNat 45, UInt8.ofNat 62] from rfl, Hp2.out]; rintro e w1 ⟨rfl, rfl⟩))
  · have h : (bt s a == 58) = true ∧ (bt s (a + 1) == 61) = true ∨ (bt s a == 45) = true ∧ (bt s (a + 1) == 62) = true := by assumption
    have h2 : two s a = true := by simpa [two] using h
    go_ret
    exact ⟨ret_int (by rw [pieceEnd, if_neg (by rw [Hk.out]; omega), if_neg (by rw [Hk.out]; omega), if_pos ⟨Hk.out, h2⟩]; go_num), Below.refl _ _⟩
  · have h : ((bt s a == 58) = false ∨ (bt s (a + 1) == 61) = false) ∧ ((bt s a == 45) = false ∨ (bt s (a + 1) == 62) = false) := by assumption
    have h2 : ¬ (cls (bt s a) = 7 ∧ two s a = true) := by
      rintro ⟨_, h3⟩
      simp only [two, Bool.or_eq_true, Bool.and_eq_true] at h3
      rcases h3 with ⟨h4, h5⟩ | ⟨h4, h5⟩
      · rw [h4, h5] at h; simp at h
      · rw [h4, h5] at h; simp at h
    go_ret
    exact ⟨ret_int (by rw [pieceEnd, if_neg (by rw [Hk.out]; omega), if_neg (by rw [Hk.out]; omega), if_neg h2]; go_num), Below.refl _ _⟩
  · have h : ¬ (¬ bt s a = 58 ∨ ¬ bt s (a + 1) = 61) := by assumption
    have h2 : two s a = true := by
      have h3 : bt s a = 58 ∧ bt s (a + 1) = 61 := by omega
      simp [two, h3]
    go_ret
    exact ⟨ret_int (by rw [pieceEnd, if_neg (by rw [Hk.out]; omega), if_neg (by rw [Hk.out]; omega), if_pos ⟨Hk.out, h2⟩]; go_num), Below.refl _ _⟩

set_option maxRecDepth 100000 in
set_option maxHeartbeats 400000 in
theorem pieceEnd0 (s : ByteArray) (a : Nat) (w : World) (hs : s.size ≤ 100000) (ha : a < s.size) (hk : cls (bt s a) = 0) :
    Calls Tryz.prog 42 #[.string s, .int .i64 (a : Int)] w fun e w' => e = .returned (.int .i64 (pieceEnd s a : Int)) ∧ Below w.heap.size w w' := by
  have hc := bt_eq s a ha
  have Hc := Lib.hid hc
  have Hk := Lib.hid hk
  clear hc hk
  go_enter Tryz.func42, Tryz.ntmps42
  go_wp2_with (first | (go_at_call 52; refine (classOf_any _ (UInt8.toNat_lt _) _).mono ?_; rw [Hc.out, Hk.out]; rintro e w1 ⟨rfl, rfl⟩))
  go_ret
  exact ⟨ret_int (by rw [pieceEnd, if_neg (by rw [Hk.out]; omega), if_neg (by rw [Hk.out]; omega), if_neg (by rw [Hk.out]; omega)]; go_num), Below.refl _ _⟩

set_option maxRecDepth 100000 in
set_option maxHeartbeats 400000 in
theorem pieceEnd1 (s : ByteArray) (a : Nat) (w : World) (hs : s.size ≤ 100000) (ha : a < s.size) (hk : cls (bt s a) = 1) :
    Calls Tryz.prog 42 #[.string s, .int .i64 (a : Int)] w fun e w' => e = .returned (.int .i64 (pieceEnd s a : Int)) ∧ Below w.heap.size w w' := by
  have hc := bt_eq s a ha
  have Hc := Lib.hid hc
  have Hk := Lib.hid hk
  clear hc hk
  go_enter Tryz.func42, Tryz.ntmps42
  go_wp2_with (first | (go_at_call 52; refine (classOf_any _ (UInt8.toNat_lt _) _).mono ?_; rw [Hc.out, Hk.out]; rintro e w1 ⟨rfl, rfl⟩))
  go_ret
  exact ⟨ret_int (by rw [pieceEnd, if_neg (by rw [Hk.out]; omega), if_neg (by rw [Hk.out]; omega), if_neg (by rw [Hk.out]; omega)]; go_num), Below.refl _ _⟩

set_option maxRecDepth 100000 in
set_option maxHeartbeats 400000 in
theorem pieceEnd2 (s : ByteArray) (a : Nat) (w : World) (hs : s.size ≤ 100000) (ha : a < s.size) (hk : cls (bt s a) = 2) :
    Calls Tryz.prog 42 #[.string s, .int .i64 (a : Int)] w fun e w' => e = .returned (.int .i64 (pieceEnd s a : Int)) ∧ Below w.heap.size w w' := by
  have hc := bt_eq s a ha
  have Hc := Lib.hid hc
  have Hk := Lib.hid hk
  clear hc hk
  go_enter Tryz.func42, Tryz.ntmps42
  go_wp2_with (first | (go_at_call 52; refine (classOf_any _ (UInt8.toNat_lt _) _).mono ?_; rw [Hc.out, Hk.out]; rintro e w1 ⟨rfl, rfl⟩))
  go_ret
  exact ⟨ret_int (by rw [pieceEnd, if_neg (by rw [Hk.out]; omega), if_neg (by rw [Hk.out]; omega), if_neg (by rw [Hk.out]; omega)]; go_num), Below.refl _ _⟩

set_option maxRecDepth 100000 in
set_option maxHeartbeats 400000 in
theorem pieceEnd5 (s : ByteArray) (a : Nat) (w : World) (hs : s.size ≤ 100000) (ha : a < s.size) (hk : cls (bt s a) = 5) :
    Calls Tryz.prog 42 #[.string s, .int .i64 (a : Int)] w fun e w' => e = .returned (.int .i64 (pieceEnd s a : Int)) ∧ Below w.heap.size w w' := by
  have hc := bt_eq s a ha
  have Hc := Lib.hid hc
  have Hk := Lib.hid hk
  clear hc hk
  go_enter Tryz.func42, Tryz.ntmps42
  go_wp2_with (first | (go_at_call 52; refine (classOf_any _ (UInt8.toNat_lt _) _).mono ?_; rw [Hc.out, Hk.out]; rintro e w1 ⟨rfl, rfl⟩))
  go_ret
  exact ⟨ret_int (by rw [pieceEnd, if_neg (by rw [Hk.out]; omega), if_neg (by rw [Hk.out]; omega), if_neg (by rw [Hk.out]; omega)]; go_num), Below.refl _ _⟩

theorem pieceEnd_any (s : ByteArray) (a : Nat) (w : World) (hs : s.size ≤ 100000) (ha : a < s.size) :
    Calls Tryz.prog 42 #[.string s, .int .i64 (a : Int)] w fun e w' => e = .returned (.int .i64 (pieceEnd s a : Int)) ∧ Below w.heap.size w w' := by
  have h := cls_lt (bt s a)
  rcases (show cls (bt s a) = 0 ∨ cls (bt s a) = 1 ∨ cls (bt s a) = 2 ∨ cls (bt s a) = 3 ∨ cls (bt s a) = 4 ∨ cls (bt s a) = 5 ∨ cls (bt s a) = 6 ∨ cls (bt s a) = 7 by omega) with h | h | h | h | h | h | h | h
  · exact pieceEnd0 s a w hs ha h
  · exact pieceEnd1 s a w hs ha h
  · exact pieceEnd2 s a w hs ha h
  · exact pieceEnd3 s a w hs ha h
  · exact pieceEnd4 s a w hs ha h
  · exact pieceEnd5 s a w hs ha h
  · exact pieceEnd6 s a w hs ha h
  · exact pieceEnd7 s a w hs ha h

/-- Atoi of digits: their number, or it is too great for an int. -/
theorem fold_ge (l : List UInt8) : ∀ acc : Nat, acc ≤ l.foldl (fun n c => 10 * n + (c.toNat - 48)) acc := by
  induction l with
  | nil => intro acc; exact Nat.le_refl _
  | cons c r ih => intro acc; exact Nat.le_trans (show acc ≤ 10 * acc + (c.toNat - 48) by omega) (ih _)
theorem parse_digits (l : List UInt8) (hd : ∀ c ∈ l, 48 ≤ c.toNat ∧ c.toNat ≤ 57) : ∀ acc : Nat, acc < 18446744073709551616 →
    (Lib.parseUint10 acc l = .ok (l.foldl (fun n c => 10 * n + (c.toNat - 48)) acc)) ∨ (Lib.parseUint10 acc l = .range ∧ 18446744073709551616 ≤ l.foldl (fun n c => 10 * n + (c.toNat - 48)) acc) := by
  induction l with
  | nil => intro acc _; exact .inl rfl
  | cons c r ih =>
    intro acc ha
    have hc := hd c (List.mem_cons_self ..)
    have hr : ∀ x ∈ r, 48 ≤ x.toNat ∧ x.toNat ≤ 57 := fun x hx => hd x (List.mem_cons_of_mem _ hx)
    have e : acc * 10 + (c.toNat - 48) = 10 * acc + (c.toNat - 48) := by omega
    simp only [Lib.parseUint10, if_pos hc, List.foldl_cons, e]
    by_cases h1 : 1844674407370955162 ≤ acc
    · rw [if_pos h1]
      exact .inr ⟨rfl, Nat.le_trans (by omega) (fold_ge r _)⟩
    · rw [if_neg h1]
      by_cases h2 : 18446744073709551616 ≤ 10 * acc + (c.toNat - 48)
      · rw [if_pos h2]
        exact .inr ⟨rfl, Nat.le_trans h2 (fold_ge r _)⟩
      · rw [if_neg h2]
        exact ih hr _ (by omega)
theorem atoi_digits (c : UInt8) (r : List UInt8) (hd : ∀ x ∈ c :: r, 48 ≤ x.toNat ∧ x.toNat ≤ 57) :
    Lib.atoiAll (c :: r) = .ok (digVal (c :: r) : Int) ∨ (Lib.atoiAll (c :: r) = .range ∧ 1000000 < digVal (c :: r)) := by
  have hc := hd c (List.mem_cons_self ..)
  have hp := parse_digits (c :: r) hd 0 (by omega)
  have hn : ¬ (c.toNat = 43 ∨ c.toNat = 45) := by omega
  unfold Lib.atoiAll
  simp only [if_neg hn, Lib.parseMag, reduceCtorEq, if_false]
  rcases hp with h | ⟨h, hg⟩
  · rw [h]
    simp only [show ¬ c.toNat = 45 from by omega, not_false_eq_true, true_and, false_and, if_false]
    by_cases hb : 9223372036854775808 ≤ digVal (c :: r)
    · exact .inr ⟨if_pos hb, by omega⟩
    · exact .inl (if_neg hb)
  · rw [h]
    exact .inr ⟨rfl, Nat.lt_of_lt_of_le (by omega) hg⟩

end Go.Proofs.YthjnoboceibjjaaGreatDoor.Lx
