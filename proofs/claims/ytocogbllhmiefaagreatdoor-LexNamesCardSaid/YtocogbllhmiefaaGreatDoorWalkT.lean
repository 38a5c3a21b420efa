/- What two texts have in common (common, from the start and from the end). -/
import Derived.Test.YtocogbllhmiefaaGreatDoorWalkS
namespace Go.Proofs.YtocogbllhmiefaaGreatDoor.Lx
open Go Go.Proofs Go.RowKit Go.Shelf

/-- A slice value that holds a text's bytes. -/
def SlBy (W : World) (v : Value) (s : ByteArray) : Prop :=
  ∃ A cap, v = .slice A s.size cap ∧ (0 < s.size → ∃ b off, A = some ⟨b, off, none⟩ ∧ b < W.heap.size ∧ ∀ i, i < s.size → W.cell? ⟨b, off + i, none⟩ = some (.int .u8 (bt s i : Int)))
theorem SlBy.below {W W' : World} {v : Value} {s : ByteArray} (h : SlBy W v s) (hb : Below W.heap.size W W') : SlBy W' v s := by
  obtain ⟨A, cap, rfl, hA⟩ := h
  refine ⟨A, cap, rfl, fun h0 => ?_⟩
  obtain ⟨b, off, rfl, hlt, hc⟩ := hA h0
  exact ⟨b, off, rfl, Nat.lt_of_lt_of_le hlt hb.size, fun i hi => (hb.cell (p := ⟨b, off + i, none⟩) hlt).trans (hc i hi)⟩

/-- How many elements are the same, from a place on. -/
def com (f g : Nat → Nat) : Nat → Nat → Nat
  | 0, k => k
  | n + 1, k => if f k = g k then com f g n (k + 1) else k
theorem com_le (f g : Nat → Nat) : ∀ n k, k ≤ com f g n k ∧ com f g n k ≤ k + n := by
  intro n
  induction n with
  | zero => intro k; exact ⟨Nat.le_refl _, Nat.le_refl _⟩
  | succ n ih =>
    intro k
    rw [com]
    split
    · have := ih (k + 1); omega
    · omega

set_option maxHeartbeats 400000 in
theorem same_call (x y : Nat) (w : World) :
    Calls Tryz.prog 55 #[.int .u8 (x : Int), .int .u8 (y : Int)] w fun e w' => e = .returned (.bool (decide (x = y))) ∧ w' = w := by
  go_enter Tryz.func55, Tryz.ntmps55
  go_wp2
  go_ret
  exact ⟨ret_bool (by rw [Bool.eq_iff_iff]; simp; omega), rfl⟩

set_option maxHeartbeats 400000 in
theorem start_call (v : Value) (s : ByteArray) (i : Nat) (w : World) (h : SlBy w v s) (hs : s.size ≤ 100000) (hi : i < s.size) :
    Calls Tryz.prog 57 #[v, .int .i64 (i : Int)] w fun e w' => e = .returned (.int .u8 (bt s i : Int)) ∧ w' = w := by
  obtain ⟨A, cap, rfl, hA⟩ := h
  obtain ⟨b, off, rfl, hlt, hc⟩ := hA (by omega)
  have hci := hc i hi
  clear hc hA
  go_enter Tryz.func57, Tryz.ntmps57
  go_wp2
  go_ret
  exact ⟨rfl, rfl⟩

set_option maxHeartbeats 400000 in
theorem end_call (v : Value) (s : ByteArray) (i : Nat) (w : World) (h : SlBy w v s) (hs : s.size ≤ 100000) (hi : i < s.size) :
    Calls Tryz.prog 58 #[v, .int .i64 (i : Int)] w fun e w' => e = .returned (.int .u8 (bt s (s.size - 1 - i) : Int)) ∧ w' = w := by
  obtain ⟨A, cap, rfl, hA⟩ := h
  obtain ⟨b, off, rfl, hlt, hc⟩ := hA (by omega)
  have hci := hc (s.size - 1 - i) (by omega)
  have hnum : (s.size : Int) - 1 - (i : Int) = ((s.size - 1 - i : Nat) : Int) := by omega
  clear hc hA
  go_enter Tryz.func58, Tryz.ntmps58
  go_wp2
  go_ret
  exact ⟨rfl, rfl⟩

set_option maxRecDepth 100000 in
set_option maxHeartbeats 2000000 in
theorem common_start (va vb : Value) (a b : ByteArray) (w : World) (ha : SlBy w va a) (hb : SlBy w vb b) (hsa : a.size ≤ 100000) (hsb : b.size ≤ 100000) :
    Calls Tryz.prog 56 #[va, vb, .func (.func 57) #[] #[], .func (.func 55) #[] #[]] w fun e w' => e = .returned (.int .i64 (com (bt a) (bt b) (min a.size b.size) 0 : Nat)) ∧ Below w.heap.size w w' := by
  have ha0 := ha
  have hb0 := hb
  obtain ⟨A, ca, rfl, hA⟩ := ha
  obtain ⟨B, cb, rfl, hB⟩ := hb
  clear hA hB
  go_enter Tryz.func56, Tryz.ntmps56
  go_wp2
  go_loopw [9] (fun i wr => ∃ k : Nat, k ≤ min a.size b.size ∧ i = .int .i64 k ∧ com (bt a) (bt b) (min a.size b.size) 0 = com (bt a) (bt b) (min a.size b.size - k) k ∧ Below w.heap.size w wr) (fun i _ => min a.size b.size - (intOf i).toNat)
  case atStart => exact ⟨0, Nat.zero_le _, rfl, rfl, Below.refl _ _⟩
  case round =>
    obtain ⟨k, hk, rfl, hcom, hbw⟩ := hrel
    by_cases hlt : k < min a.size b.size
    · have hka : k < a.size := by omega
      have hkb : k < b.size := by omega
      have hmin : (k : Int) < min (a.size : Int) (b.size : Int) := by omega
      rw [show min a.size b.size - k = (min a.size b.size - (k + 1)) + 1 by omega, com] at hcom
      have hca := fun W hW => start_call (.slice A a.size ca) a k W hW hsa hka
      have hcb := fun W hW => start_call (.slice B b.size cb) b k W hW hsb hkb
      have Hca := Lib.hid hca
      have Hcb := Lib.hid hcb
      have Hc := Lib.hid hcom
      have hsame := fun W => same_call (bt a k) (bt b k) W
      have hz := hbw.size
      have ha1 := ha0.below hbw
      have hb1 := hb0.below hbw
      clear hca hcb hcom ha0 hb0
      by_cases heq : bt a k = bt b k
      · have Hc2 := Lib.hid (Hc.out.trans (if_pos heq))
        rw [decide_eq_true heq] at hsame
        have Hsame := Lib.hid hsame
        clear hsame heq
        go_wp2_with (first
          | (go_at_call 57; have hsecond := hfirst; refine (Hcb.out _ hb1).mono ?_; rintro e w1 ⟨rfl, rfl⟩)
          | (go_at_call 57; refine (Hca.out _ ha1).mono ?_; rintro e w1 ⟨rfl, rfl⟩; have hfirst := hka)
          | (go_at_call 55; refine (Hsame.out _).mono ?_; rintro e w1 ⟨rfl, rfl⟩))
        go_roundw
        case rel => exact ⟨k + 1, by omega, by go_num, Hc2.out, hbw⟩
        case measure => simp [intOf]; omega
      · have Hc2 := Lib.hid (Hc.out.trans (if_neg heq))
        rw [decide_eq_false heq] at hsame
        have Hsame := Lib.hid hsame
        clear hsame heq
        go_wp2_with (first
          | (go_at_call 57; have hsecond := hfirst; refine (Hcb.out _ hb1).mono ?_; rintro e w1 ⟨rfl, rfl⟩)
          | (go_at_call 57; refine (Hca.out _ ha1).mono ?_; rintro e w1 ⟨rfl, rfl⟩; have hfirst := hka)
          | (go_at_call 55; refine (Hsame.out _).mono ?_; rintro e w1 ⟨rfl, rfl⟩))
        go_ret
        exact ⟨ret_int (by rw [Hc2.out]), hbw⟩
    · have hmin : ¬ (k : Int) < min (a.size : Int) (b.size : Int) := by omega
      have hfin : com (bt a) (bt b) (min a.size b.size) 0 = k := by rw [hcom, show min a.size b.size - k = 0 by omega, com]
      have Hf := Lib.hid hfin
      clear hcom hfin
      go_wp2
      go_ret
      exact ⟨ret_int (by rw [Hf.out]), hbw⟩

set_option maxRecDepth 100000 in
set_option maxHeartbeats 2000000 in
theorem common_end (va vb : Value) (a b : ByteArray) (w : World) (ha : SlBy w va a) (hb : SlBy w vb b) (hsa : a.size ≤ 100000) (hsb : b.size ≤ 100000) :
    Calls Tryz.prog 56 #[va, vb, .func (.func 58) #[] #[], .func (.func 55) #[] #[]] w fun e w' => e = .returned (.int .i64 (com (fun i => bt a (a.size - 1 - i)) (fun i => bt b (b.size - 1 - i)) (min a.size b.size) 0 : Nat)) ∧ Below w.heap.size w w' := by
  have ha0 := ha
  have hb0 := hb
  obtain ⟨A, ca, rfl, hA⟩ := ha
  obtain ⟨B, cb, rfl, hB⟩ := hb
  clear hA hB
  go_enter Tryz.func56, Tryz.ntmps56
  go_wp2
  go_loopw [9] (fun i wr => ∃ k : Nat, k ≤ min a.size b.size ∧ i = .int .i64 k ∧ com (fun i => bt a (a.size - 1 - i)) (fun i => bt b (b.size - 1 - i)) (min a.size b.size) 0 = com (fun i => bt a (a.size - 1 - i)) (fun i => bt b (b.size - 1 - i)) (min a.size b.size - k) k ∧ Below w.heap.size w wr) (fun i _ => min a.size b.size - (intOf i).toNat)
  case atStart => exact ⟨0, Nat.zero_le _, rfl, rfl, Below.refl _ _⟩
  case round =>
    obtain ⟨k, hk, rfl, hcom, hbw⟩ := hrel
    by_cases hlt : k < min a.size b.size
    · have hka : k < a.size := by omega
      have hkb : k < b.size := by omega
      have hmin : (k : Int) < min (a.size : Int) (b.size : Int) := by omega
      rw [show min a.size b.size - k = (min a.size b.size - (k + 1)) + 1 by omega, com] at hcom
      have hca := fun W hW => end_call (.slice A a.size ca) a k W hW hsa hka
      have hcb := fun W hW => end_call (.slice B b.size cb) b k W hW hsb hkb
      have Hca := Lib.hid hca
      have Hcb := Lib.hid hcb
      have Hc := Lib.hid hcom
      have hsame := fun W => same_call (bt a (a.size - 1 - k)) (bt b (b.size - 1 - k)) W
      have hz := hbw.size
      have ha1 := ha0.below hbw
      have hb1 := hb0.below hbw
      clear hca hcb hcom ha0 hb0
      by_cases heq : bt a (a.size - 1 - k) = bt b (b.size - 1 - k)
      · have Hc2 := Lib.hid (Hc.out.trans (if_pos heq))
        rw [decide_eq_true heq] at hsame
        have Hsame := Lib.hid hsame
        clear hsame heq
        go_wp2_with (first
          | (go_at_call 58; have hsecond := hfirst; refine (Hcb.out _ hb1).mono ?_; rintro e w1 ⟨rfl, rfl⟩)
          | (go_at_call 58; refine (Hca.out _ ha1).mono ?_; rintro e w1 ⟨rfl, rfl⟩; have hfirst := hka)
          | (go_at_call 55; refine (Hsame.out _).mono ?_; rintro e w1 ⟨rfl, rfl⟩))
        go_roundw
        case rel => exact ⟨k + 1, by omega, by go_num, Hc2.out, hbw⟩
        case measure => simp [intOf]; omega
      · have Hc2 := Lib.hid (Hc.out.trans (if_neg heq))
        rw [decide_eq_false heq] at hsame
        have Hsame := Lib.hid hsame
        clear hsame heq
        go_wp2_with (first
          | (go_at_call 58; have hsecond := hfirst; refine (Hcb.out _ hb1).mono ?_; rintro e w1 ⟨rfl, rfl⟩)
          | (go_at_call 58; refine (Hca.out _ ha1).mono ?_; rintro e w1 ⟨rfl, rfl⟩; have hfirst := hka)
          | (go_at_call 55; refine (Hsame.out _).mono ?_; rintro e w1 ⟨rfl, rfl⟩))
        go_ret
        exact ⟨ret_int (by rw [Hc2.out]), hbw⟩
    · have hmin : ¬ (k : Int) < min (a.size : Int) (b.size : Int) := by omega
      have hfin : com (fun i => bt a (a.size - 1 - i)) (fun i => bt b (b.size - 1 - i)) (min a.size b.size) 0 = k := by rw [hcom, show min a.size b.size - k = 0 by omega, com]
      have Hf := Lib.hid hfin
      clear hcom hfin
      go_wp2
      go_ret
      exact ⟨ret_int (by rw [Hf.out]), hbw⟩

end Go.Proofs.YtocogbllhmiefaaGreatDoor.Lx
