/- Contracts of runs of bytes, of where a piece ends, and of numbers, for package lex. -/
import Derived.Test.YthjnoboceibjjaaGreatDoorWalkA
import Derived.Test.YthjnoboceibjjaaGreatDoorSpecB
import Derived.WalkSmall
namespace Go.Proofs.YthjnoboceibjjaaGreatDoor.Lx
open Go Go.Proofs Go.RowKit

/-- What the walks need of the package-level variables: the table of blanks, and an error in strconv.ErrRange. -/
def Gl (w : World) : Prop := 8 ≤ w.heap.size ∧ Lib.TabIs Tryz.prog w "strings.asciiSpace" .u8 Lib.asciiSpaceTab ∧ ∃ te pe, w.cell? ⟨4, 0, none⟩ = some (.iface te pe)
theorem global_space : Tryz.prog.globalNamed "strings.asciiSpace" = some 0 := by kernel_rfl
theorem Gl.below {w w' : World} (h : Gl w) {B : Nat} (hB : 8 ≤ B) (hb : Below B w w') : Gl w' := by
  obtain ⟨h1, h2, te, pe, h3⟩ := h
  exact ⟨Nat.le_trans h1 hb.size, var?_below hb global_space (by omega) h2, te, pe, (hb.cell (p := ⟨4, 0, none⟩) (by show (4 : Nat) < B; omega)).trans h3⟩
theorem Gl.next {w w' : World} (h : Gl w) (hb : Below w.heap.size w w') : Gl w' := h.below h.1 hb

theorem notFeed_call (c : Nat) (_h : c < 256) (w : World) :
    Calls Tryz.prog 54 #[.int .u8 (c : Int)] w fun e w' => e = .returned (.bool (notFeed c)) ∧ Below w.heap.size w w' := by
  go_enter Tryz.func54, Tryz.ntmps54
  go_wp2
  go_ret
  exact ⟨ret_bool (by rw [Bool.eq_iff_iff]; simp [notFeed]; omega), Below.refl _ _⟩

theorem aln_call (c : Nat) (h : c < 256) (w : World) :
    Calls Tryz.prog 55 #[.int .u8 (c : Int)] w fun e w' => e = .returned (.bool (aln c)) ∧ Below w.heap.size w w' := by
  go_enter Tryz.func55, Tryz.ntmps55
  go_wp2_with (go_at_call 41; refine (isOf3 c h _).mono ?_; rintro e w' ⟨rfl, rfl⟩)
  go_ret
  exact ⟨ret_bool (by simp [aln]), (Below.refl _ _).alloc (Nat.le_refl _) _⟩

theorem dig_call (c : Nat) (h : c < 256) (w : World) :
    Calls Tryz.prog 72 #[.int .u8 (c : Int)] w fun e w' => e = .returned (.bool (dig c)) ∧ Below w.heap.size w w' := by
  go_enter Tryz.func72, Tryz.ntmps72
  go_wp2_with (go_at_call 41; refine (isOf1 c h 6 (by omega) _).mono ?_; rintro e w' ⟨rfl, rfl⟩)
  go_ret
  exact ⟨ret_bool (by rw [Bool.eq_iff_iff]; simp [dig]; omega), (Below.refl _ _).alloc (Nat.le_refl _) _⟩

set_option maxHeartbeats 400000 in
theorem runEnd_notFeed (s : ByteArray) (a : Nat) (w : World) (hs : s.size ≤ 100000) (ha : a ≤ s.size) :
    Calls Tryz.prog 53 #[.string s, .int .i64 (a : Int), .func (.func 54) #[] #[]] w fun e w' => e = .returned (.int .i64 (runEnd notFeed s a : Int)) ∧ Below w.heap.size w w' := by
  go_enter Tryz.func53, Tryz.ntmps53
  go_wp2
  go_loopw [1] (fun i wr => ∃ k : Nat, k ≤ s.size ∧ i = .int .i64 k ∧ runEnd notFeed s a = runEnd notFeed s k ∧ Below w.heap.size w wr) (fun i _ => s.size - (intOf i).toNat)
  case atStart => exact ⟨a, ha, rfl, rfl, Below.refl _ _⟩
  case round =>
    obtain ⟨k, hk, rfl, hn, hb⟩ := hrel
    have Hn := Lib.hid hn
    clear hn
    by_cases hlt : k < s.size
    · have hc := bt_eq s k hlt
      have Hc := Lib.hid hc
      clear hc
      cases ho : notFeed s[k].toNat
      · have Ho := Lib.hid ho
        clear ho
        go_wp2_with (go_at_call 54; refine (notFeed_call _ (UInt8.toNat_lt _) _).mono ?_; rw [Ho.out]; rintro e w1 ⟨rfl, hb1⟩)
        go_ret
        rw [Hc.out] at Ho
        exact ⟨ret_int (by rw [Hn.out, runEnd_stop (.inr Ho.out)]), hb.trans (hb1.mono hb.size)⟩
      · have Ho := Lib.hid ho
        clear ho
        go_wp2_with (go_at_call 54; refine (notFeed_call _ (UInt8.toNat_lt _) _).mono ?_; rw [Ho.out]; rintro e w1 ⟨rfl, hb1⟩)
        rw [Hc.out] at Ho
        go_roundw
        case rel => exact ⟨k + 1, by omega, by go_num, by rw [Hn.out, runEnd_step hlt Ho.out], hb.trans (hb1.mono hb.size)⟩
        case measure => simp [intOf]; omega
    · go_wp2
      go_ret
      exact ⟨ret_int (by rw [Hn.out, runEnd_stop (.inl (by omega))]), hb⟩

set_option maxHeartbeats 400000 in
theorem runEnd_aln (s : ByteArray) (a : Nat) (w : World) (hs : s.size ≤ 100000) (ha : a ≤ s.size) :
    Calls Tryz.prog 53 #[.string s, .int .i64 (a : Int), .func (.func 55) #[] #[]] w fun e w' => e = .returned (.int .i64 (runEnd aln s a : Int)) ∧ Below w.heap.size w w' := by
  go_enter Tryz.func53, Tryz.ntmps53
  go_wp2
  go_loopw [1] (fun i wr => ∃ k : Nat, k ≤ s.size ∧ i = .int .i64 k ∧ runEnd aln s a = runEnd aln s k ∧ Below w.heap.size w wr) (fun i _ => s.size - (intOf i).toNat)
  case atStart => exact ⟨a, ha, rfl, rfl, Below.refl _ _⟩
  case round =>
    obtain ⟨k, hk, rfl, hn, hb⟩ := hrel
    have Hn := Lib.hid hn
    clear hn
    by_cases hlt : k < s.size
    · have hc := bt_eq s k hlt
      have Hc := Lib.hid hc
      clear hc
      cases ho : aln s[k].toNat
      · have Ho := Lib.hid ho
        clear ho
        go_wp2_with (go_at_call 55; refine (aln_call _ (UInt8.toNat_lt _) _).mono ?_; rw [Ho.out]; rintro e w1 ⟨rfl, hb1⟩)
        go_ret
        rw [Hc.out] at Ho
        exact ⟨ret_int (by rw [Hn.out, runEnd_stop (.inr Ho.out)]), hb.trans (hb1.mono hb.size)⟩
      · have Ho := Lib.hid ho
        clear ho
        go_wp2_with (go_at_call 55; refine (aln_call _ (UInt8.toNat_lt _) _).mono ?_; rw [Ho.out]; rintro e w1 ⟨rfl, hb1⟩)
        rw [Hc.out] at Ho
        go_roundw
        case rel => exact ⟨k + 1, by omega, by go_num, by rw [Hn.out, runEnd_step hlt Ho.out], hb.trans (hb1.mono hb.size)⟩
        case measure => simp [intOf]; omega
    · go_wp2
      go_ret
      exact ⟨ret_int (by rw [Hn.out, runEnd_stop (.inl (by omega))]), hb⟩

set_option maxHeartbeats 400000 in
theorem runEnd_dig (s : ByteArray) (a : Nat) (w : World) (hs : s.size ≤ 100000) (ha : a ≤ s.size) :
    Calls Tryz.prog 53 #[.string s, .int .i64 (a : Int), .func (.func 72) #[] #[]] w fun e w' => e = .returned (.int .i64 (runEnd dig s a : Int)) ∧ Below w.heap.size w w' := by
  go_enter Tryz.func53, Tryz.ntmps53
  go_wp2
  go_loopw [1] (fun i wr => ∃ k : Nat, k ≤ s.size ∧ i = .int .i64 k ∧ runEnd dig s a = runEnd dig s k ∧ Below w.heap.size w wr) (fun i _ => s.size - (intOf i).toNat)
  case atStart => exact ⟨a, ha, rfl, rfl, Below.refl _ _⟩
  case round =>
    obtain ⟨k, hk, rfl, hn, hb⟩ := hrel
    have Hn := Lib.hid hn
    clear hn
    by_cases hlt : k < s.size
    · have hc := bt_eq s k hlt
      have Hc := Lib.hid hc
      clear hc
      cases ho : dig s[k].toNat
      · have Ho := Lib.hid ho
        clear ho
        go_wp2_with (go_at_call 72; refine (dig_call _ (UInt8.toNat_lt _) _).mono ?_; rw [Ho.out]; rintro e w1 ⟨rfl, hb1⟩)
        go_ret
        rw [Hc.out] at Ho
        exact ⟨ret_int (by rw [Hn.out, runEnd_stop (.inr Ho.out)]), hb.trans (hb1.mono hb.size)⟩
      · have Ho := Lib.hid ho
        clear ho
        go_wp2_with (go_at_call 72; refine (dig_call _ (UInt8.toNat_lt _) _).mono ?_; rw [Ho.out]; rintro e w1 ⟨rfl, hb1⟩)
        rw [Hc.out] at Ho
        go_roundw
        case rel => exact ⟨k + 1, by omega, by go_num, by rw [Hn.out, runEnd_step hlt Ho.out], hb.trans (hb1.mono hb.size)⟩
        case measure => simp [intOf]; omega
    · go_wp2
      go_ret
      exact ⟨ret_int (by rw [Hn.out, runEnd_stop (.inl (by omega))]), hb⟩

end Go.Proofs.YthjnoboceibjjaaGreatDoor.Lx
