/- The document's own Diff, and LexDiffs. -/
import Derived.Test.YtocogbllhmiefaaDoorWalkW
import Derived.Deep.CutBlock
import Derived.Deep.LoopGhost
import Derived.Deep.DeepCutAuto
namespace Go.Proofs.YtocogbllhmiefaaDoor.Lx
open Go Go.Proofs Go.RowKit Go.Shelf

set_option maxRecDepth 100000 in
set_option maxHeartbeats 2000000 in
theorem refDiff_err (a b : ByteArray) (w : World) (hsa : a.size ≤ 100000) (hsb : b.size ≤ 100000) (h0 : diffErr a b ≠ 0) :
    Calls Tryd.prog 29 #[.string a, .string b] w (DiffP a b w) := by
  have Hn := Lib.hid (show diff a b = [] from if_neg h0)
  by_cases ha : (textErr a).2 = 0
  · have hd : diffErr a b = (textErr b).2 := by unfold diffErr; rw [if_neg (by simp [ha])]
    rw [hd] at h0
    have ht : (((textErr b).2 : Int) != 0) = true := by simp; omega
    have Ha := Lib.hid ha
    have Hd := Lib.hid hd
    clear ha hd h0
    go_enter Tryd.func29, Tryd.ntmps29
    go_wp2_with (go_at_call 40; refine (refTextError_any _ _ (by assumption)).mono ?_; rintro e w' ⟨rfl, rfl⟩; try rw [Ha.out])
    go_ret2
    exact ⟨_, by rw [Hd.out]; rfl, by rw [Hn.out]; exact SlSp.nil _, fun _ => rfl, Below.refl _ _⟩
  · have hd : diffErr a b = (textErr a).2 := if_pos ha
    have ht : (((textErr a).2 : Int) != 0) = true := by simp; omega
    have Hd := Lib.hid hd
    clear ha hd h0
    go_enter Tryd.func29, Tryd.ntmps29
    go_wp2_with (go_at_call 40; refine (refTextError_any _ _ (by assumption)).mono ?_; rintro e w' ⟨rfl, rfl⟩)
    go_ret2
    exact ⟨_, by rw [Hd.out]; rfl, by rw [Hn.out]; exact SlSp.nil _, fun _ => rfl, Below.refl _ _⟩

set_option maxRecDepth 100000 in
set_option maxHeartbeats 2000000 in
theorem refDiff_same (a : ByteArray) (w : World) (hsa : a.size ≤ 100000) (h0 : diffErr a a = 0) :
    Calls Tryd.prog 29 #[.string a, .string a] w (DiffP a a w) := by
  have Hn := Lib.hid (show diff a a = [] by unfold diff; rw [if_pos h0, if_pos rfl])
  have Ha := Lib.hid (diffErr_ok h0).1
  have Hd := Lib.hid h0
  clear h0
  go_enter Tryd.func29, Tryd.ntmps29
  go_wp2_with (go_at_call 40; refine (refTextError_any _ _ (by assumption)).mono ?_; rintro e w' ⟨rfl, rfl⟩; rw [Ha.out])
  go_ret2
  exact ⟨_, by rw [Hd.out]; rfl, by rw [Hn.out]; exact SlSp.nil _, fun _ => rfl, Below.refl _ _⟩

set_option maxRecDepth 100000 in
set_option maxHeartbeats 4000000 in
theorem refDiff_main (a b : ByteArray) (w : World) (hsa : a.size ≤ 100000) (hsb : b.size ≤ 100000) (h0 : diffErr a b = 0) (hne : ¬ a.toList = b.toList) :
    Calls Tryd.prog 29 #[.string a, .string b] w (DiffP a b w) := by
  have Hn := Lib.hid (show diff a b = [diffOf a b] by unfold diff; rw [if_pos h0, if_neg hne])
  have Ha := Lib.hid (diffErr_ok h0).1
  have Hb := Lib.hid (diffErr_ok h0).2
  have Hd := Lib.hid h0
  have hq : (a.toList == b.toList) = false := by simp [hne]
  have hl := head_le a b
  have hta := tail_le a b
  obtain ⟨hl1, hl2⟩ := hl
  obtain ⟨ht1, ht2⟩ := hta
  clear h0
  go_enter Tryd.func29, Tryd.ntmps29
  go_upto_block 0 with (go_at_call 40; refine (refTextError_any _ _ (by assumption)).mono ?_; rintro e w' ⟨rfl, rfl⟩; (first | rw [Ha.out] | rw [Hb.out]))
  go_cut [10] (fun f wx => f = .int .i64 (headOf a b : Nat) ∧ Below w.heap.size w wx)
  case first =>
    go_wp2_with fail
    go_loopg [10] (min a.size b.size) (fun g i wx => ∃ k : Nat, k ≤ min a.size b.size ∧ g = min a.size b.size - k ∧ i = .int .i64 k ∧ headOf a b = com (bt a) (bt b) (min a.size b.size - k) k ∧ Below w.heap.size w wx)
    case atStart => exact ⟨0, Nat.zero_le _, rfl, rfl, rfl, Below.refl _ _⟩
    case round =>
      obtain ⟨k, hk, rfl, rfl, hc, hbw⟩ := hrel
      by_cases hlt : k < min a.size b.size
      · have hka : k < a.size := by omega
        have hkb : k < b.size := by omega
        rw [show min a.size b.size - k = (min a.size b.size - (k + 1)) + 1 by omega, com] at hc
        have h1 := bt_eq a k hka
        have h2 := bt_eq b k hkb
        by_cases heq : bt a k = bt b k
        · have hq2 : (((a[k]).toNat : Int) == ((b[k]).toNat : Int)) = true := by rw [h1, h2, heq]; simp
          rw [if_pos heq] at hc
          have Hc := Lib.hid hc
          clear hc h1 h2 heq
          go_wp2
          go_quiet (fail)
          go_wp2
          go_roundg (min a.size b.size - (k + 1))
          case measure => omega
          case rel => exact ⟨k + 1, by omega, rfl, by go_num, Hc.out, below_draws hbw _⟩
        · have hq2 : (((a[k]).toNat : Int) == ((b[k]).toNat : Int)) = false := by rw [h1, h2]; simp; omega
          rw [if_neg heq] at hc
          have Hc := Lib.hid hc
          clear hc h1 h2 heq
          go_wp2
          go_quiet (fail)
          go_wp2
          go_meet
          exact ⟨by rw [Hc.out], below_draws hbw _⟩
      · have hfin : headOf a b = k := by rw [hc, show min a.size b.size - k = 0 by omega, com]
        have Hf := Lib.hid hfin
        clear hc hfin
        by_cases hka : k < a.size
        · have hkb : ¬ k < b.size := by omega
          go_wp2
          go_quiet (fail)
          go_wp2
          go_meet
          exact ⟨by rw [Hf.out], below_draws hbw _⟩
        · have hdd : decide (k < a.size) = false := by simpa using hka
          go_wp2
          go_quiet (fail)
          go_wp2
          go_meet
          exact ⟨by rw [Hf.out], below_draws hbw _⟩
  case rest =>
    obtain ⟨rfl, hbw⟩ := hcut
    go_upto_block 2 with fail
    go_cut [11] (fun f wx => f = .int .i64 (tailOf a b : Nat) ∧ Below w.heap.size w wx)
    case first =>
      go_wp2_with fail
      go_loopg [11] (min (a.size - headOf a b) (b.size - headOf a b)) (fun g i wx => ∃ k : Nat, k ≤ min (a.size - headOf a b) (b.size - headOf a b) ∧ g = min (a.size - headOf a b) (b.size - headOf a b) - k ∧ i = .int .i64 k ∧ tailOf a b = com (fun i => bt a (a.size - 1 - i)) (fun i => bt b (b.size - 1 - i)) (min (a.size - headOf a b) (b.size - headOf a b) - k) k ∧ Below w.heap.size w wx)
      case atStart => exact ⟨0, Nat.zero_le _, rfl, rfl, tail_at a b, hbw⟩
      case round =>
        obtain ⟨k, hk, rfl, rfl, hc, hbw2⟩ := hrel
        by_cases hlt : k < min (a.size - headOf a b) (b.size - headOf a b)
        · have hka : a.size - 1 - k < a.size := by omega
          have hkb : b.size - 1 - k < b.size := by omega
          rw [show min (a.size - headOf a b) (b.size - headOf a b) - k = (min (a.size - headOf a b) (b.size - headOf a b) - (k + 1)) + 1 by omega, com] at hc
          have h1 := bt_eq a _ hka
          have h2 := bt_eq b _ hkb
          have hn1 : (a.size : Int) - 1 - (k : Int) = ((a.size - 1 - k : Nat) : Int) := by omega
          have hn2 : (b.size : Int) - 1 - (k : Int) = ((b.size - 1 - k : Nat) : Int) := by omega
          have hg1 : (k : Int) < (a.size : Int) - (headOf a b : Int) := by omega
          have hg2 : (k : Int) < (b.size : Int) - (headOf a b : Int) := by omega
          by_cases heq : bt a (a.size - 1 - k) = bt b (b.size - 1 - k)
          · have hq2 : (((a[a.size - 1 - k]).toNat : Int) == ((b[b.size - 1 - k]).toNat : Int)) = true := by rw [h1, h2, heq]; simp
            rw [if_pos heq] at hc
            have Hc := Lib.hid hc
            clear hc h1 h2 heq
            go_wp2
            go_quiet (fail)
            go_wp2
            go_roundg (min (a.size - headOf a b) (b.size - headOf a b) - (k + 1))
            case measure => omega
            case rel => exact ⟨k + 1, by omega, rfl, by go_num, Hc.out, below_draws hbw2 _⟩
          · have hq2 : (((a[a.size - 1 - k]).toNat : Int) == ((b[b.size - 1 - k]).toNat : Int)) = false := by rw [h1, h2]; simp; omega
            rw [if_neg heq] at hc
            have Hc := Lib.hid hc
            clear hc h1 h2 heq
            go_wp2
            go_quiet (fail)
            go_wp2
            go_meet
            exact ⟨by rw [Hc.out], below_draws hbw2 _⟩
        · have hfin : tailOf a b = k := by rw [hc, show min (a.size - headOf a b) (b.size - headOf a b) - k = 0 by omega, com]
          have Hf := Lib.hid hfin
          clear hc hfin
          by_cases hka : k < a.size - headOf a b
          · have hg1 : (k : Int) < (a.size : Int) - (headOf a b : Int) := by omega
            have hg2 : ¬ (k : Int) < (b.size : Int) - (headOf a b : Int) := by omega
            have hdd : decide ((k : Int) < (b.size : Int) - (headOf a b : Int)) = false := by simpa using hg2
            go_wp2
            go_quiet (fail)
            go_wp2
            go_meet
            exact ⟨by rw [Hf.out], below_draws hbw2 _⟩
          · have hg1 : ¬ (k : Int) < (a.size : Int) - (headOf a b : Int) := by omega
            have hdd : decide ((k : Int) < (a.size : Int) - (headOf a b : Int)) = false := by simpa using hg1
            go_wp2
            go_quiet (fail)
            go_wp2
            go_meet
            exact ⟨by rw [Hf.out], below_draws hbw2 _⟩
    case rest =>
      obtain ⟨rfl, hbw2⟩ := hcut
      have hn1 : (a.size : Int) - (tailOf a b : Int) = ((a.size - tailOf a b : Nat) : Int) := by omega
      have hn2 : (b.size : Int) - (tailOf a b : Int) = ((b.size - tailOf a b : Nat) : Int) := by omega
      have hn3 : headOf a b ≤ b.size - tailOf a b := by omega
      have hn4 : b.size - tailOf a b ≤ b.size := by omega
      go_wp2
      go_ret2
      exact ⟨_, by rw [Hd.out]; rfl, by rw [Hn.out]; exact SlSp.lit _ [diffOf a b] 1, fun h => by (rw [Hn.out] at h; cases h), hbw2.alloc hbw2.size _⟩

theorem refDiff_any (a b : ByteArray) (w : World) (hsa : a.size ≤ 100000) (hsb : b.size ≤ 100000) :
    Calls Tryd.prog 29 #[.string a, .string b] w (DiffP a b w) := by
  by_cases h0 : diffErr a b = 0
  · by_cases he : a.toList = b.toList
    · obtain rfl := str_eq.1 he
      exact refDiff_same a w hsa h0
    · exact refDiff_main a b w hsa hsb h0 he
  · exact refDiff_err a b w hsa hsb h0

set_option maxRecDepth 100000 in
set_option maxHeartbeats 4000000 in
theorem lexDiffs_in (a b : ByteArray) (w : World) (hG : Gl w) (ha : ¬ 3000 < a.size) (hb : ¬ 3000 < b.size) :
    Calls Tryd.prog 5 #[.string a, .string b] w (AwakeP w) := by
  have hd1 := fun W => diff_any a b W (by omega) (by omega)
  have hd2 := fun W => refDiff_any a b W (by omega) (by omega)
  have hsh := diff_short a b
  unfold DiffP at hd1 hd2
  generalize diffErr a b = te at hd1 hd2
  generalize diff a b = l at hd1 hd2 hsh
  have Hd1 := Lib.hid hd1
  have Hd2 := Lib.hid hd2
  clear hd1 hd2
  go_enter Tryd.func5, Tryd.ntmps5
  go_wp2_with (first
    | (go_at_call 28; refine (Hd1.out _).mono ?_; rintro e w1 ⟨v1, rfl, hsl1, _, hb1⟩)
    | (go_at_call 29; refine (Hd2.out _).mono ?_; rintro e w2 ⟨v2, rfl, hsl2, _, hb2⟩; have hB2 := hb1.trans (hb2.mono hb1.size))
    | (go_at_call 27; refine (sameSplices_self v1 v2 l _ (hsl1.below hb2) hsl2 (by omega)).mono ?_; rintro e w3 ⟨rfl, hb3⟩; have hB3 := hB2.trans (hb3.mono hB2.size))
    | (go_at_call 14; refine (awake_any _ (hG.next hB3)).mono ?_; rintro e w4 ⟨rfl, hb4⟩))
  go_ret
  exact ⟨rfl, hB3.trans (hb4.mono hB3.size)⟩

set_option maxRecDepth 100000 in
set_option maxHeartbeats 4000000 in
theorem lexDiffs_out (a b : ByteArray) (w : World) (hG : Gl w) (h : 3000 < a.size ∨ 3000 < b.size) :
    Calls Tryd.prog 5 #[.string a, .string b] w (AwakeP w) := by
  by_cases ha : 3000 < a.size
  · go_enter Tryd.func5, Tryd.ntmps5
    go_wp2_with (go_at_call 14; refine (awake_any _ hG).mono ?_; rintro e w1 ⟨rfl, hb1⟩)
    go_ret
    exact ⟨rfl, hb1⟩
  · have hb : 3000 < b.size := by omega
    go_enter Tryd.func5, Tryd.ntmps5
    go_wp2_with (go_at_call 14; refine (awake_any _ hG).mono ?_; rintro e w1 ⟨rfl, hb1⟩)
    go_ret
    exact ⟨rfl, hb1⟩

theorem lexDiffs_any (a b : ByteArray) (w : World) (hG : Gl w) :
    Calls Tryd.prog 5 #[.string a, .string b] w fun e w' => e = .returned (.bool true) ∧ Below w.heap.size w w' := by
  by_cases hl : 3000 < a.size ∨ 3000 < b.size
  · exact lexDiffs_out a b w hG hl
  · exact lexDiffs_in a b w hG (by omega) (by omega)

end Go.Proofs.YtocogbllhmiefaaDoor.Lx
