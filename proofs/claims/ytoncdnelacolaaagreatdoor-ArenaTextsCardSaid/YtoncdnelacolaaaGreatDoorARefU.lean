/- The reference: Text. -/
import Derived.Test.YtoncdnelacolaaaGreatDoorARefT
namespace Go.Proofs.YtoncdnelacolaaaGreatDoor.Ar
open Go Go.Proofs Go.RowKit Go.Sort Lx Ps

set_option maxRecDepth 100000 in
set_option maxHeartbeats 4000000 in
theorem refText_any (m : Mv) (w : World) (hm : MvOk m) :
    Calls Tryz.prog 43 #[mvV m] w fun e w' => e = .returned (textR m) ∧ Below w.heap.size w w' := by
  have HW := Lib.hid (fun V (h : okText m = true) => words_any m V hm h)
  have k0 := heap_alloc_new w (.cells #[.int .i64 m.id, .int .i64 m.arg, .int .u8 (m.kind : Int), .int .i64 m.n] 40)
  have hb0 : Below w.heap.size w (w.alloc (.cells #[.int .i64 m.id, .int .i64 m.arg, .int .u8 (m.kind : Int), .int .i64 m.n] 40)) := (Below.refl _ _).alloc (Nat.le_refl _) _
  have hkk : m.kind = 1 ∨ m.kind = 2 ∨ m.kind = 3 ∨ (m.kind ≠ 1 ∧ m.kind ≠ 2 ∧ m.kind ≠ 3) := by omega
  clear hm
  obtain ⟨mi, ma, mk, mn⟩ := m
  unfold mvV at *
  dsimp only at *
  by_cases h1 : 0 ≤ mi
  · by_cases h2 : 0 ≤ ma
    · rcases hkk with hk | hk | hk | ⟨hk1, hk2, hk3⟩
      · by_cases hn : mn = 0
        · subst hn
          have hok : okText ⟨mi, ma, mk, 0⟩ = true := by
            subst hk
            simp [okText, valueT]
            omega
          have HR := Lib.hid (show textR ⟨mi, ma, mk, 0⟩ = .tuple #[.string (strB (textL ⟨mi, ma, mk, 0⟩)), .int .i64 0] by unfold textR; rw [if_pos hok])
          have HWW := Lib.hid (fun V => HW.out V hok)
          clear hok HW
          generalize strB (textL ⟨mi, ma, mk, 0⟩) = st at *
          subst hk
          go_enter Tryz.func43, Tryz.ntmps43
          go_upto_region 1 with (fail)
          generalize w.alloc _ = V at k0 hb0 ⊢
          obtain ⟨⟨c0, c1, c2, c3⟩, -, hl0⟩ := four_c k0
          clear k0
          go_wp2_with (go_at_call 99; refine (HWW.out _).mono ?_; rintro e w1 ⟨rfl, hb1⟩)
          go_ret2
          exact ⟨by rw [HR.out]; rfl, hb0.trans (hb1.mono hb0.size)⟩
        · have hok : ¬ okText ⟨mi, ma, mk, mn⟩ = true := by
            subst hk
            simp [okText, valueT]
            omega
          have HR := Lib.hid (show textR ⟨mi, ma, mk, mn⟩ = .tuple #[.string ⟨#[]⟩, .int .i64 4] by unfold textR; rw [if_neg hok])
          clear hok HW
          have n9 : (mn == 0) = false := by rw [beq_eq_false_iff_ne]; exact hn
          subst hk
          go_enter Tryz.func43, Tryz.ntmps43
          go_upto_region 1 with (fail)
          generalize w.alloc _ = V at k0 hb0 ⊢
          obtain ⟨⟨c0, c1, c2, c3⟩, -, hl0⟩ := four_c k0
          clear k0
          go_wp2
          go_ret2
          exact ⟨by rw [HR.out]; rfl, hb0⟩
      · by_cases hn : 0 ≤ mn
        · have hok : okText ⟨mi, ma, mk, mn⟩ = true := by
            subst hk
            simp [okText, valueT]
            omega
          have HR := Lib.hid (show textR ⟨mi, ma, mk, mn⟩ = .tuple #[.string (strB (textL ⟨mi, ma, mk, mn⟩)), .int .i64 0] by unfold textR; rw [if_pos hok])
          have HWW := Lib.hid (fun V => HW.out V hok)
          clear hok HW
          generalize strB (textL ⟨mi, ma, mk, mn⟩) = st at *
          subst hk
          go_enter Tryz.func43, Tryz.ntmps43
          go_upto_region 1 with (fail)
          generalize w.alloc _ = V at k0 hb0 ⊢
          obtain ⟨⟨c0, c1, c2, c3⟩, -, hl0⟩ := four_c k0
          clear k0
          go_wp2_with (go_at_call 99; refine (HWW.out _).mono ?_; rintro e w1 ⟨rfl, hb1⟩)
          go_ret2
          exact ⟨by rw [HR.out]; rfl, hb0.trans (hb1.mono hb0.size)⟩
        · have hok : ¬ okText ⟨mi, ma, mk, mn⟩ = true := by
            subst hk
            simp [okText, valueT]
            omega
          have HR := Lib.hid (show textR ⟨mi, ma, mk, mn⟩ = .tuple #[.string ⟨#[]⟩, .int .i64 4] by unfold textR; rw [if_neg hok])
          clear hok HW
          have n9 : decide (0 ≤ mn) = false := by rw [decide_eq_false_iff_not]; exact hn
          subst hk
          go_enter Tryz.func43, Tryz.ntmps43
          go_upto_region 1 with (fail)
          generalize w.alloc _ = V at k0 hb0 ⊢
          obtain ⟨⟨c0, c1, c2, c3⟩, -, hl0⟩ := four_c k0
          clear k0
          go_wp2
          go_ret2
          exact ⟨by rw [HR.out]; rfl, hb0⟩
      · by_cases hn : -1 ≤ mn
        · have hok : okText ⟨mi, ma, mk, mn⟩ = true := by
            subst hk
            by_cases h5 : mn = -1
            · subst h5; simp [okText, valueT]; omega
            · simp [okText, valueT, h5]; omega
          have HR := Lib.hid (show textR ⟨mi, ma, mk, mn⟩ = .tuple #[.string (strB (textL ⟨mi, ma, mk, mn⟩)), .int .i64 0] by unfold textR; rw [if_pos hok])
          have HWW := Lib.hid (fun V => HW.out V hok)
          clear hok HW
          generalize strB (textL ⟨mi, ma, mk, mn⟩) = st at *
          subst hk
          go_enter Tryz.func43, Tryz.ntmps43
          go_upto_region 1 with (fail)
          generalize w.alloc _ = V at k0 hb0 ⊢
          obtain ⟨⟨c0, c1, c2, c3⟩, -, hl0⟩ := four_c k0
          clear k0
          go_wp2_with (go_at_call 99; refine (HWW.out _).mono ?_; rintro e w1 ⟨rfl, hb1⟩)
          go_ret2
          exact ⟨by rw [HR.out]; rfl, hb0.trans (hb1.mono hb0.size)⟩
        · have hok : ¬ okText ⟨mi, ma, mk, mn⟩ = true := by
            subst hk
            have h5 : mn ≠ -1 := by omega
            simp [okText, valueT, h5]; omega
          have HR := Lib.hid (show textR ⟨mi, ma, mk, mn⟩ = .tuple #[.string ⟨#[]⟩, .int .i64 4] by unfold textR; rw [if_neg hok])
          clear hok HW
          have n9 : decide (-1 ≤ mn) = false := by rw [decide_eq_false_iff_not]; exact hn
          subst hk
          go_enter Tryz.func43, Tryz.ntmps43
          go_upto_region 1 with (fail)
          generalize w.alloc _ = V at k0 hb0 ⊢
          obtain ⟨⟨c0, c1, c2, c3⟩, -, hl0⟩ := four_c k0
          clear k0
          go_wp2
          go_ret2
          exact ⟨by rw [HR.out]; rfl, hb0⟩
      · have e1 : ((mk : Int) == 1) = false := by rw [beq_eq_false_iff_ne]; omega
        have e2 : ((mk : Int) == 2) = false := by rw [beq_eq_false_iff_ne]; omega
        have e3 : ((mk : Int) == 3) = false := by rw [beq_eq_false_iff_ne]; omega
        have hok : ¬ okText ⟨mi, ma, mk, mn⟩ = true := by
          intro h
          have := (okText_parts h).2.2.1
          dsimp only at this
          omega
        have HR := Lib.hid (show textR ⟨mi, ma, mk, mn⟩ = .tuple #[.string ⟨#[]⟩, .int .i64 4] by unfold textR; rw [if_neg hok])
        clear hok HW
        go_enter Tryz.func43, Tryz.ntmps43
        go_upto_region 1 with (fail)
        generalize w.alloc _ = V at k0 hb0 ⊢
        obtain ⟨⟨c0, c1, c2, c3⟩, -, hl0⟩ := four_c k0
        clear k0
        go_wp2
        go_ret2
        exact ⟨by rw [HR.out]; rfl, hb0⟩
    · have n8 : decide (0 ≤ ma) = false := by rw [decide_eq_false_iff_not]; exact h2
      rcases hkk with hk | hk | hk | ⟨hk1, hk2, hk3⟩
      · have hok : ¬ okText ⟨mi, ma, mk, mn⟩ = true := by
          subst hk
          simp [okText, valueT]
          omega
        have HR := Lib.hid (show textR ⟨mi, ma, mk, mn⟩ = .tuple #[.string ⟨#[]⟩, .int .i64 4] by unfold textR; rw [if_neg hok])
        clear hok HW
        subst hk
        go_enter Tryz.func43, Tryz.ntmps43
        go_upto_region 1 with (fail)
        generalize w.alloc _ = V at k0 hb0 ⊢
        obtain ⟨⟨c0, c1, c2, c3⟩, -, hl0⟩ := four_c k0
        clear k0
        go_wp2
        go_ret2
        exact ⟨by rw [HR.out]; rfl, hb0⟩
      · have hok : ¬ okText ⟨mi, ma, mk, mn⟩ = true := by
          subst hk
          simp [okText, valueT]
          omega
        have HR := Lib.hid (show textR ⟨mi, ma, mk, mn⟩ = .tuple #[.string ⟨#[]⟩, .int .i64 4] by unfold textR; rw [if_neg hok])
        clear hok HW
        subst hk
        go_enter Tryz.func43, Tryz.ntmps43
        go_upto_region 1 with (fail)
        generalize w.alloc _ = V at k0 hb0 ⊢
        obtain ⟨⟨c0, c1, c2, c3⟩, -, hl0⟩ := four_c k0
        clear k0
        go_wp2
        go_ret2
        exact ⟨by rw [HR.out]; rfl, hb0⟩
      · have hok : ¬ okText ⟨mi, ma, mk, mn⟩ = true := by
          subst hk
          simp [okText, valueT]
          omega
        have HR := Lib.hid (show textR ⟨mi, ma, mk, mn⟩ = .tuple #[.string ⟨#[]⟩, .int .i64 4] by unfold textR; rw [if_neg hok])
        clear hok HW
        subst hk
        go_enter Tryz.func43, Tryz.ntmps43
        go_upto_region 1 with (fail)
        generalize w.alloc _ = V at k0 hb0 ⊢
        obtain ⟨⟨c0, c1, c2, c3⟩, -, hl0⟩ := four_c k0
        clear k0
        go_wp2
        go_ret2
        exact ⟨by rw [HR.out]; rfl, hb0⟩
      · have e1 : ((mk : Int) == 1) = false := by rw [beq_eq_false_iff_ne]; omega
        have e2 : ((mk : Int) == 2) = false := by rw [beq_eq_false_iff_ne]; omega
        have e3 : ((mk : Int) == 3) = false := by rw [beq_eq_false_iff_ne]; omega
        have hok : ¬ okText ⟨mi, ma, mk, mn⟩ = true := by
          intro h
          have := (okText_parts h).2.2.1
          dsimp only at this
          omega
        have HR := Lib.hid (show textR ⟨mi, ma, mk, mn⟩ = .tuple #[.string ⟨#[]⟩, .int .i64 4] by unfold textR; rw [if_neg hok])
        clear hok HW
        go_enter Tryz.func43, Tryz.ntmps43
        go_upto_region 1 with (fail)
        generalize w.alloc _ = V at k0 hb0 ⊢
        obtain ⟨⟨c0, c1, c2, c3⟩, -, hl0⟩ := four_c k0
        clear k0
        go_wp2
        go_ret2
        exact ⟨by rw [HR.out]; rfl, hb0⟩
  · have n8 : decide (0 ≤ mi) = false := by rw [decide_eq_false_iff_not]; exact h1
    rcases hkk with hk | hk | hk | ⟨hk1, hk2, hk3⟩
    · have hok : ¬ okText ⟨mi, ma, mk, mn⟩ = true := by
        subst hk
        simp [okText, valueT]
        omega
      have HR := Lib.hid (show textR ⟨mi, ma, mk, mn⟩ = .tuple #[.string ⟨#[]⟩, .int .i64 4] by unfold textR; rw [if_neg hok])
      clear hok HW
      subst hk
      go_enter Tryz.func43, Tryz.ntmps43
      go_upto_region 1 with (fail)
      generalize w.alloc _ = V at k0 hb0 ⊢
      obtain ⟨⟨c0, c1, c2, c3⟩, -, hl0⟩ := four_c k0
      clear k0
      go_wp2
      go_ret2
      exact ⟨by rw [HR.out]; rfl, hb0⟩
    · have hok : ¬ okText ⟨mi, ma, mk, mn⟩ = true := by
        subst hk
        simp [okText, valueT]
        omega
      have HR := Lib.hid (show textR ⟨mi, ma, mk, mn⟩ = .tuple #[.string ⟨#[]⟩, .int .i64 4] by unfold textR; rw [if_neg hok])
      clear hok HW
      subst hk
      go_enter Tryz.func43, Tryz.ntmps43
      go_upto_region 1 with (fail)
      generalize w.alloc _ = V at k0 hb0 ⊢
      obtain ⟨⟨c0, c1, c2, c3⟩, -, hl0⟩ := four_c k0
      clear k0
      go_wp2
      go_ret2
      exact ⟨by rw [HR.out]; rfl, hb0⟩
    · have hok : ¬ okText ⟨mi, ma, mk, mn⟩ = true := by
        subst hk
        simp [okText, valueT]
        omega
      have HR := Lib.hid (show textR ⟨mi, ma, mk, mn⟩ = .tuple #[.string ⟨#[]⟩, .int .i64 4] by unfold textR; rw [if_neg hok])
      clear hok HW
      subst hk
      go_enter Tryz.func43, Tryz.ntmps43
      go_upto_region 1 with (fail)
      generalize w.alloc _ = V at k0 hb0 ⊢
      obtain ⟨⟨c0, c1, c2, c3⟩, -, hl0⟩ := four_c k0
      clear k0
      go_wp2
      go_ret2
      exact ⟨by rw [HR.out]; rfl, hb0⟩
    · have e1 : ((mk : Int) == 1) = false := by rw [beq_eq_false_iff_ne]; omega
      have e2 : ((mk : Int) == 2) = false := by rw [beq_eq_false_iff_ne]; omega
      have e3 : ((mk : Int) == 3) = false := by rw [beq_eq_false_iff_ne]; omega
      have hok : ¬ okText ⟨mi, ma, mk, mn⟩ = true := by
        intro h
        have := (okText_parts h).2.2.1
        dsimp only at this
        omega
      have HR := Lib.hid (show textR ⟨mi, ma, mk, mn⟩ = .tuple #[.string ⟨#[]⟩, .int .i64 4] by unfold textR; rw [if_neg hok])
      clear hok HW
      go_enter Tryz.func43, Tryz.ntmps43
      go_upto_region 1 with (fail)
      generalize w.alloc _ = V at k0 hb0 ⊢
      obtain ⟨⟨c0, c1, c2, c3⟩, -, hl0⟩ := four_c k0
      clear k0
      go_wp2
      go_ret2
      exact ⟨by rw [HR.out]; rfl, hb0⟩

end Go.Proofs.YtoncdnelacolaaaGreatDoor.Ar
