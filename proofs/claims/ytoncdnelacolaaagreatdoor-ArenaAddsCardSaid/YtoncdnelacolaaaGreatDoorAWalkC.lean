/- Check, rightOf: the error of an arena. -/
import Derived.Test.YtoncdnelacolaaaGreatDoorAWalkB
namespace Go.Proofs.YtoncdnelacolaaaGreatDoor.Ar
open Go Go.Proofs Go.RowKit Lx

/-- An arena that lies in memory: its identifiers. -/
structure ArIn (W : World) (ids : Value) (a : Ar) : Prop where
  sl : SlT W ids a.ids
  len : a.ids.length ≤ 140737488355328
  lens : ∀ x ∈ a.ids, x.params.length ≤ 140737488355328
theorem ArIn.below {W W' : World} {ids : Value} {a : Ar} (h : ArIn W ids a) (hb : Below W.heap.size W W') : ArIn W' ids a := ⟨h.sl.below hb, h.len, h.lens⟩

theorem checkE_5a {a : Ar} (h : 8 < a.ids.length) : checkE a = 5 := by simp [checkE, h]
theorem checkE_5b {a : Ar} (h : a.ids.any wideT = true) : checkE a = 5 := by simp [checkE, h]
theorem checkE_4a {a : Ar} (h1 : ¬ 8 < a.ids.length) (h2 : a.ids.any wideT = false) (h : badB a.root = true) : checkE a = 4 := by simp [checkE, h1, h2, h]
theorem checkE_4b {a : Ar} (h1 : ¬ 8 < a.ids.length) (h2 : a.ids.any wideT = false) (h : a.ids.any badT = true) : checkE a = 4 := by simp [checkE, h1, h2, h]
theorem checkE_0 {a : Ar} (h1 : ¬ 8 < a.ids.length) (h2 : a.ids.any wideT = false) (h3 : badB a.root = false) (h4 : a.ids.any badT = false) : checkE a = 0 := by simp [checkE, h1, h2, h3, h4]

set_option maxHeartbeats 2000000 in
theorem check_any (ids : Value) (a : Ar) (w : World) (hin : ArIn w ids a) :
    Calls Tryz.prog 19 #[arV ids a] w fun e w' => e = .returned (.int .i64 (checkE a : Int)) ∧ Below w.heap.size w w' := by
  have hW : ∀ W, Below w.heap.size w W → Calls Tryz.prog 55 #[ids, .func (.func 56) #[] #[]] W fun e w' => e = .returned (.bool (a.ids.any wideT)) ∧ Below W.heap.size W w' := fun W hb => containsW_any ids a.ids W (hin.sl.below hb) hin.len hin.lens
  have hT : ∀ W, Below w.heap.size w W → Calls Tryz.prog 55 #[ids, .func (.func 58) #[] #[]] W fun e w' => e = .returned (.bool (a.ids.any badT)) ∧ Below W.heap.size W w' := fun W hb => containsT_any ids a.ids W (hin.sl.below hb) hin.len hin.lens
  have hR := fun W => badB_any a.root W
  have hlen := hin.len
  obtain ⟨A, cap, rfl, -⟩ := hin.sl
  clear hin
  have hba : Below w.heap.size w (w.alloc (.cells #[.slice A a.ids.length cap, .bool a.root.cell, .int .i64 a.root.n, .bool a.jumps] 26)) := (Below.refl _ _).alloc (Nat.le_refl _) _
  have HB0 := heap_alloc_new w (.cells #[.slice A a.ids.length cap, .bool a.root.cell, .int .i64 a.root.n, .bool a.jumps] 26)
  unfold bsV at hR
  unfold arV
  by_cases h1 : 8 < a.ids.length
  · have HE := Lib.hid (checkE_5a h1)
    clear hW hT hR
    have h1' : (8 : Int) < (a.ids.length : Int) := by omega
    go_enter Tryz.func19, Tryz.ntmps19
    go_wp2
    go_ret
    exact ⟨ret_int (by rw [HE.out]; rfl), hba⟩
  · have h1' : ¬ (8 : Int) < (a.ids.length : Int) := by omega
    cases h2 : a.ids.any wideT
    · rw [h2] at hW
      cases h3 : badB a.root
      · rw [h3] at hR
        cases h4 : a.ids.any badT
        · rw [h4] at hT
          have HE := Lib.hid (checkE_0 h1 h2 h3 h4)
          have HW := Lib.hid hW
          have HT := Lib.hid hT
          have HR := Lib.hid hR
          have HBB := Lib.hid HB0
          clear hW hT hR HB0 h1
          try clear h2
          try clear h3
          try clear h4
          go_enter Tryz.func19, Tryz.ntmps19
          go_wp2_with (first
            | (go_at_call 57; refine (HR.out _).mono ?_; rintro e w2 ⟨rfl, hb3⟩; have hb4 := hb2.trans (hb3.mono hb2.size); obtain ⟨hc3, hf3⟩ := old_cells hb3; have hz3 : w.heap.size < w2.heap.size := by have := hb3.size; omega)
            | (go_at_call 55; refine (HT.out _ hb4).mono ?_; rintro e w3 ⟨rfl, hb5⟩; have hb6 := hb4.trans (hb5.mono hb4.size))
            | (go_at_call 55; refine (HW.out _ hba).mono ?_; rintro e w1 ⟨rfl, hb1⟩; have hb2 := hba.trans (hb1.mono hba.size); obtain ⟨hc1, hf1⟩ := old_cells hb1; have hz2 : w.heap.size < w1.heap.size := by have := hb1.size; simp at this; omega))
          go_ret
          exact ⟨ret_int (by rw [HE.out]; rfl), by assumption⟩
        · rw [h4] at hT
          have HE := Lib.hid (checkE_4b h1 h2 h4)
          have HW := Lib.hid hW
          have HT := Lib.hid hT
          have HR := Lib.hid hR
          have HBB := Lib.hid HB0
          clear hW hT hR HB0 h1
          try clear h2
          try clear h3
          try clear h4
          go_enter Tryz.func19, Tryz.ntmps19
          go_wp2_with (first
            | (go_at_call 57; refine (HR.out _).mono ?_; rintro e w2 ⟨rfl, hb3⟩; have hb4 := hb2.trans (hb3.mono hb2.size); obtain ⟨hc3, hf3⟩ := old_cells hb3; have hz3 : w.heap.size < w2.heap.size := by have := hb3.size; omega)
            | (go_at_call 55; refine (HT.out _ hb4).mono ?_; rintro e w3 ⟨rfl, hb5⟩; have hb6 := hb4.trans (hb5.mono hb4.size))
            | (go_at_call 55; refine (HW.out _ hba).mono ?_; rintro e w1 ⟨rfl, hb1⟩; have hb2 := hba.trans (hb1.mono hba.size); obtain ⟨hc1, hf1⟩ := old_cells hb1; have hz2 : w.heap.size < w1.heap.size := by have := hb1.size; simp at this; omega))
          go_ret
          exact ⟨ret_int (by rw [HE.out]; rfl), by assumption⟩
      · rw [h3] at hR
        have HE := Lib.hid (checkE_4a h1 h2 h3)
        have HW := Lib.hid hW
        have HT := Lib.hid hT
        have HR := Lib.hid hR
        have HBB := Lib.hid HB0
        clear hW hT hR HB0 h1
        try clear h2
        try clear h3
        try clear h4
        go_enter Tryz.func19, Tryz.ntmps19
        go_wp2_with (first
          | (go_at_call 57; refine (HR.out _).mono ?_; rintro e w2 ⟨rfl, hb3⟩; have hb4 := hb2.trans (hb3.mono hb2.size); obtain ⟨hc3, hf3⟩ := old_cells hb3; have hz3 : w.heap.size < w2.heap.size := by have := hb3.size; omega)
          | (go_at_call 55; refine (HT.out _ hb4).mono ?_; rintro e w3 ⟨rfl, hb5⟩; have hb6 := hb4.trans (hb5.mono hb4.size))
          | (go_at_call 55; refine (HW.out _ hba).mono ?_; rintro e w1 ⟨rfl, hb1⟩; have hb2 := hba.trans (hb1.mono hba.size); obtain ⟨hc1, hf1⟩ := old_cells hb1; have hz2 : w.heap.size < w1.heap.size := by have := hb1.size; simp at this; omega))
        go_ret
        exact ⟨ret_int (by rw [HE.out]; rfl), by assumption⟩
    · rw [h2] at hW
      have HE := Lib.hid (checkE_5b h2)
      have HW := Lib.hid hW
      have HT := Lib.hid hT
      have HR := Lib.hid hR
      have HBB := Lib.hid HB0
      clear hW hT hR HB0 h1
      try clear h2
      try clear h3
      try clear h4
      go_enter Tryz.func19, Tryz.ntmps19
      go_wp2_with (first
        | (go_at_call 57; refine (HR.out _).mono ?_; rintro e w2 ⟨rfl, hb3⟩; have hb4 := hb2.trans (hb3.mono hb2.size); obtain ⟨hc3, hf3⟩ := old_cells hb3; have hz3 : w.heap.size < w2.heap.size := by have := hb3.size; omega)
        | (go_at_call 55; refine (HT.out _ hb4).mono ?_; rintro e w3 ⟨rfl, hb5⟩; have hb6 := hb4.trans (hb5.mono hb4.size))
        | (go_at_call 55; refine (HW.out _ hba).mono ?_; rintro e w1 ⟨rfl, hb1⟩; have hb2 := hba.trans (hb1.mono hba.size); obtain ⟨hc1, hf1⟩ := old_cells hb1; have hz2 : w.heap.size < w1.heap.size := by have := hb1.size; simp at this; omega))
      go_ret
      exact ⟨ret_int (by rw [HE.out]; rfl), by assumption⟩

set_option maxHeartbeats 2000000 in
/-- An arena that must be right. -/
theorem rightOf_any (ids : Value) (a : Ar) (w : World) (hin : ArIn w ids a) (e : Nat) (he : checkE a = e) :
    Calls Tryz.prog 59 #[arV ids a] w fun r w' => r = .returned (.tuple #[if e = 0 then arV ids a else .agg #[.slice none 0 0, .bool false, .int .i64 0, .bool false], .int .i64 (e : Int)]) ∧ Below w.heap.size w w' := by
  have hC : ∀ W, Below w.heap.size w W → Calls Tryz.prog 19 #[arV ids a] W fun r w' => r = .returned (.int .i64 (e : Int)) ∧ Below W.heap.size W w' := fun W hb => he ▸ check_any ids a W (hin.below hb)
  obtain ⟨A, cap, rfl, -⟩ := hin.sl
  clear hin he
  have hba : Below w.heap.size w ((w.alloc (.cells #[.slice A a.ids.length cap, .bool a.root.cell, .int .i64 a.root.n, .bool a.jumps] 26)).alloc (.cells #[.slice none 0 0, .bool false, .int .i64 0, .bool false] 80)) := ((Below.refl _ _).alloc (Nat.le_refl _) _).alloc (by simp) _
  unfold arV at hC ⊢
  by_cases h0 : e = 0
  · subst h0
    have HC := Lib.hid hC
    clear hC
    go_enter Tryz.func59, Tryz.ntmps59
    go_wp2_with (go_at_call 19; refine (HC.out _ hba).mono ?_; rintro r w1 ⟨rfl, hb1⟩; have hb2 := hba.trans (hb1.mono hba.size); obtain ⟨hc1, hf1⟩ := old_cells hb1; have hz2 : w.heap.size + 1 < w1.heap.size := by have := hb1.size; simp at this; omega)
    refine bodyPost_ret (v := .tuple #[.agg #[.slice A a.ids.length cap, .bool a.root.cell, .int .i64 a.root.n, .bool a.jumps], .int .i64 0]) (by simp [results, Tryz.results59, go_sem, hc1]) rfl ⟨rfl, ?_⟩
    exact (((hb2.setCell (by simp) _).setCell (by simp) _).setCell (by simp) _).setCell (by simp) _
  · have h0' : ((e : Int) != 0) = true := by simp; omega
    have H0 := Lib.hid h0
    have HC := Lib.hid hC
    clear hC h0
    go_enter Tryz.func59, Tryz.ntmps59
    go_wp2_with (go_at_call 19; refine (HC.out _ hba).mono ?_; rintro r w1 ⟨rfl, hb1⟩; have hb2 := hba.trans (hb1.mono hba.size); obtain ⟨hc1, hf1⟩ := old_cells hb1; have hz2 : w.heap.size + 1 < w1.heap.size := by have := hb1.size; simp at this; omega)
    refine bodyPost_ret (v := .tuple #[.agg #[.slice none 0 0, .bool false, .int .i64 0, .bool false], .int .i64 (e : Int)]) (by simp [results, Tryz.results59, go_sem, hc1]) rfl ⟨rfl, ?_⟩
    exact (((hb2.setCell (by simp) _).setCell (by simp) _).setCell (by simp) _).setCell (by simp) _

theorem rightOf_ok (ids : Value) (a : Ar) (w : World) (hin : ArIn w ids a) (he : checkE a = 0) :
    Calls Tryz.prog 59 #[arV ids a] w fun r w' => r = .returned (.tuple #[arV ids a, .int .i64 0]) ∧ Below w.heap.size w w' :=
  (rightOf_any ids a w hin 0 he).mono fun _ _ ⟨h1, h2⟩ => ⟨h1.trans (by rw [if_pos rfl]; rfl), h2⟩
theorem rightOf_bad (ids : Value) (a : Ar) (w : World) (hin : ArIn w ids a) (he : checkE a ≠ 0) :
    Calls Tryz.prog 59 #[arV ids a] w fun r w' => r = .returned (.tuple #[.agg #[.slice none 0 0, .bool false, .int .i64 0, .bool false], .int .i64 (checkE a : Int)]) ∧ Below w.heap.size w w' :=
  (rightOf_any ids a w hin _ rfl).mono fun _ _ ⟨h1, h2⟩ => ⟨h1.trans (by rw [if_neg he]), h2⟩

end Go.Proofs.YtoncdnelacolaaaGreatDoor.Ar
