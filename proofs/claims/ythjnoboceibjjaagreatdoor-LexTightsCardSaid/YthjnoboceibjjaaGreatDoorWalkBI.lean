/- The document's own look at tokens of the shortest text. -/
import Derived.Test.YthjnoboceibjjaaGreatDoorWalkAK
import Derived.Test.YthjnoboceibjjaaGreatDoorWalkAO
namespace Go.Proofs.YthjnoboceibjjaaGreatDoor.Lx
open Go Go.Proofs Go.RowKit Go.Shelf

set_option maxRecDepth 100000 in
set_option maxHeartbeats 4000000 in
theorem refIsRightW_any (x : Tk) (at_ : Int) (w : World) (hs : x.text.size ≤ 100000) :
    Calls Tryz.prog 38 #[.agg #[.int .u8 (x.kind : Int), .string x.text, .int .i64 at_]] w fun e w' => e = .returned (.bool (goodTk x)) ∧ Below w.heap.size w w' := by
  by_cases h0 : x.text.size = 0
  · have Hg := Lib.hid (show goodTk x = false by unfold goodTk; rw [decide_eq_true h0]; simp)
    have hte := empty_list h0
    have hte2 : x.text.toList.isEmpty = true := by simp [hte]
    have hte3 : (x.text.toList == []) = true := by simp [hte]
    go_enter Tryz.func38, Tryz.ntmps38
    go_wp2
    go_ret
    exact ⟨ret_bool Hg.out.symm, (Below.refl _ _).alloc (Nat.le_refl _) _⟩
  · obtain ⟨e1, e2, e3⟩ := word_facts (show 0 < x.text.size by omega)
    have hgd := good_doc x (by omega)
    have hto := fun W => token_any x.text 0 W hs (by omega)
    unfold TokenP tkGot tkVals at hto
    have hb0 : Below w.heap.size w (w.alloc (.cells #[.int .u8 (x.kind : Int), .string x.text, .int .i64 at_] 33)) := (Below.refl _ _).alloc (Nat.le_refl _) _
    clear h0
    by_cases he : tkErr x.text 0 = 0
    · rw [if_pos he] at hto
      rw [he] at hto hgd
      generalize (piece x.text 0).tk = u at hto hgd
      have Hto := Lib.hid hto
      clear hto he
      by_cases hk : u.kind = x.kind
      · have q1 : ((u.kind : Int) == (x.kind : Int)) = true := by rw [hk]; simp
        rw [decide_eq_true hk] at hgd
        clear hk
        by_cases ht : u.text.toList = x.text.toList
        · have q2 : (u.text.toList == x.text.toList) = true := by rw [ht]; simp
          have Hg := Lib.hid (show goodTk x = true by rw [hgd, decide_eq_true ht]; rfl)
          clear ht hgd
          go_enter Tryz.func38, Tryz.ntmps38
          go_wp2_with (go_at_call 50; refine (Hto.out _).mono ?_; rintro e w1 ⟨rfl, hb1⟩; have hz1 := hb1.size; have cc0 := (hb1.cell (p := ⟨w.heap.size, 0, none⟩) (by simp)).trans (cell_new w _ _ 0); have cc1 := (hb1.cell (p := ⟨w.heap.size, 1, none⟩) (by simp)).trans (cell_new w _ _ 1); rw [alloc_sz] at hz1; have hs1 : w.heap.size < w1.heap.size := by omega)
          go_ret
          exact ⟨ret_bool Hg.out.symm, (hb0.trans (hb1.mono hb0.size)).alloc (by omega) _⟩
        · have q2 : (u.text.toList == x.text.toList) = false := by simp [ht]
          have Hg := Lib.hid (show goodTk x = false by rw [hgd, decide_eq_false ht]; rfl)
          clear ht hgd
          go_enter Tryz.func38, Tryz.ntmps38
          go_wp2_with (go_at_call 50; refine (Hto.out _).mono ?_; rintro e w1 ⟨rfl, hb1⟩; have hz1 := hb1.size; have cc0 := (hb1.cell (p := ⟨w.heap.size, 0, none⟩) (by simp)).trans (cell_new w _ _ 0); have cc1 := (hb1.cell (p := ⟨w.heap.size, 1, none⟩) (by simp)).trans (cell_new w _ _ 1); rw [alloc_sz] at hz1; have hs1 : w.heap.size < w1.heap.size := by omega)
          go_ret
          exact ⟨ret_bool Hg.out.symm, (hb0.trans (hb1.mono hb0.size)).alloc (by omega) _⟩
      · have q1 : ((u.kind : Int) == (x.kind : Int)) = false := by simp; omega
        have Hg := Lib.hid (show goodTk x = false by rw [hgd, decide_eq_false hk]; rfl)
        clear hk hgd
        go_enter Tryz.func38, Tryz.ntmps38
        go_wp2_with (go_at_call 50; refine (Hto.out _).mono ?_; rintro e w1 ⟨rfl, hb1⟩; have hz1 := hb1.size; have cc0 := (hb1.cell (p := ⟨w.heap.size, 0, none⟩) (by simp)).trans (cell_new w _ _ 0); have cc1 := (hb1.cell (p := ⟨w.heap.size, 1, none⟩) (by simp)).trans (cell_new w _ _ 1); rw [alloc_sz] at hz1; have hs1 : w.heap.size < w1.heap.size := by omega)
        go_ret
        exact ⟨ret_bool Hg.out.symm, (hb0.trans (hb1.mono hb0.size)).alloc (by omega) _⟩
    · have Hg := Lib.hid (show goodTk x = false by rw [hgd, decide_eq_false he]; rfl)
      rw [if_neg he] at hto
      generalize tkErr x.text 0 = te at hto he
      have q0 : ((te : Int) == 0) = false := by simp; omega
      have Hto := Lib.hid hto
      clear hto he hgd
      go_enter Tryz.func38, Tryz.ntmps38
      go_wp2_with (go_at_call 50; refine (Hto.out _).mono ?_; rintro e w1 ⟨rfl, hb1⟩; have hz1 := hb1.size; rw [alloc_sz] at hz1; have hs1 : w.heap.size < w1.heap.size := by omega)
      go_ret
      exact ⟨ret_bool Hg.out.symm, (hb0.trans (hb1.mono hb0.size)).alloc (by omega) _⟩


set_option maxRecDepth 100000 in
set_option maxHeartbeats 2000000 in
theorem apart_any (x y : Tk) (at1 at2 : Int) (w : World) :
    Calls Tryz.prog 23 #[.agg #[.int .u8 (x.kind : Int), .string x.text, .int .i64 at1], .agg #[.int .u8 (y.kind : Int), .string y.text, .int .i64 at2]] w fun e w' => e = .returned (.bool (growT x y)) ∧ Below w.heap.size w w' := by
  have hg : growT x y = ((decide (x.kind ≠ 4) && decide (y.kind ≠ 4)) || (decide (x.text.data.toList = [58]) && decide (y.text.data.toList = [61]))) := rfl
  rw [hg]
  clear hg
  have Hb := Lib.hid (((Below.refl w.heap.size w).alloc (Nat.le_refl _) (.cells #[.int .u8 (x.kind : Int), .string x.text, .int .i64 at1] 33)).alloc (by rw [alloc_sz]; omega) (.cells #[.int .u8 (y.kind : Int), .string y.text, .int .i64 at2] 33))
  have e58 : (⟨#[58]⟩ : ByteArray).toList = [58] := by rw [ByteArray.toList_eq]
  have e61 : (⟨#[61]⟩ : ByteArray).toList = [61] := by rw [ByteArray.toList_eq]
  have step : ∀ b : Bool, ((decide (x.kind ≠ 4) && decide (y.kind ≠ 4)) = true ∧ b = true) ∨ ((decide (x.kind ≠ 4) && decide (y.kind ≠ 4)) = false ∧ b = (decide (x.text.data.toList = [58]) && decide (y.text.data.toList = [61]))) →
      ((decide (x.kind ≠ 4) && decide (y.kind ≠ 4)) || (decide (x.text.data.toList = [58]) && decide (y.text.data.toList = [61]))) = b := by
    intro b h
    rcases h with ⟨h1, h2⟩ | ⟨h1, h2⟩
    · rw [h1, h2]; rfl
    · rw [h1, h2]; rfl
  have Hst := Lib.hid step
  clear step
  have hk : (((x.kind : Int) != 4) = true ∧ ((y.kind : Int) != 4) = true ∧ (decide (x.kind ≠ 4) && decide (y.kind ≠ 4)) = true) ∨ (((x.kind : Int) != 4) = true ∧ ((y.kind : Int) != 4) = false ∧ (decide (x.kind ≠ 4) && decide (y.kind ≠ 4)) = false) ∨ (((x.kind : Int) != 4) = false ∧ (decide (x.kind ≠ 4) && decide (y.kind ≠ 4)) = false) := by
    by_cases h1 : x.kind = 4
    · exact .inr (.inr ⟨by rw [h1]; rfl, by rw [h1]; rfl⟩)
    · by_cases h2 : y.kind = 4
      · exact .inr (.inl ⟨by simp; omega, by rw [h2]; rfl, by rw [h2]; simp⟩)
      · exact .inl ⟨by simp; omega, by simp; omega, by simp [h1, h2]⟩
  have ht : ((x.text.toList == [58]) = true ∧ (y.text.toList == [61]) = true ∧ (decide (x.text.data.toList = [58]) && decide (y.text.data.toList = [61])) = true) ∨ ((x.text.toList == [58]) = true ∧ (y.text.toList == [61]) = false ∧ (decide (x.text.data.toList = [58]) && decide (y.text.data.toList = [61])) = false) ∨ ((x.text.toList == [58]) = false ∧ (decide (x.text.data.toList = [58]) && decide (y.text.data.toList = [61])) = false) := by
    rw [show decide (x.text.data.toList = [58]) = decide (x.text.toList = [58]) from decide_eq_decide.2 one_text, show decide (y.text.data.toList = [61]) = decide (y.text.toList = [61]) from decide_eq_decide.2 one_text]
    by_cases h1 : x.text.toList = [58]
    · by_cases h2 : y.text.toList = [61]
      · exact .inl ⟨by rw [h1]; rfl, by rw [h2]; rfl, by simp [h1, h2]⟩
      · exact .inr (.inl ⟨by rw [h1]; rfl, by simp [h2], by simp [h2]⟩)
    · exact .inr (.inr ⟨by simp [h1], by simp [h1]⟩)
  rcases hk with ⟨k1, k2, k3⟩ | ⟨k1, k2, k3⟩ | ⟨k1, k3⟩
  · rw [Hst.out true (.inl ⟨k3, rfl⟩)]
    clear ht k3
    go_enter Tryz.func23, Tryz.ntmps23
    go_wp2
    repeat (go_quiet (fail); go_wp2)
    go_ret
    exact ⟨rfl, by first | exact Hb.out | exact below_draws Hb.out _⟩
  · rw [Hst.out _ (.inr ⟨k3, rfl⟩)]
    clear k3
    rcases ht with ⟨t1, t2, t3⟩ | ⟨t1, t2, t3⟩ | ⟨t1, t3⟩
    · rw [t3]
      clear t3
      go_enter Tryz.func23, Tryz.ntmps23
      go_wp2
      repeat (go_quiet (fail); go_wp2)
      go_ret
      exact ⟨rfl, by first | exact Hb.out | exact below_draws Hb.out _⟩
    · rw [t3]
      clear t3
      go_enter Tryz.func23, Tryz.ntmps23
      go_wp2
      repeat (go_quiet (fail); go_wp2)
      go_ret
      exact ⟨rfl, by first | exact Hb.out | exact below_draws Hb.out _⟩
    · rw [t3]
      clear t3
      go_enter Tryz.func23, Tryz.ntmps23
      go_wp2
      repeat (go_quiet (fail); go_wp2)
      go_ret
      exact ⟨rfl, by first | exact Hb.out | exact below_draws Hb.out _⟩
  · rw [Hst.out _ (.inr ⟨k3, rfl⟩)]
    clear k3
    rcases ht with ⟨t1, t2, t3⟩ | ⟨t1, t2, t3⟩ | ⟨t1, t3⟩
    · rw [t3]
      clear t3
      go_enter Tryz.func23, Tryz.ntmps23
      go_wp2
      repeat (go_quiet (fail); go_wp2)
      go_ret
      exact ⟨rfl, by first | exact Hb.out | exact below_draws Hb.out _⟩
    · rw [t3]
      clear t3
      go_enter Tryz.func23, Tryz.ntmps23
      go_wp2
      repeat (go_quiet (fail); go_wp2)
      go_ret
      exact ⟨rfl, by first | exact Hb.out | exact below_draws Hb.out _⟩
    · rw [t3]
      clear t3
      go_enter Tryz.func23, Tryz.ntmps23
      go_wp2
      repeat (go_quiet (fail); go_wp2)
      go_ret
      exact ⟨rfl, by first | exact Hb.out | exact below_draws Hb.out _⟩


end Go.Proofs.YthjnoboceibjjaaGreatDoor.Lx
