/- Names of package lex: isRight, isName. -/
import Derived.Test.YthjnoboceibjjaaGreatDoorWalkO
import Derived.Deep.RegionWith
namespace Go.Proofs.YthjnoboceibjjaaGreatDoor.Lx
open Go Go.Proofs Go.RowKit Go.Shelf

/-- Is a token one that could stand in a text? -/
def goodTk (t : Tk) : Bool := !(decide (t.kind = 5) || (decide (t.text.size = 0) || decide (pieceEnd t.text 0 < t.text.size))) && (decide ((kindOf t.text).2 = 0) && decide ((kindOf t.text).1 = t.kind))
theorem empty_list {s : ByteArray} (h : s.size = 0) : s.toList = [] := by
  rw [ByteArray.toList_eq]; exact List.length_eq_zero_iff.1 (by rw [← h]; exact len_list s)
theorem empty_list' {s : ByteArray} (h : s.toList = []) : s.size = 0 := by
  rw [ByteArray.toList_eq] at h; rw [← len_list s, h]; rfl

set_option maxRecDepth 100000 in
set_option maxHeartbeats 4000000 in
theorem isRight_in (x : Tk) (mb : Nat) (w : World) (hs : x.text.size ≤ 100000) (hG : Gl w) (hm : Kw w mb) (h5 : ¬ x.kind = 5) (h0 : ¬ x.text.size = 0) (hp : ¬ pieceEnd x.text 0 < x.text.size) :
    Calls Tryz.prog 36 #[.agg #[.int .u8 (x.kind : Int), .string x.text, .int .i64 (x.pos : Int)], .map (some mb)] w fun e w' => e = .returned (.bool (goodTk x)) ∧ Below w.heap.size w w' := by
  have ht : ((x.kind : Int) == 5) = false := by simp; omega
  have hte : x.text.toList ≠ [] := fun h => h0 (empty_list' h)
  have hte2 : x.text.toList.isEmpty = false := by simp [hte]
  have hte3 : (x.text.toList == []) = false := by simp [hte]
  have hb0 : Below w.heap.size w (w.alloc (.cells #[.int .u8 (x.kind : Int), .string x.text, .int .i64 (x.pos : Int)] 33)) := (Below.refl _ _).alloc (Nat.le_refl _) _
  have hpe := fun W => pieceEnd_any x.text 0 W hs (by omega)
  have Hpe := Lib.hid hpe
  have hko := fun W hG' hm' => kindOf_any x.text mb W hs (by omega) hG' hm'
  have Hko := Lib.hid hko
  have Hg := Lib.hid (show goodTk x = (decide ((kindOf x.text).2 = 0) && decide ((kindOf x.text).1 = x.kind)) by unfold goodTk; rw [decide_eq_false h5, decide_eq_false h0, decide_eq_false hp]; rfl)
  have hdec : (((kindOf x.text).2 : Int) == 0) = true ∧ (((kindOf x.text).1 : Int) == (x.kind : Int)) = true ∧ Hid (goodTk x = true) ∨ (((kindOf x.text).2 : Int) == 0) = true ∧ (((kindOf x.text).1 : Int) == (x.kind : Int)) = false ∧ Hid (goodTk x = false) ∨ (((kindOf x.text).2 : Int) == 0) = false ∧ Hid (goodTk x = false) := by
    by_cases hk2 : (kindOf x.text).2 = 0
    · by_cases hk1 : (kindOf x.text).1 = x.kind
      · exact .inl ⟨by rw [hk2]; rfl, by rw [hk1]; simp, Lib.hid (by rw [Hg.out, decide_eq_true hk2, decide_eq_true hk1]; rfl)⟩
      · exact .inr (.inl ⟨by rw [hk2]; rfl, by simp; omega, Lib.hid (by rw [Hg.out, decide_eq_true hk2, decide_eq_false hk1]; rfl)⟩)
    · exact .inr (.inr ⟨by simp; omega, Lib.hid (by rw [Hg.out, decide_eq_false hk2]; rfl)⟩)
  have Hd := Lib.hid hdec
  have hmlt := hm.lt
  clear h5 hpe hko hdec
  go_enter Tryz.func36, Tryz.ntmps36
  go_wp2
  go_region_with (go_at_call 42; refine (Hpe.out _).mono ?_; rintro e w1 ⟨rfl, hb1⟩; have cc0 := (hb1.cell (p := ⟨w.heap.size, 0, none⟩) (by simp)).trans (cell_new w _ _ 0); have cc1 := (hb1.cell (p := ⟨w.heap.size, 1, none⟩) (by simp)).trans (cell_new w _ _ 1))
  all_goals (
    have hB1 := hb0.drew.trans (hb1.mono (by simp))
    have hG1 := hG.next hB1
    have hm1 := hm.next hB1
    have hs1 : w.heap.size < w1.heap.size := by have := hb1.size; simp at this; omega
    clear hb1
    go_wp2_with (go_at_call 43; refine (Hko.out _ hG1 hm1).mono ?_; rintro e w2 ⟨rfl, hb2⟩; have cc2 := (hb2.cell (p := ⟨w.heap.size, 0, none⟩) hs1).trans cc0; have hB2 := hB1.trans (hb2.mono hB1.size); rcases Hd.out with ⟨q2, q1, Hgg⟩ | ⟨q2, q1, Hgg⟩ | ⟨q2, Hgg⟩))
  all_goals (go_ret; exact ⟨ret_bool Hgg.out.symm, hB2⟩)

set_option maxRecDepth 100000 in
set_option maxHeartbeats 2000000 in
theorem isRight_any (x : Tk) (mb : Nat) (w : World) (hs : x.text.size ≤ 100000) (hG : Gl w) (hm : Kw w mb) :
    Calls Tryz.prog 36 #[.agg #[.int .u8 (x.kind : Int), .string x.text, .int .i64 (x.pos : Int)], .map (some mb)] w fun e w' => e = .returned (.bool (goodTk x)) ∧ Below w.heap.size w w' := by
  by_cases h5 : x.kind = 5
  · have Hg := Lib.hid (show goodTk x = false by unfold goodTk; rw [decide_eq_true h5]; rfl)
    have ht : ((x.kind : Int) == 5) = true := by rw [h5]; rfl
    clear h5
    go_enter Tryz.func36, Tryz.ntmps36
    go_wp2
    go_region
    go_wp2
    go_ret
    exact ⟨ret_bool Hg.out.symm, ((Below.refl _ _).alloc (Nat.le_refl _) _).drew⟩
  · by_cases h0 : x.text.size = 0
    · have Hg := Lib.hid (show goodTk x = false by unfold goodTk; rw [decide_eq_false h5, decide_eq_true h0]; rfl)
      have ht : ((x.kind : Int) == 5) = false := by simp; omega
      have hte := empty_list h0
      clear h5
      go_enter Tryz.func36, Tryz.ntmps36
      go_wp2
      go_region
      go_wp2
      go_ret
      exact ⟨ret_bool Hg.out.symm, ((Below.refl _ _).alloc (Nat.le_refl _) _).drew⟩
    · have ht : ((x.kind : Int) == 5) = false := by simp; omega
      have hte : x.text.toList ≠ [] := fun h => h0 (empty_list' h)
      have hte2 : x.text.toList.isEmpty = false := by simp [hte]
      have hte3 : (x.text.toList == []) = false := by simp [hte]
      have hb0 : Below w.heap.size w (w.alloc (.cells #[.int .u8 (x.kind : Int), .string x.text, .int .i64 (x.pos : Int)] 33)) := (Below.refl _ _).alloc (Nat.le_refl _) _
      have hpe := fun W => pieceEnd_any x.text 0 W hs (by omega)
      have Hpe := Lib.hid hpe
      by_cases hp : pieceEnd x.text 0 < x.text.size
      · have Hg := Lib.hid (show goodTk x = false by unfold goodTk; rw [decide_eq_false h5, decide_eq_false h0, decide_eq_true hp]; rfl)
        clear h5 hpe
        go_enter Tryz.func36, Tryz.ntmps36
        go_wp2
        go_region_with (go_at_call 42; refine (Hpe.out _).mono ?_; rintro e w1 ⟨rfl, hb1⟩; have cc0 := (hb1.cell (p := ⟨w.heap.size, 0, none⟩) (by simp)).trans (cell_new w _ _ 0); have cc1 := (hb1.cell (p := ⟨w.heap.size, 1, none⟩) (by simp)).trans (cell_new w _ _ 1))
        all_goals (go_wp2; go_ret; exact ⟨ret_bool Hg.out.symm, hb0.drew.trans (hb1.mono (by simp))⟩)
      · exact isRight_in x mb w hs hG hm h5 h0 hp

theorem isName_any (s : ByteArray) (w : World) (hs : s.size ≤ 100000) (hG : Gl w) :
    Calls Tryz.prog 30 #[.string s] w fun e w' => e = .returned (.bool (goodTk ⟨1, s, 0⟩)) ∧ Below w.heap.size w w' := by
  have hir := fun W mb hG' hm' => isRight_any ⟨1, s, 0⟩ mb W hs hG' hm'
  have Hir := Lib.hid hir
  clear hir
  go_enter Tryz.func30, Tryz.ntmps30
  go_wp2_with (first
    | (go_at_call 33; refine (keywords_any _ hG).mono ?_; rintro e w1 ⟨rfl, hk1, hb1⟩)
    | (go_at_call 36; refine (Hir.out _ _ (hG.next hb1) hk1).mono ?_; rintro e w2 ⟨rfl, hb2⟩))
  go_ret
  exact ⟨rfl, hb1.trans (hb2.mono hb1.size)⟩

end Go.Proofs.YthjnoboceibjjaaGreatDoor.Lx
