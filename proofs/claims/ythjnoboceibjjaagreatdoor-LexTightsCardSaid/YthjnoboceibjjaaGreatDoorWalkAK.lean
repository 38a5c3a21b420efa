/- The document's own IsRight and IsName. -/
import Derived.Test.YthjnoboceibjjaaGreatDoorWalkAH
import Derived.Test.YthjnoboceibjjaaGreatDoorWalkAI
namespace Go.Proofs.YthjnoboceibjjaaGreatDoor.Lx
open Go Go.Proofs Go.RowKit Go.Shelf

set_option maxHeartbeats 1000000 in
/-- What the document asks of a token. -/
theorem good_doc (t : Tk) (h0 : 0 < t.text.size) : goodTk t = (decide (tkErr t.text 0 = 0) && (decide ((piece t.text 0).tk.kind = t.kind) && decide ((piece t.text 0).tk.text.toList = t.text.toList))) := by
  by_cases h3 : cls (bt t.text 0) = 3
  · have e1 : tkErr t.text 0 = 4 := by unfold tkErr; rw [if_pos h3]
    rw [e1, show decide ((4 : Nat) = 0) = false from rfl, Bool.false_and]
    unfold goodTk
    have hk : kindOf t.text = (5, 0) := by unfold kindOf; rw [if_pos h3]
    rw [hk]
    by_cases h5 : t.kind = 5
    · rw [decide_eq_true h5]; rfl
    · rw [show decide (((5 : Nat), (0 : Nat)).1 = t.kind) = false from decide_eq_false (fun e => h5 e.symm)]; simp
  · have e1 : tkErr t.text 0 = (piece t.text 0).err := by unfold tkErr; rw [if_neg h3]
    have hpl := pieceEnd_le h0
    have hb0 : bt (t.text.extract 0 (pieceEnd t.text 0)) 0 = bt t.text 0 := by
      have := lt_pieceEnd h0
      rw [bt_extract (by omega)]
    have htr0 : (piece t.text 0).tk = ⟨(kindOf (t.text.extract 0 (pieceEnd t.text 0))).1, trimT (t.text.extract 0 (pieceEnd t.text 0)), 0⟩ := rfl
    have htr : (piece t.text 0).tk.text = t.text.extract 0 (pieceEnd t.text 0) := by
      rw [htr0]
      unfold trimT
      dsimp only
      rw [hb0, if_neg (fun e => h3 ((cls_tilde _ (bt_lt _ _)).2 e))]
    rw [e1, htr]
    by_cases hp : pieceEnd t.text 0 < t.text.size
    · have : ¬ (t.text.extract 0 (pieceEnd t.text 0)).toList = t.text.toList := fun e => by
        have := size_of_text e
        simp at this; omega
      rw [decide_eq_false this, Bool.and_false, Bool.and_false]
      unfold goodTk
      rw [decide_eq_true hp]; simp
    · have he : t.text.extract 0 (pieceEnd t.text 0) = t.text := by
        refine str_of_list' ?_
        rw [extract_list, List.drop_zero, List.take_of_length_le (by rw [len_list]; omega)]
      have hk : (piece t.text 0).tk.kind = (kindOf t.text).1 ∧ (piece t.text 0).err = (kindOf t.text).2 := by unfold piece; rw [he]; exact ⟨rfl, rfl⟩
      rw [he, hk.1, hk.2, decide_eq_true (rfl : t.text.toList = t.text.toList), Bool.and_true]
      unfold goodTk
      rw [decide_eq_false hp, decide_eq_false (show ¬ t.text.size = 0 by omega)]
      by_cases h5 : t.kind = 5
      · have hk5 : (kindOf t.text).1 ≠ 5 := by
          have := fun e => h3 ((kind5 h0).1 e)
          rw [hk.1] at this; exact this
        rw [decide_eq_true h5, h5, decide_eq_false hk5]; simp
      · rw [decide_eq_false h5]; simp

set_option maxRecDepth 100000 in
set_option maxHeartbeats 4000000 in
theorem refIsRight_any (x : Tk) (w : World) (hs : x.text.size ≤ 100000) :
    Calls Tryz.prog 38 #[.agg #[.int .u8 (x.kind : Int), .string x.text, .int .i64 (x.pos : Int)]] w fun e w' => e = .returned (.bool (goodTk x)) ∧ Below w.heap.size w w' := by
  by_cases h0 : x.text.size = 0
  · have Hg := Lib.hid (show goodTk x = false by unfold goodTk; rw [decide_eq_true h0]; simp)
    have hte := empty_list h0
    have hte2 : x.text.toList.isEmpty = true := by simp [hte]
    have hte3 : (x.text.toList == []) = true := by simp [hte]
    go_enter Tryz.func38, Tryz.ntmps38
    go_wp2
    go_ret
    exact ⟨ret_bool Hg.out.symm, (Below.refl _ _).alloc (Nat.le_refl _) _⟩
  · obtain ⟨e1, e2, e3⟩ := word_facts (show 0 < x.text.size by omega)
    have hgd := good_doc x (by omega)
    have hto := fun W => token_any x.text 0 W hs (by omega)
    unfold TokenP tkGot tkVals at hto
    have hb0 : Below w.heap.size w (w.alloc (.cells #[.int .u8 (x.kind : Int), .string x.text, .int .i64 (x.pos : Int)] 33)) := (Below.refl _ _).alloc (Nat.le_refl _) _
    clear h0
    by_cases he : tkErr x.text 0 = 0
    · rw [if_pos he] at hto
      rw [he] at hto hgd
      generalize (piece x.text 0).tk = u at hto hgd
      have Hto := Lib.hid hto
      clear hto he
      by_cases hk : u.kind = x.kind
      · have q1 : ((u.kind : Int) == (x.kind : Int)) = true := by rw [hk]; simp
        rw [decide_eq_true hk] at hgd
        clear hk
        by_cases ht : u.text.toList = x.text.toList
        · have q2 : (u.text.toList == x.text.toList) = true := by rw [ht]; simp
          have Hg := Lib.hid (show goodTk x = true by rw [hgd, decide_eq_true ht]; rfl)
          clear ht hgd
          go_enter Tryz.func38, Tryz.ntmps38
          go_wp2_with (go_at_call 50; refine (Hto.out _).mono ?_; rintro e w1 ⟨rfl, hb1⟩; have hz1 := hb1.size; have cc0 := (hb1.cell (p := ⟨w.heap.size, 0, none⟩) (by simp)).trans (cell_new w _ _ 0); have cc1 := (hb1.cell (p := ⟨w.heap.size, 1, none⟩) (by simp)).trans (cell_new w _ _ 1); rw [alloc_sz] at hz1; have hs1 : w.heap.size < w1.heap.size := by omega)
          go_ret
          exact ⟨ret_bool Hg.out.symm, (hb0.trans (hb1.mono hb0.size)).alloc (by omega) _⟩
        · have q2 : (u.text.toList == x.text.toList) = false := by simp [ht]
          have Hg := Lib.hid (show goodTk x = false by rw [hgd, decide_eq_false ht]; rfl)
          clear ht hgd
          go_enter Tryz.func38, Tryz.ntmps38
          go_wp2_with (go_at_call 50; refine (Hto.out _).mono ?_; rintro e w1 ⟨rfl, hb1⟩; have hz1 := hb1.size; have cc0 := (hb1.cell (p := ⟨w.heap.size, 0, none⟩) (by simp)).trans (cell_new w _ _ 0); have cc1 := (hb1.cell (p := ⟨w.heap.size, 1, none⟩) (by simp)).trans (cell_new w _ _ 1); rw [alloc_sz] at hz1; have hs1 : w.heap.size < w1.heap.size := by omega)
          go_ret
          exact ⟨ret_bool Hg.out.symm, (hb0.trans (hb1.mono hb0.size)).alloc (by omega) _⟩
      · have q1 : ((u.kind : Int) == (x.kind : Int)) = false := by simp; omega
        have Hg := Lib.hid (show goodTk x = false by rw [hgd, decide_eq_false hk]; rfl)
        clear hk hgd
        go_enter Tryz.func38, Tryz.ntmps38
        go_wp2_with (go_at_call 50; refine (Hto.out _).mono ?_; rintro e w1 ⟨rfl, hb1⟩; have hz1 := hb1.size; have cc0 := (hb1.cell (p := ⟨w.heap.size, 0, none⟩) (by simp)).trans (cell_new w _ _ 0); have cc1 := (hb1.cell (p := ⟨w.heap.size, 1, none⟩) (by simp)).trans (cell_new w _ _ 1); rw [alloc_sz] at hz1; have hs1 : w.heap.size < w1.heap.size := by omega)
        go_ret
        exact ⟨ret_bool Hg.out.symm, (hb0.trans (hb1.mono hb0.size)).alloc (by omega) _⟩
    · have Hg := Lib.hid (show goodTk x = false by rw [hgd, decide_eq_false he]; rfl)
      rw [if_neg he] at hto
      generalize tkErr x.text 0 = te at hto he
      have q0 : ((te : Int) == 0) = false := by simp; omega
      have Hto := Lib.hid hto
      clear hto he hgd
      go_enter Tryz.func38, Tryz.ntmps38
      go_wp2_with (go_at_call 50; refine (Hto.out _).mono ?_; rintro e w1 ⟨rfl, hb1⟩; have hz1 := hb1.size; rw [alloc_sz] at hz1; have hs1 : w.heap.size < w1.heap.size := by omega)
      go_ret
      exact ⟨ret_bool Hg.out.symm, (hb0.trans (hb1.mono hb0.size)).alloc (by omega) _⟩

end Go.Proofs.YthjnoboceibjjaaGreatDoor.Lx
