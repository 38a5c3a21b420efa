/- Splices as the document's own functions treat them: where a byte goes, and what leads back. -/
import Derived.Test.YtocogbllhmiefaaDoorWalkZ
import Derived.Deep.RegionHeld3
import Derived.Deep.AppendLies
namespace Go.Proofs.YtocogbllhmiefaaDoor.Lx
open Go Go.Proofs Go.RowKit Go.Shelf

set_option maxRecDepth 100000 in
set_option maxHeartbeats 4000000 in
theorem refMoved_in (s : ByteArray) (a : Value) (l : List Sp) (i : Int) (w : World) (hs : s.size ≤ 100000) (ha : SlSp w a l) (hl : l.length ≤ 100000) (ht : ∀ x ∈ l, x.text.size ≤ 100000) (h0 : splErr s l = 0) (hi1 : 0 ≤ i) (hi2 : i ≤ (s.size : Int)) :
    Calls Tryd.prog 24 #[.string s, a, .int .i64 i] w (MovedP s l i w) := by
  have Hch := Lib.hid (check_any s a l w hs ha hl ht)
  have h40 := splErr_few h0
  have H0 := Lib.hid h0
  have hri := (splErr_parts h0).2.2.1
  have Hms := Lib.hid (fun n => moved_some (n := n) h0 hi1 hi2)
  have Hmn := Lib.hid (moved_none h0 hi1 hi2)
  obtain ⟨A, ca, rfl, hA⟩ := ha
  clear h0 hl
  go_enter Tryd.func24, Tryd.ntmps24
  go_wp2_with (go_at_call 45; refine Hch.out.mono ?_; rintro e w1 ⟨rfl, hb1⟩; rw [H0.out])
  go_loopw [9, 10] (fun t j wr => ∃ (k : Nat) (a m g : Int), k ≤ l.length ∧ j = .int .i64 k ∧ t = .int .i64 m ∧ 0 ≤ a ∧ rightFrom s.size a (l.drop k) = true ∧ mvFrom i i (eds s l) = mvFrom i (i + m) (edsFrom s g (l.drop k)) ∧ -(k * 1000000 : Int) ≤ m ∧ m ≤ (k * 1000000 : Int) ∧ Below w.heap.size w wr) (fun _ j _ => l.length - (intOf j).toNat)
  case atStart => exact ⟨0, 0, 0, 0, Nat.zero_le _, rfl, rfl, by omega, hri, by rw [Int.add_zero]; rfl, by omega, by omega, hb1⟩
  case round =>
    obtain ⟨k, at_, m, g, hk, rfl, rfl, hz, hr, hM, hm1, hm2, hbw⟩ := hrel
    have HM := Lib.hid hM
    clear hM hri
    by_cases hlt : k < l.length
    · obtain ⟨b1, o1, rfl, hbb1, hc1⟩ := hA (by omega)
      obtain ⟨p1, p2, p3⟩ := hc1 k _ (List.getElem?_eq_getElem hlt)
      have p1' := (hbw.cell (p := ⟨b1, o1 + k * 3, none⟩) hbb1).trans p1
      have p2' := (hbw.cell (p := ⟨b1, o1 + k * 3 + 1, none⟩) hbb1).trans p2
      have p3' := (hbw.cell (p := ⟨b1, o1 + k * 3 + 2, none⟩) hbb1).trans p3
      clear p1 p2 p3 hc1 hA
      have htx := ht _ (List.getElem_mem hlt)
      have hd : l.drop k = l[k] :: l.drop (k + 1) := List.drop_eq_getElem_cons hlt
      rw [hd] at hr
      obtain ⟨q1, q2, q3, hr'⟩ := rightFrom_cons hr
      have Hr' := Lib.hid hr'
      have Hd := Lib.hid hd
      clear hd hr hr'
      generalize l[k] = x at p1' p2' p3' htx q1 q2 q3 Hd Hr'
      obtain ⟨xlo, xhi, xt⟩ := x
      dsimp only at p1' p2' p3' htx q1 q2 q3 Hr'
      obtain ⟨lo, rfl⟩ := Int.eq_ofNat_of_zero_le (show 0 ≤ xlo by omega)
      obtain ⟨hi_, rfl⟩ := Int.eq_ofNat_of_zero_le (show 0 ≤ xhi by omega)
      have hesz : ((s.extract lo hi_).size : Int) = (hi_ : Int) - lo := by simp; omega
      by_cases h1 : (hi_ : Int) ≤ i
      · have Hs := Lib.hid (show mvFrom i i (eds s l) = mvFrom i (i + (m + ((xt.size : Int) - ((hi_ : Int) - lo)))) (edsFrom s (g + ((xt.size : Int) - ((hi_ : Int) - lo))) (l.drop (k + 1))) by
          rw [HM.out, Hd.out, ed_cons, mv_cons, grow_mk]
          simp only [Int.toNat_natCast, hesz]
          rw [if_pos h1, Int.add_assoc])
        have h2 : ¬ i < (hi_ : Int) := by omega
        have h3 : (lo : Int) ≤ i := by omega
        clear hesz
        go_wp2
        go_quiet (fail)
        go_wp2
        go_roundw
        case rel => exact ⟨k + 1, (hi_ : Int), m + ((xt.size : Int) - ((hi_ : Int) - lo)), _, by omega, by go_num, rfl, by omega, Hr'.out, Hs.out, by omega, by omega, below_draws hbw _⟩
        case measure => simp [intOf]; omega
      · by_cases h2 : (lo : Int) ≤ i
        · have Hs := Lib.hid (show mvFrom i i (eds s l) = none by rw [HM.out, Hd.out, ed_cons, mv_cons]; dsimp only; rw [if_neg h1, if_pos h2])
          have h3 : i < (hi_ : Int) := by omega
          clear hesz
          go_wp2
          go_ret2
          exact MovedP.mk (Hmn.out Hs.out) rfl hbw
        · have Hs := Lib.hid (show mvFrom i i (eds s l) = mvFrom i (i + m) (edsFrom s (g + ((xt.size : Int) - ((hi_ : Int) - lo))) (l.drop (k + 1))) by
            rw [HM.out, Hd.out, ed_cons, mv_cons]
            simp only [Int.toNat_natCast, hesz]
            rw [if_neg h1, if_neg h2])
          clear hesz
          go_wp2
          go_roundw
          case rel => exact ⟨k + 1, (hi_ : Int), m, _, by omega, by go_num, rfl, by omega, Hr'.out, Hs.out, by omega, by omega, hbw⟩
          case measure => simp [intOf]; omega
    · have hfin : mvFrom i i (eds s l) = some (i + m) := by rw [HM.out, List.drop_of_length_le (by omega), ed_nil, mv_nil]
      have Hf := Lib.hid hfin
      clear hfin
      go_wp2
      go_ret2
      exact MovedP.mk (Hms.out _ Hf.out) rfl hbw

set_option maxRecDepth 100000 in
set_option maxHeartbeats 2000000 in
theorem refMoved_any (s : ByteArray) (a : Value) (l : List Sp) (i : Int) (w : World) (hs : s.size ≤ 100000) (ha : SlSp w a l) (hl : l.length ≤ 100000) (ht : ∀ x ∈ l, x.text.size ≤ 100000) :
    Calls Tryd.prog 24 #[.string s, a, .int .i64 i] w (MovedP s l i w) := by
  have Hch := Lib.hid (check_any s a l w hs ha hl ht)
  by_cases h0 : splErr s l = 0
  · by_cases hin : 0 ≤ i ∧ i ≤ (s.size : Int)
    · exact refMoved_in s a l i w hs ha hl ht h0 hin.1 hin.2
    · have H0 := Lib.hid h0
      have Hmo := Lib.hid (moved_out h0 (i := i) (by omega))
      clear h0
      by_cases hi1 : i < 0
      · clear hin
        go_enter Tryd.func24, Tryd.ntmps24
        go_wp2_with (go_at_call 45; refine Hch.out.mono ?_; rintro e w1 ⟨rfl, hb1⟩; rw [H0.out])
        go_ret2
        exact MovedP.mk Hmo.out rfl hb1
      · have hi2 : (s.size : Int) < i := by omega
        clear hin
        go_enter Tryd.func24, Tryd.ntmps24
        go_wp2_with (go_at_call 45; refine Hch.out.mono ?_; rintro e w1 ⟨rfl, hb1⟩; rw [H0.out])
        go_ret2
        exact MovedP.mk Hmo.out rfl hb1
  · have Hmo := Lib.hid (moved_err (i := i) h0)
    have ht3 : ((splErr s l : Int) != 0) = true := by simp; omega
    clear h0
    go_enter Tryd.func24, Tryd.ntmps24
    go_wp2_with (go_at_call 45; refine Hch.out.mono ?_; rintro e w1 ⟨rfl, hb1⟩)
    go_ret2
    exact MovedP.mk Hmo.out rfl hb1

theorem own_far {W : World} {base : Nat} {e : TypeId} {size n : Nat} {v : Value} {xs : List Value} (h : W.ownsRow base e size v n xs) {b : Nat} (hb : b < base) : v.ownBlock ≠ some b := by
  intro e
  have := (World.ownsRow.lt h b e).1
  omega

set_option maxRecDepth 100000 in
set_option maxHeartbeats 4000000 in
theorem refUndo_any (s : ByteArray) (a : Value) (l : List Sp) (w : World) (hs : s.size ≤ 100000) (ha : SlSp w a l) (hl : l.length ≤ 100000) (ht : ∀ x ∈ l, x.text.size ≤ 100000) :
    Calls Tryd.prog 26 #[.string s, a] w fun e w' => ∃ v, e = .returned (.tuple #[v, .int .i64 (splErr s l : Int)]) ∧ w'.ownsRow w.heap.size 55 3 v (undone s l).length (spCells (undone s l)) ∧ Below w.heap.size w w' := by
  obtain ⟨i0, hi, hz0, hz1, hz2⟩ := info_parts sp_info
  have Hch := Lib.hid (check_any s a l w hs ha hl ht)
  by_cases h0 : splErr s l = 0
  · have Hun := Lib.hid (show undone s l = (edsFrom s 0 l).map backOf from if_pos h0)
    have h40 := splErr_few h0
    have H0 := Lib.hid h0
    have hri := (splErr_parts h0).2.2.1
    obtain ⟨A, ca, rfl, hA⟩ := ha
    clear h0 hl
    go_enter Tryd.func26, Tryd.ntmps26
    go_wp2_with (go_at_call 45; refine Hch.out.mono ?_; rintro e w1 ⟨rfl, hb1⟩; rw [H0.out])
    go_loopw [7, 8, 9] (fun v t j wr => ∃ (k : Nat) (a g : Int) (done : List Sp), k ≤ l.length ∧ j = .int .i64 k ∧ t = .int .i64 g ∧ 0 ≤ a ∧ rightFrom s.size a (l.drop k) = true ∧ (edsFrom s 0 l).map backOf = done ++ (edsFrom s g (l.drop k)).map backOf ∧ done.length = k ∧ -(k * 1000000 : Int) ≤ g ∧ g ≤ (k * 1000000 : Int) ∧
      wr.ownsRow w.heap.size 55 3 v done.length (spCells done) ∧ Below w.heap.size w wr) (fun _ _ j _ => l.length - (intOf j).toNat)
    case atStart => exact ⟨0, 0, 0, [], Nat.zero_le _, rfl, rfl, by omega, hri, rfl, rfl, by omega, by omega, World.ownsRow_nil _ _ _ _, hb1⟩
    case round =>
      obtain ⟨k, at_, g, done, hk, rfl, rfl, hz, hr, hM, hdl, hm1, hm2, hown, hbw⟩ := hrel
      have HM := Lib.hid hM
      have HD := Lib.hid hdl
      clear hM hri hdl
      by_cases hlt : k < l.length
      · obtain ⟨b1, o1, rfl, hbb1, hc1⟩ := hA (by omega)
        obtain ⟨p1, p2, p3⟩ := hc1 k _ (List.getElem?_eq_getElem hlt)
        have p1' := (hbw.cell (p := ⟨b1, o1 + k * 3, none⟩) hbb1).trans p1
        have p2' := (hbw.cell (p := ⟨b1, o1 + k * 3 + 1, none⟩) hbb1).trans p2
        have p3' := (hbw.cell (p := ⟨b1, o1 + k * 3 + 2, none⟩) hbb1).trans p3
        have P1 := Lib.hid p1
        have P2 := Lib.hid p2
        have P3 := Lib.hid p3
        clear p1 p2 p3 hc1 hA
        have htx := ht _ (List.getElem_mem hlt)
        have hd : l.drop k = l[k] :: l.drop (k + 1) := List.drop_eq_getElem_cons hlt
        rw [hd] at hr
        obtain ⟨q1, q2, q3, hr'⟩ := rightFrom_cons hr
        have Hr' := Lib.hid hr'
        have Hd := Lib.hid hd
        clear hd hr hr'
        generalize l[k] = x at p1' p2' p3' htx q1 q2 q3 Hd Hr' P1 P2 P3
        obtain ⟨xlo, xhi, xt⟩ := x
        dsimp only at p1' p2' p3' htx q1 q2 q3 Hr' P1 P2 P3
        obtain ⟨lo, rfl⟩ := Int.eq_ofNat_of_zero_le (show 0 ≤ xlo by omega)
        obtain ⟨hi_, rfl⟩ := Int.eq_ofNat_of_zero_le (show 0 ≤ xhi by omega)
        have hesz : ((s.extract lo hi_).size : Int) = (hi_ : Int) - lo := by simp; omega
        have Hs := Lib.hid (show (edsFrom s 0 l).map backOf = (done ++ [⟨(lo : Int) + g, (lo : Int) + g + xt.size, s.extract lo hi_⟩]) ++ (edsFrom s (g + ((xt.size : Int) - ((hi_ : Int) - lo))) (l.drop (k + 1))).map backOf by
          rw [HM.out, Hd.out, ed_cons, List.map_cons, back_mk]
          simp only [Int.toNat_natCast, hesz]
          rw [List.append_assoc]; rfl)
        clear hesz
        have q4 : lo ≤ hi_ := by omega
        have q5 : hi_ ≤ s.size := by omega
        have hdk : done.length ≤ 1000 := by have := HD.out; omega
        have hbz := hbw.size
        have hne := own_far hown hbb1
        have g1 : (0 : Int) ≤ (lo : Int) := by omega
        have g2 : (lo : Int) ≤ (hi_ : Int) := by omega
        have g3 : (hi_ : Int) ≤ (s.size : Int) := by omega
        have hw1 : IntKind.i64.wrap ((lo : Int) + g + (xt.size : Int)) = (lo : Int) + g + (xt.size : Int) := IntWalk.i64_in _ (by omega)
        have hcb : b1 < wr.heap.size := Nat.lt_of_lt_of_le hbb1 hbz
        go_upto_region 10 with fail
        go_region_held3 (fun w' => w'.cell? ⟨b1, o1 + k * 3, none⟩ = some (.int .i64 (lo : Int)) ∧ w'.cell? ⟨b1, o1 + k * 3 + 1, none⟩ = some (.int .i64 (hi_ : Int)) ∧ w'.cell? ⟨b1, o1 + k * 3 + 2, none⟩ = some (.string xt))
          (first
            | go_keep
            | (go_split_ands
               refine ⟨?_, ?_, ?_⟩
               · (rw [hgrow.cell_far _ (by simp; omega) (Ne.symm hne)]; assumption)
               · (rw [hgrow.cell_far _ (by simp; omega) (Ne.symm hne)]; assumption)
               · (rw [hgrow.cell_far _ (by simp; omega) (Ne.symm hne)]; assumption)))
          ((refine step_append_lies _ (by rfl) _ _ _ (by rfl) w.heap.size 55 i0 _ 3 32 Tryd.underlying31 hi hz0 hz1 hz2 rfl (by omega) _ _ _ (by rfl) ((hown.alloc _).drew) ⟨wr.heap.size, 0, none⟩ 1 1 (spVals ⟨(lo : Int) + g, (lo : Int) + g + xt.size, s.extract lo hi_⟩) (by rfl) (by rfl) (World.news_of_block (cs := (spVals ⟨(lo : Int) + g, (lo : Int) + g + xt.size, s.extract lo hi_⟩).toArray) (t := 55) (fr := (0, 0)) (heap_alloc_new wr _)) (fun u hu => by simp [spVals] at hu; rcases hu with rfl | rfl | rfl <;> rfl) (by omega) (by unfold maxLen; omega) (by omega) (by simp; omega) (wr.heap.size + 1) (by simp) ?_; intro gg cap w2 hown2 hgrow hat hlt2))
        have hb2 : Below w.heap.size w w2 := ((hbw.alloc hbz _).drew).grown hgrow (by simp; omega) (fun j hj => (World.ownsRow.lt hown j hj).1)
        have r1 := (hb2.cell (p := ⟨b1, o1 + k * 3, none⟩) hbb1).trans P1.out
        have r2 := (hb2.cell (p := ⟨b1, o1 + k * 3 + 1, none⟩) hbb1).trans P2.out
        have r3 := (hb2.cell (p := ⟨b1, o1 + k * 3 + 2, none⟩) hbb1).trans P3.out
        clear p1' p2' p3' hgrow hw1 hat
        go_wp2
        go_quiet (fail)
        go_wp2
        go_roundw
        case rel =>
          refine ⟨k + 1, (hi_ : Int), g + ((xt.size : Int) - ((hi_ : Int) - lo)), done ++ [⟨(lo : Int) + g, (lo : Int) + g + xt.size, s.extract lo hi_⟩], by omega, by go_num, rfl, by omega, Hr'.out, Hs.out, by have := HD.out; simp; omega, by omega, by omega, ?_, below_draws hb2 _⟩
          rw [spCells_snoc, List.length_append]; exact hown2
        case measure => simp [intOf]; omega
      · have hfin : undone s l = done := by rw [Hun.out, HM.out, List.drop_of_length_le (by omega), ed_nil, List.map_nil, List.append_nil]
        have Hf := Lib.hid hfin
        clear hfin
        go_wp2
        go_ret2
        exact ⟨_, by rw [H0.out]; rfl, by rw [Hf.out]; exact hown, hbw⟩
  · have Hun := Lib.hid (show undone s l = [] from if_neg h0)
    have ht3 : ((splErr s l : Int) != 0) = true := by simp; omega
    clear h0
    go_enter Tryd.func26, Tryd.ntmps26
    go_wp2_with (go_at_call 45; refine Hch.out.mono ?_; rintro e w1 ⟨rfl, hb1⟩)
    go_ret2
    exact ⟨_, rfl, by rw [Hun.out]; exact World.ownsRow_nil _ _ _ _, hb1⟩

end Go.Proofs.YtocogbllhmiefaaDoor.Lx
