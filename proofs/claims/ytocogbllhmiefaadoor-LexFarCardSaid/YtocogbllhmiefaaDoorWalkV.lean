/- LexDifference: what leads from a text to another one does so; the other way round it is what leads back. -/
import Derived.Test.YtocogbllhmiefaaDoorSpecD
import Derived.Laws.AppendOwnNone
namespace Go.Proofs.YtocogbllhmiefaaDoor.Lx
open Go Go.Proofs Go.RowKit Go.Shelf

theorem sp_fields : Tryd.prog.underlying 55 = some (.struct (Tryd.prog.fieldsOf 55)) := by kernel_rfl
theorem sp_stood : Tryd.prog.stoodInHeld 55 = false := by kernel_rfl
theorem sp_list : (Tryd.prog.fieldsOf 55).toList = [⟨"From", 3, 0, false, "", "", 0⟩, ⟨"To", 3, 1, false, "", "", 8⟩, ⟨"Text", 9, 2, false, "", "", 16⟩] := by kernel_rfl
theorem sp_equal (x : Sp) (W : World) : (Op.equalIn 10000 55 (.agg #[.int .i64 x.lo, .int .i64 x.hi, .string x.text]) (.agg #[.int .i64 x.lo, .int .i64 x.hi, .string x.text])).run Tryd.prog W = .ok true W := by
  rw [run_equalIn_agg W 9999 _ _ _ sp_fields sp_stood, sp_list]
  have u9 : Tryd.prog.underlying 9 = some .string := Tryd.underlying9
  have u3 : Tryd.prog.underlying 3 = some (.int .i64) := Tryd.underlying3
  simp [Op.eqFields, go_sem]

theorem SlSp.news {W : World} {v : Value} {l : List Sp} (h : SlSp W v l) (h0 : 0 < l.length) : ∃ ad c, v = .slice (some ad) l.length c ∧ ∀ j u, (spCells l)[j]? = some u → W.cell? (ad.add j) = some u := by
  obtain ⟨A, c, rfl, hA⟩ := h
  obtain ⟨b, off, rfl, hlt, hc⟩ := hA h0
  refine ⟨_, c, rfl, fun j u hu => ?_⟩
  rw [Lib.addr_add]
  have hlen : (spCells l).length = l.length * 3 := by
    have : ∀ l : List Sp, (spCells l).length = l.length * 3 := by
      intro l
      induction l with
      | nil => rfl
      | cons x r ih => show (spVals x ++ spCells r).length = _; rw [List.length_append, ih]; simp [spVals]; omega
    exact this l
  have hj : j < (spCells l).length := (List.getElem?_eq_some_iff.1 hu).1
  have hi : j / 3 < l.length := by omega
  obtain ⟨q1, q2, q3⟩ := hc (j / 3) _ (List.getElem?_eq_getElem hi)
  have hat := sp_at l (j / 3) _ (List.getElem?_eq_getElem hi)
  rcases (show j = j / 3 * 3 + 0 ∨ j = j / 3 * 3 + 1 ∨ j = j / 3 * 3 + 2 by omega) with h | h | h
  · have := hat 0 _ rfl
    rw [← h, hu] at this
    cases this
    rw [show off + j = off + j / 3 * 3 by omega]; exact q1
  · have := hat 1 _ rfl
    rw [← h, hu] at this
    cases this
    rw [show off + j = off + j / 3 * 3 + 1 by omega]; exact q2
  · have := hat 2 _ rfl
    rw [← h, hu] at this
    cases this
    rw [show off + j = off + j / 3 * 3 + 2 by omega]; exact q3
theorem spCells_one (l : List Sp) : ∀ u ∈ spCells l, u.oneCell' = true := by
  intro u hu
  simp only [spCells, List.mem_flatMap] at hu
  obtain ⟨x, _, hx⟩ := hu
  simp [spVals] at hx
  rcases hx with rfl | rfl | rfl <;> rfl
theorem spCells_len : ∀ l : List Sp, (spCells l).length = l.length * 3 := by
  intro l
  induction l with
  | nil => rfl
  | cons x r ih => show (spVals x ++ spCells r).length = _; rw [List.length_append, ih]; simp [spVals]; omega
theorem below_new {w w' : World} (h : w.grownBy w' (Value.ownBlock (.slice none 0 0))) : Below w.heap.size w w' :=
  (Below.refl w.heap.size w).grown h (Nat.le_refl _) (fun k hk => by simp [Value.ownBlock] at hk)

/-- The words of the contracts that the law's walk takes. -/
def AwakeP (w : World) (e : Ending) (w' : World) : Prop := e = .returned (.bool true) ∧ Below w.heap.size w w'

set_option maxRecDepth 100000 in
set_option maxHeartbeats 4000000 in
theorem lexDifference_out (a b : ByteArray) (w : World) (hG : Gl w) (h : 3000 < a.size ∨ 3000 < b.size) :
    Calls Tryd.prog 12 #[.string a, .string b] w (AwakeP w) := by
  by_cases ha : 3000 < a.size
  · go_enter Tryd.func12, Tryd.ntmps12
    go_wp2_with (go_at_call 14; refine (awake_any _ hG).mono ?_; rintro e w1 ⟨rfl, hb1⟩)
    go_ret
    exact ⟨rfl, hb1⟩
  · have hb : 3000 < b.size := by omega
    go_enter Tryd.func12, Tryd.ntmps12
    go_wp2_with (go_at_call 14; refine (awake_any _ hG).mono ?_; rintro e w1 ⟨rfl, hb1⟩)
    go_ret
    exact ⟨rfl, hb1⟩

set_option maxRecDepth 100000 in
set_option maxHeartbeats 4000000 in
theorem lexDifference_err (a b : ByteArray) (w : World) (hG : Gl w) (ha : ¬ 3000 < a.size) (hb : ¬ 3000 < b.size) (h0 : diffErr a b ≠ 0) :
    Calls Tryd.prog 12 #[.string a, .string b] w (AwakeP w) := by
  have hd := diff_any a b w (by omega) (by omega)
  unfold DiffP at hd
  generalize diffErr a b = te at h0 hd
  have ht3 : ((te : Int) != 0) = true := by simp; omega
  have Hd := Lib.hid hd
  clear hd h0
  go_enter Tryd.func12, Tryd.ntmps12
  go_wp2_with (first
    | (go_at_call 28; refine Hd.out.mono ?_; rintro e w1 ⟨v, rfl, _, _, hb1⟩)
    | (go_at_call 14; refine (awake_any _ (hG.next hb1)).mono ?_; rintro e w2 ⟨rfl, hb2⟩))
  go_ret
  exact ⟨rfl, hb1.trans (hb2.mono hb1.size)⟩

set_option maxRecDepth 100000 in
set_option maxHeartbeats 4000000 in
theorem lexDifference_one (a b : ByteArray) (w : World) (hG : Gl w) (ha : ¬ 3000 < a.size) (hb : ¬ 3000 < b.size) (h0 : diffErr a b = 0) (x y : Sp) (hx : diff a b = [x]) (hy : diff b a = [y]) :
    Calls Tryd.prog 12 #[.string a, .string b] w (AwakeP w) := by
  obtain ⟨i0, hi, hz0, hz1, hz2⟩ := info_parts sp_info
  have hsm : ∀ z ∈ [x], z.text.size ≤ 100000 := by rw [← hx]; exact diff_small a b (by omega)
  have hd1 := fun W => diff_any a b W (by omega) (by omega)
  have hd2 := fun W => diff_any b a W (by omega) (by omega)
  have hap := fun W v h => apply_any a v [x] W (by omega) h (by simp) hsm
  have hun := fun W v h => undo_any a v [x] W (by omega) h (by simp) hsm
  unfold DiffP at hd1 hd2
  have e1 := splErr_ofDiff h0
  have e2 := applied_ofDiff h0
  have e3 := undone_ofDiff h0
  rw [hx] at e1 e2 e3
  rw [hy] at e3
  rw [h0, hx] at hd1
  rw [diffErr_comm h0, hy] at hd2
  rw [e1, e2] at hap
  rw [e1, e3] at hun
  have Hd1 := Lib.hid hd1
  have Hd2 := Lib.hid hd2
  have Hap := Lib.hid hap
  have Hun := Lib.hid hun
  clear hd1 hd2 hap hun e1 e2 e3 hx hy h0
  have heq := sp_equal y
  go_enter Tryd.func12, Tryd.ntmps12
  go_wp2_with (first
    | (go_at_call 28; have hpast := hb5; refine (Hd2.out _).mono ?_; rintro e w6 ⟨v6, rfl, hsl6, _, hb6⟩; obtain ⟨A6, c6, rfl, hA6⟩ := hsl6; obtain ⟨g6, o6, rfl, hg6, hc6⟩ := hA6 (by simp))
    | (go_at_call 25; refine (Hun.out _ _ (SlSp.of_own hown4)).mono ?_; rintro e w5 ⟨v5, rfl, hown5, hb5⟩; obtain ⟨A5, c5, rfl, hA5⟩ := SlSp.of_own hown5; obtain ⟨g5, o5, rfl, hg5, hc5⟩ := hA5 (by simp))
    | (at_builtin; refine wpList_append_own _ rfl _ _ 31 rfl w3.heap.size 55 i0 _ 3 32 Tryd.underlying31 hi hz0 hz1 hz2 rfl (by decide) _ _ _ rfl (World.ownsRow_nil _ _ _ _) _ 1 _ (spCells [x]) rfl rfl (Hnw3.out w3 hb3) (spCells_one _) (by unfold maxLen; omega) (by omega) (Nat.le_refl _) ?_; intro v4 w4 hown4 hgrow4 _; have hb4 := below_new hgrow4; have hform4 := own_form hown4; obtain ⟨A4, c4, rfl⟩ := hform4)
    | (go_at_call 21; refine (Hap.out _ _ (SlSp.of_own hown2)).mono ?_; rintro e w3 ⟨rfl, hb3'⟩; have hb3 := hb2.trans (hb3'.mono hb2.size))
    | (at_builtin; refine wpList_append_own _ rfl _ _ 31 rfl w1.heap.size 55 i0 _ 3 32 Tryd.underlying31 hi hz0 hz1 hz2 rfl (by decide) _ _ _ rfl (World.ownsRow_nil _ _ _ _) _ 1 _ (spCells [x]) rfl rfl hnw1 (spCells_one _) (by unfold maxLen; omega) (by omega) (Nat.le_refl _) ?_; intro v2 w2 hown2 hgrow2 _; have hb2 := below_new hgrow2; have hform2 := own_form hown2; obtain ⟨A2, c2, rfl⟩ := hform2)
    | (go_at_call 28; refine (Hd1.out _).mono ?_; rintro e w1 ⟨v, rfl, hsl1, _, hb1⟩; have hsl := hsl1; obtain ⟨ad, c1, rfl, hnw1⟩ := hsl1.news (by simp); have Hnw3 : Hid (∀ W, Below w1.heap.size w1 W → ∀ j u, (spCells [x])[j]? = some u → W.cell? (ad.add j) = some u) := Lib.hid (fun W hW => by obtain ⟨ad', c', e', h'⟩ := (hsl.below hW).news (by simp); injection e' with e1' _ _; injection e1' with e1'; subst e1'; exact h')))
  have z1 := hb1.size
  have z3 := hb3.size
  have z4 := hb4.size
  have z5 := hb5.size
  have z6 := hb6.size
  have hB6 : Below w.heap.size w w6 := ((((hb1.trans (hb3.mono z1)).trans (hb4.mono (by omega))).trans (hb5.mono (by omega))).trans (hb6.mono (by omega)))
  have HB6 := Lib.hid hB6
  have HG6 := Lib.hid (hG.next hB6)
  obtain ⟨r1, r2, r3⟩ := hc5 0 y rfl
  obtain ⟨t1, t2, t3⟩ := hc6 0 y rfl
  simp only [Nat.zero_mul, Nat.add_zero] at r1 r2 r3 t1 t2 t3
  have R1 := Lib.hid ((hb6.cell (p := ⟨g5, o5, none⟩) hg5).trans r1)
  have R2 := Lib.hid ((hb6.cell (p := ⟨g5, o5 + 1, none⟩) hg5).trans r2)
  have R3 := Lib.hid ((hb6.cell (p := ⟨g5, o5 + 2, none⟩) hg5).trans r3)
  have hg56 : g5 < w6.heap.size := Nat.lt_of_lt_of_le hg5 z6
  clear hB6 r1 r2 r3 hc5 hc6 hown4 hown2 hgrow2 hgrow4 hown5 hnw1 hsl1 hsl hA6
  go_loopw [13] (fun i wr => ∃ k : Nat, k ≤ 1 ∧ i = .int .i64 k ∧ Below w6.heap.size w6 wr) (fun i _ => 1 - (intOf i).toNat)
  case atStart => exact ⟨0, by omega, rfl, Below.refl _ _⟩
  case round =>
    obtain ⟨k, hk, rfl, hbw⟩ := hrel
    rcases (show k = 0 ∨ k = 1 by omega) with rfl | rfl
    · have r1 := (hbw.cell (p := ⟨g5, o5, none⟩) hg56).trans R1.out
      have r2 := (hbw.cell (p := ⟨g5, o5 + 1, none⟩) hg56).trans R2.out
      have r3 := (hbw.cell (p := ⟨g5, o5 + 2, none⟩) hg56).trans R3.out
      have t1' := (hbw.cell (p := ⟨g6, o6, none⟩) hg6).trans t1
      have t2' := (hbw.cell (p := ⟨g6, o6 + 1, none⟩) hg6).trans t2
      have t3' := (hbw.cell (p := ⟨g6, o6 + 2, none⟩) hg6).trans t3
      clear t1 t2 t3
      go_wp2
      go_region
      all_goals (
        go_wp2
        go_roundw
        case rel => exact ⟨1, by omega, rfl, hbw.drew⟩
        case measure => simp [intOf])
    · go_wp2_with (go_at_call 14; refine (awake_any _ (HG6.out.next hbw)).mono ?_; rintro e w7 ⟨rfl, hb7⟩)
      go_ret
      exact ⟨rfl, (HB6.out.trans (hbw.mono HB6.out.size)).trans (hb7.mono (Nat.le_trans HB6.out.size hbw.size))⟩

set_option maxRecDepth 100000 in
set_option maxHeartbeats 4000000 in
theorem lexDifference_none (a b : ByteArray) (w : World) (hG : Gl w) (ha : ¬ 3000 < a.size) (hb : ¬ 3000 < b.size) (h0 : diffErr a b = 0) (hx : diff a b = []) (hy : diff b a = []) :
    Calls Tryd.prog 12 #[.string a, .string b] w (AwakeP w) := by
  obtain ⟨i0, hi, hz0, hz1, hz2⟩ := info_parts sp_info
  have hsm : ∀ z ∈ ([] : List Sp), z.text.size ≤ 100000 := fun z hz => by cases hz
  have hd1 := fun W => diff_any a b W (by omega) (by omega)
  have hd2 := fun W => diff_any b a W (by omega) (by omega)
  have hap := fun W => apply_any a (.slice none 0 0) [] W (by omega) (SlSp.nil W) (by simp) hsm
  have hun := fun W => undo_any a (.slice none 0 0) [] W (by omega) (SlSp.nil W) (by simp) hsm
  unfold DiffP at hd1 hd2
  have e1 := splErr_ofDiff h0
  have e2 := applied_ofDiff h0
  have e3 := undone_ofDiff h0
  rw [hx] at e1 e2 e3
  rw [hy] at e3
  rw [h0, hx] at hd1
  rw [diffErr_comm h0, hy] at hd2
  rw [e1, e2] at hap
  rw [e1, e3] at hun
  have Hd1 := Lib.hid hd1
  have Hd2 := Lib.hid hd2
  have Hap := Lib.hid hap
  have Hun := Lib.hid hun
  clear hd1 hd2 hap hun e1 e2 e3 hx hy h0
  go_enter Tryd.func12, Tryd.ntmps12
  go_wp2_with (first
    | (go_at_call 28; have hpast := hb5; refine (Hd2.out _).mono ?_; rintro e w6 ⟨v6, rfl, _, hn6, hb6⟩; obtain rfl := hn6 (by first | rfl | trivial))
    | (go_at_call 25; refine (Hun.out _).mono ?_; rintro e w5 ⟨v5, rfl, hown5, hb5⟩; obtain ⟨A5, c5, rfl⟩ := own_form hown5)
    | (at_builtin; refine wpList_append_own_none rfl _ _ 31 rfl 0 55 i0 3 Tryd.underlying31 hi _ _ _ rfl (World.ownsRow_nil _ _ _ _) rfl ?_)
    | (go_at_call 21; refine (Hap.out _).mono ?_; rintro e w3 ⟨rfl, hb3⟩)
    | (go_at_call 28; refine (Hd1.out _).mono ?_; rintro e w1 ⟨v, rfl, _, hn1, hb1⟩; obtain rfl := hn1 (by first | rfl | trivial)))
  have z1 := hb1.size
  have z3 := hb3.size
  have z5 := hb5.size
  have z6 := hb6.size
  have hB6 : Below w.heap.size w w6 := (((hb1.trans (hb3.mono z1)).trans (hb5.mono (by omega))).trans (hb6.mono (by omega)))
  have HB6 := Lib.hid hB6
  have HG6 := Lib.hid (hG.next hB6)
  go_loopw [13] (fun i wr => i = .int .i64 0 ∧ Below w6.heap.size w6 wr) (fun i _ => 1 - (intOf i).toNat)
  case atStart => exact ⟨rfl, Below.refl _ _⟩
  case round =>
    obtain ⟨rfl, hbw⟩ := hrel
    go_wp2_with (go_at_call 14; refine (awake_any _ (HG6.out.next hbw)).mono ?_; rintro e w7 ⟨rfl, hb7⟩)
    go_ret
    exact ⟨rfl, (HB6.out.trans (hbw.mono HB6.out.size)).trans (hb7.mono (Nat.le_trans HB6.out.size hbw.size))⟩

theorem lexDifference_any (a b : ByteArray) (w : World) (hG : Gl w) :
    Calls Tryd.prog 12 #[.string a, .string b] w fun e w' => e = .returned (.bool true) ∧ Below w.heap.size w w' := by
  by_cases hl : 3000 < a.size ∨ 3000 < b.size
  · exact lexDifference_out a b w hG hl
  · by_cases h0 : diffErr a b = 0
    · have hs := diff_short a b
      have hq := diff_len a b h0
      cases hx : diff a b with
      | nil =>
        rw [hx] at hq
        exact lexDifference_none a b w hG (by omega) (by omega) h0 hx (List.length_eq_zero_iff.1 hq)
      | cons x r =>
        rw [hx] at hs hq
        have hr : r = [] := List.length_eq_zero_iff.1 (by simp at hs; simpa using hs)
        subst hr
        obtain ⟨y, hy⟩ := List.length_eq_one_iff.1 hq
        exact lexDifference_one a b w hG (by omega) (by omega) h0 x y hx hy
    · exact lexDifference_err a b w hG (by omega) (by omega) h0

end Go.Proofs.YtocogbllhmiefaaDoor.Lx
