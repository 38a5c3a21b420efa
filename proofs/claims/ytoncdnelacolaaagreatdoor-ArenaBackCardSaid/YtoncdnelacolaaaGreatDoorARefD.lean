/- Copies of the reference: CopyType. -/
import Derived.Test.YtoncdnelacolaaaGreatDoorARefB
import Derived.Test.YtoncdnelacolaaaGreatDoorAWalkE
import Derived.RegionTactic
import Derived.BigRegion
import Derived.Deep.Cut
import Derived.Deep.RegionHeld3
import Derived.Deep.AppendLies
import Derived.Deep.Onto
namespace Go.Proofs.YtoncdnelacolaaaGreatDoor.Ar
open Go Go.Proofs Go.RowKit Lx Ps

theorem below3s {B b : Nat} {W V : World} {x y z : Value} (h : Below B W V) (hb : B ≤ b) : Below B W (((V.setCell ⟨b, 0, none⟩ x).setCell ⟨b, 1, none⟩ y).setCell ⟨b, 2, none⟩ z) :=
  ((h.setCell (by exact hb) _).setCell (by exact hb) _).setCell (by exact hb) _
theorem bs_info : (Tryz.prog.info? 24).map (fun i => (i.zero, i.size, i.bytes)) = some (some (.agg #[.bool false, .int .i64 0]), 2, 16) := by kernel_rfl

section
variable {P : Program} {w : World}
theorem run_append_zero (t ty e : TypeId) (i : TypeInfo) (ht : P.underlying t = some (.slice e)) (hi : P.info? e = some i) (g n cap c : Nat) (A : Option Addr) (hnc : n ≤ cap) :
    (Builtin.append_ #[t, t] ty #[.slice (some ⟨g, 0, none⟩) n cap, .slice A 0 c]).run P w = .ok (.slice (some ⟨g, 0, none⟩) n cap) w := by
  cases A with
  | none => simp [Builtin.append_, run_underlying ht, sizeOf, typeInfo, hi, Builtin.lenOf, Builtin.firstCells, hnc, storeCells]
  | some a =>
    have hf := run_firstCells_some (P := P) w i.size 0 a 0 c [] (by simp) (fun j u h => by simp at h)
    simp [Builtin.append_, run_underlying ht, sizeOf, typeInfo, hi, Builtin.lenOf, hf, hnc, storeCells]
theorem step_append_zero {ops : Array Oper} {o : Oper} {a : Act} {K : Act → World → Prop} {Q : Exit → Act → World → Prop} {E : Prop} (hgd : o.guard = none) (s x : Operand) (t : TypeId)
    (ho : o.op = .call { callee := .builtin .append, args := #[s, x], argTypes := #[t, t] })
    (e : TypeId) (i : TypeInfo) (ht : P.underlying t = some (.slice e)) (hi : P.info? e = some i) (g n cap c : Nat) (A : Option Addr) (hnc : n ≤ cap) (hs : a.eval s = .slice (some ⟨g, 0, none⟩) n cap) (hx : a.eval x = .slice A 0 c)
    (h : K (a.put o.dst (.slice (some ⟨g, 0, none⟩) n cap)) w) :
    if Region.wanted o (yielded ops a.tmps) = true then Oper.wp P o a w K Q else E := by
  have hw : Region.wanted o (yielded ops a.tmps) = true := by simp [Region.wanted, hgd]
  rw [if_pos hw]
  have hr := run_append_zero (P := P) (w := w) t o.type e i ht hi g n cap c A hnc
  unfold Oper.wp execOp
  simp only [ho, resolve, invoke, builtin, Sem.run_bind, Sem.run_pure, Result.andThen_ok, List.map_toArray, List.map_cons, List.map_nil, hs, hx, hr]
  exact h
end

theorem bs_news {W : World} {l : List Bs} {b off : Nat} (h : ∀ i x, l[i]? = some x → W.cell? ⟨b, off + i * 2, none⟩ = some (.bool x.cell) ∧ W.cell? ⟨b, off + i * 2 + 1, none⟩ = some (.int .i64 x.n)) :
    ∀ j u, (l.flatMap bsVals)[j]? = some u → W.cell? ((⟨b, off, none⟩ : Addr).add j) = some u := by
  have hh : ∀ (l : List Bs) (off : Nat), (∀ i x, l[i]? = some x → W.cell? ⟨b, off + i * 2, none⟩ = some (.bool x.cell) ∧ W.cell? ⟨b, off + i * 2 + 1, none⟩ = some (.int .i64 x.n)) → ∀ j u, (l.flatMap bsVals)[j]? = some u → W.cell? ⟨b, off + j, none⟩ = some u := by
    intro l
    induction l with
    | nil => intro off _ j u hu; simp at hu
    | cons x r ih =>
      intro off h j u hu
      rw [List.flatMap_cons] at hu
      match j with
      | 0 => simp [bsVals] at hu; subst hu; simpa using (h 0 x rfl).1
      | 1 => simp [bsVals] at hu; subst hu; simpa using (h 0 x rfl).2
      | j + 2 =>
        rw [List.getElem?_append_right (by simp [bsVals])] at hu
        have := ih (off + 2) (fun i y hy => by
          have := h (i + 1) y (by simpa using hy)
          rw [show off + (i + 1) * 2 = off + 2 + i * 2 by omega] at this
          exact this) j u (by simpa [bsVals] using hu)
        rw [show off + (j + 2) = off + 2 + j by omega]
        exact this
  intro j u hu
  have := hh l off h j u hu
  unfold Addr.add
  by_cases hj : j = 0
  · subst hj; simpa using this
  · simpa [hj] using this
theorem bs_one {l : List Bs} : ∀ u ∈ l.flatMap bsVals, u.oneCell' = true := by
  intro u hu
  obtain ⟨x, _, hx⟩ := List.mem_flatMap.1 hu
  simp [bsVals] at hx
  rcases hx with rfl | rfl <;> rfl
theorem bs_flat_len (l : List Bs) : (l.flatMap bsVals).length = l.length * 2 := by
  induction l with
  | nil => rfl
  | cons x r ih => rw [List.flatMap_cons, List.length_append, ih, List.length_cons]; simp [bsVals]; omega

set_option maxRecDepth 100000 in
set_option maxHeartbeats 1000000 in
/-- A copy of a type. -/
theorem copyType_any (t : Ty) (pv : Value) (w : World) (hp : SlB w pv t.params) (hl : t.params.length ≤ 1000) :
    Calls Tryz.prog 54 #[tyV pv t] w fun e w' => ∃ g cap, e = .returned (.agg #[.slice (some ⟨g, 0, none⟩) t.params.length cap, .bool t.result.cell, .int .i64 t.result.n]) ∧
      w'.ownsRow w.heap.size 24 2 (.slice (some ⟨g, 0, none⟩) t.params.length cap) t.params.length (t.params.flatMap bsVals) ∧ Below w.heap.size w w' := by
  obtain ⟨A, c, rfl, hA⟩ := hp
  obtain ⟨i0, hi, hz0, hz1, hz2⟩ := info_parts bs_info
  obtain ⟨k0, k1⟩ := blocks2 w (.cells #[.slice A t.params.length c, .bool t.result.cell, .int .i64 t.result.n] 64) (.cells #[.slice none 0 0, .bool false, .int .i64 0] 64)
  have hba : Below w.heap.size w ((w.alloc (.cells #[.slice A t.params.length c, .bool t.result.cell, .int .i64 t.result.n] 64)).alloc (.cells #[.slice none 0 0, .bool false, .int .i64 0] 64)) := below_two
  have hsz : ((w.alloc (.cells #[.slice A t.params.length c, .bool t.result.cell, .int .i64 t.result.n] 64)).alloc (.cells #[.slice none 0 0, .bool false, .int .i64 0] 64)).heap.size = w.heap.size + 2 := by simp
  unfold tyV
  go_enter Tryz.func54, Tryz.ntmps54
  go_upto_region 1 with (fail)
  generalize (w.alloc (.cells #[.slice A t.params.length c, .bool t.result.cell, .int .i64 t.result.n] 64)).alloc (.cells #[.slice none 0 0, .bool false, .int .i64 0] 64) = V at k0 k1 hba hsz ⊢
  have c0 := cell_of_row _ _ 0 _ _ _ k0
  have c1 := cell_of_row _ _ 1 _ _ _ k0
  have c2 := cell_of_row _ _ 2 _ _ _ k0
  have d0 := cell_of_row _ _ 0 _ _ _ k1
  have d1 := cell_of_row _ _ 1 _ _ _ k1
  have d2 := cell_of_row _ _ 2 _ _ _ k1
  have f0 := frozen_of_row _ _ 0 _ _ k1
  have f1 := frozen_of_row _ _ 1 _ _ k1
  have f2 := frozen_of_row _ _ 2 _ _ k1
  have hown : (V.alloc (.cells #[] 24)).ownsRow (w.heap.size + 2) 24 2 (.slice (some ⟨w.heap.size + 2, 0, none⟩) 0 0) 0 [] := by
    have := World.ownsRow_lit (base := w.heap.size + 2) (e := 24) (size := 2) V #[] 0 (by omega) (by decide) rfl
    rw [hsz] at this
    exact this
  have hv0 : w.heap.size < V.heap.size := by omega
  have hv1 : w.heap.size + 1 < V.heap.size := by omega
  by_cases h0 : t.params.length = 0
  · have hnil : t.params = [] := List.eq_nil_of_length_eq_zero h0
    have Hnil := Lib.hid hnil
    have hbe := below3s (b := w.heap.size + 1) (x := .slice (some ⟨w.heap.size + 2, 0, none⟩) 0 0) (y := .bool t.result.cell) (z := .int .i64 t.result.n) hba (by omega)
    have hbf := (hbe.alloc (by simp; omega) (.cells #[] 24)).drew
    have hown2 := World.ownsRow_lit (base := w.heap.size + 2) (e := 24) (size := 2) (((V.setCell ⟨w.heap.size + 1, 0, none⟩ (.slice (some ⟨w.heap.size + 2, 0, none⟩) 0 0)).setCell ⟨w.heap.size + 1, 1, none⟩ (.bool t.result.cell)).setCell ⟨w.heap.size + 1, 2, none⟩ (.int .i64 t.result.n)) #[] 0 (by simp; omega) (by decide) rfl
    simp only [World.size_setCell, hsz] at hown2
    have HO2 := Lib.hid hown2.drew
    clear hnil hown hown2
    go_region_held3 (fun w' => w'.cell? ⟨w.heap.size, 0, none⟩ = some (.slice A t.params.length c) ∧ w'.cell? ⟨w.heap.size, 1, none⟩ = some (.bool t.result.cell) ∧ w'.cell? ⟨w.heap.size, 2, none⟩ = some (.int .i64 t.result.n))
      (first
        | (go_split_ands; all_goals (first | exact c0 | exact c1 | exact c2 | assumption))
        | go_keep)
      ((refine step_append_zero (by rfl) _ _ _ (by rfl) _ i0 Tryz.underlying62 hi _ 0 0 c A (Nat.le_refl _) (by rfl) (by rfl) ?_))
    go_wp2
    refine bodyPost_ret (v := .agg #[.slice (some ⟨w.heap.size + 2, 0, none⟩) 0 0, .bool t.result.cell, .int .i64 t.result.n]) (by simp [results, Tryz.results54, go_sem, hv1, d0, d1, d2]) rfl ⟨w.heap.size + 2, 0, by rw [Hnil.out]; rfl, ?_, hbf⟩
    rw [Hnil.out]
    exact World.ownsRow.mono HO2.out (by omega)
  · obtain ⟨b1, o1, rfl, hb1, hc1⟩ := hA (by omega)
    have hbz : Below V.heap.size V ((V.alloc (.cells #[] 24)).drew) := ((Below.refl _ _).alloc (Nat.le_refl _) _).drew
    have hbx := hba.trans (hbz.mono hba.size)
    have hnews := bs_news (W := (V.alloc (.cells #[] 24)).drew) (l := t.params) (b := b1) (off := o1) (fun i x hx => ⟨(hbx.cell (p := ⟨b1, o1 + i * 2, none⟩) hb1).trans (hc1 i x hx).1, (hbx.cell (p := ⟨b1, o1 + i * 2 + 1, none⟩) hb1).trans (hc1 i x hx).2⟩)
    have d0' := (hbz.cell (p := ⟨w.heap.size + 1, 0, none⟩) (by show w.heap.size + 1 < _; omega)).trans d0
    have d1' := (hbz.cell (p := ⟨w.heap.size + 1, 1, none⟩) (by show w.heap.size + 1 < _; omega)).trans d1
    have d2' := (hbz.cell (p := ⟨w.heap.size + 1, 2, none⟩) (by show w.heap.size + 1 < _; omega)).trans d2
    have f0' := (hbz.frozen (p := ⟨w.heap.size + 1, 0, none⟩) (by show w.heap.size + 1 < _; omega)).trans f0
    have f1' := (hbz.frozen (p := ⟨w.heap.size + 1, 1, none⟩) (by show w.heap.size + 1 < _; omega)).trans f1
    have f2' := (hbz.frozen (p := ⟨w.heap.size + 1, 2, none⟩) (by show w.heap.size + 1 < _; omega)).trans f2
    have HN := Lib.hid hnews
    have HB := Lib.hid hbx
    have D0 := Lib.hid d0'
    have D1 := Lib.hid d1'
    have D2 := Lib.hid d2'
    have F0 := Lib.hid f0'
    have F1 := Lib.hid f1'
    have F2 := Lib.hid f2'
    have HL := Lib.hid (bs_flat_len t.params)
    clear hnews hbx d0' d1' d2' f0' f1' f2' hc1 hA hbz
    go_region_held3 (fun w' => w'.cell? ⟨w.heap.size, 0, none⟩ = some (.slice (some ⟨b1, o1, none⟩) t.params.length c) ∧ w'.cell? ⟨w.heap.size, 1, none⟩ = some (.bool t.result.cell) ∧ w'.cell? ⟨w.heap.size, 2, none⟩ = some (.int .i64 t.result.n))
      (first
        | (go_split_ands; all_goals (first | exact c0 | exact c1 | exact c2 | assumption))
        | go_keep
        | (go_split_ands
           refine ⟨?_, ?_, ?_⟩
           · (rw [hgrow.cell_far _ (by simp; omega) (by simp [Value.ownBlock])]; assumption)
           · (rw [hgrow.cell_far _ (by simp; omega) (by simp [Value.ownBlock])]; assumption)
           · (rw [hgrow.cell_far _ (by simp; omega) (by simp [Value.ownBlock])]; assumption)))
      ((refine step_append_lies _ (by rfl) _ _ _ (by rfl) (w.heap.size + 2) 24 i0 _ 2 16 Tryz.underlying62 hi hz0 hz1 hz2 rfl (by omega) _ _ _ (by rfl) hown.drew ⟨b1, o1, none⟩ t.params.length c (t.params.flatMap bsVals) (by rfl) HL.out HN.out bs_one (by omega) (by unfold maxLen; omega) (by omega) (by simp; omega) (w.heap.size + 3) (by simp; omega) ?_; intro gg cap w2 hown2 hgrow hat hlt2; have e0 := (hgrow.cell_far ⟨w.heap.size + 1, 0, none⟩ (by simp; omega) (by simp [Value.ownBlock])).trans D0.out; have e1 := (hgrow.cell_far ⟨w.heap.size + 1, 1, none⟩ (by simp; omega) (by simp [Value.ownBlock])).trans D1.out; have e2 := (hgrow.cell_far ⟨w.heap.size + 1, 2, none⟩ (by simp; omega) (by simp [Value.ownBlock])).trans D2.out; have g0 := (hgrow.frozen_far ⟨w.heap.size + 1, 0, none⟩ (by simp; omega) (by simp [Value.ownBlock])).trans F0.out; have g1 := (hgrow.frozen_far ⟨w.heap.size + 1, 1, none⟩ (by simp; omega) (by simp [Value.ownBlock])).trans F1.out; have g2 := (hgrow.frozen_far ⟨w.heap.size + 1, 2, none⟩ (by simp; omega) (by simp [Value.ownBlock])).trans F2.out))
    have hbe := (((hba.alloc hba.size (.cells #[] 24)).drew).grown hgrow (by simp; omega) (fun j hj => by simp [Value.ownBlock] at hj; omega))
    have hbf := below3s (b := w.heap.size + 1) (x := .slice (some ⟨gg, 0, none⟩) t.params.length cap) (y := .bool t.result.cell) (z := .int .i64 t.result.n) hbe (by omega)
    have hlw2 : w.heap.size + 1 < w2.heap.size := by have := hgrow.size; simp at this; omega
    go_wp2
    refine bodyPost_ret (v := .agg #[.slice (some ⟨gg, 0, none⟩) t.params.length cap, .bool t.result.cell, .int .i64 t.result.n]) (by simp [results, Tryz.results54, go_sem, e0, e1, e2]) rfl ⟨gg, cap, rfl, ?_, hbf⟩
    simp only [Nat.zero_add, List.nil_append] at hown2
    exact World.ownsRow.mono (ownsRow_setCell_below (ownsRow_setCell_below (ownsRow_setCell_below hown2 (by show w.heap.size + 1 < _; omega) _) (by show w.heap.size + 1 < _; omega) _) (by show w.heap.size + 1 < _; omega) _) (by omega)

end Go.Proofs.YtoncdnelacolaaaGreatDoor.Ar
