/- Add: clones of types, a list of them. -/
import Derived.Test.YtoncdnelacolaaaGreatDoorAAddA
import Derived.Test.YtoncdnelacolaaaGreatDoorALists
import Derived.Lib.SliceRun
namespace Go.Proofs.YtoncdnelacolaaaGreatDoor.Ar
open Go Go.Proofs Go.RowKit Lx Ps

set_option maxRecDepth 100000 in
set_option maxHeartbeats 1000000 in
theorem cloneB_any (v : Value) (l : List Bs) (w : World) (hv : SlB w v l) (hl : l.length ≤ 1000) :
    Calls Tryz.prog 94 #[v] w fun e w' => ∃ u, e = .returned u ∧ w'.ownsRow w.heap.size 24 2 u l.length (l.flatMap bsVals) ∧ Below w.heap.size w w' := by
  obtain ⟨A, c, rfl, hA⟩ := hv
  obtain ⟨i0, hi, hz0, hz1, hz2⟩ := info_parts bs_info
  have hq : ∀ (w : World) (a : Option Addr) (n c n' c' : Nat), (binOp .eql 62 (.slice a n c) (.slice none n' c')).run Tryz.prog w = .ok (.bool a.isNone) w := fun w a n c n' c' => Lib.run_eql_slice_nil w _ _ a n c n' c' Tryz.underlying62
  by_cases h0 : l.length = 0
  · have hnil : l = [] := List.eq_nil_of_length_eq_zero h0
    subst hnil
    cases A with
    | none =>
      go_enter Tryz.func94, Tryz.ntmps94
      go_wp2
      go_ret
      exact ⟨_, rfl, World.ownsRow_nil _ _ _ _, Below.refl _ _⟩
    | some ad =>
      have hown := World.ownsRow_lit (base := w.heap.size) (e := 24) (size := 2) w #[] 0 (Nat.le_refl _) (by decide) rfl
      have hb : Below w.heap.size w (w.alloc (.cells #[] 24)) := (Below.refl _ _).alloc (Nat.le_refl _) _
      have hr := run_append_zero (P := Tryz.prog) (w := w.alloc (.cells #[] 24)) 62 62 24 i0 Tryz.underlying62 hi w.heap.size 0 0 c (some ad) (Nat.le_refl _)
      go_enter Tryz.func94, Tryz.ntmps94
      go_wp2_with (at_builtin; refine wpList_append_known rfl _ _ 62 62 rfl _ _ hr ?_)
      go_ret
      exact ⟨_, rfl, hown, hb⟩
  · obtain ⟨b1, o1, rfl, hb1, hc1⟩ := hA (by omega)
    have hown := World.ownsRow_lit (base := w.heap.size) (e := 24) (size := 2) w #[] 0 (Nat.le_refl _) (by decide) rfl
    have hb : Below w.heap.size w (w.alloc (.cells #[] 24)) := (Below.refl _ _).alloc (Nat.le_refl _) _
    have hnews := bs_news (W := w.alloc (.cells #[] 24)) (l := l) (b := b1) (off := o1) (fun i x hx => ⟨(hb.cell (p := ⟨b1, o1 + i * 2, none⟩) hb1).trans (hc1 i x hx).1, (hb.cell (p := ⟨b1, o1 + i * 2 + 1, none⟩) hb1).trans (hc1 i x hx).2⟩)
    have HN := Lib.hid hnews
    have HL := Lib.hid (bs_flat_len l)
    clear hnews hc1 hA
    go_enter Tryz.func94, Tryz.ntmps94
    go_wp2_with (at_builtin; refine wpList_append_own _ rfl _ _ 62 rfl w.heap.size 24 i0 _ 2 16 Tryz.underlying62 hi hz0 hz1 hz2 rfl (by decide) _ _ _ rfl hown ⟨b1, o1, none⟩ l.length c (l.flatMap bsVals) rfl HL.out HN.out bs_one (by unfold maxLen; omega) (by omega) (by simp) ?_; intro v' w2 hown2 hgrow _)
    go_ret
    simp only [Nat.zero_add, List.nil_append] at hown2
    exact ⟨_, rfl, hown2, hb.grown hgrow (by simp) (fun j e => by
      have e2 : some w.heap.size = some j := e
      injection e2 with e3
      exact Nat.le_of_eq e3)⟩

set_option maxRecDepth 100000 in
set_option maxHeartbeats 1000000 in
theorem add1_any (t : Ty) (pv : Value) (w : World) (hp : SlB w pv t.params) (hl : t.params.length ≤ 1000) :
    Calls Tryz.prog 93 #[tyV pv t] w fun e w' => ∃ u, e = .returned (.agg #[u, .bool t.result.cell, .int .i64 t.result.n]) ∧
      w'.ownsRow w.heap.size 24 2 u t.params.length (t.params.flatMap bsVals) ∧ Below w.heap.size w w' := by
  have hC : ∀ V, Below w.heap.size w V → Calls Tryz.prog 94 #[pv] V fun e w' => ∃ u, e = .returned u ∧ w'.ownsRow V.heap.size 24 2 u t.params.length (t.params.flatMap bsVals) ∧ Below V.heap.size V w' := fun V hb => cloneB_any pv t.params V (hp.below hb) hl
  have HC := Lib.hid hC
  clear hC
  obtain ⟨A, c, rfl, hA⟩ := hp
  obtain ⟨k0, k1⟩ := blocks2 w (.cells #[.slice A t.params.length c, .bool t.result.cell, .int .i64 t.result.n] 64) (.cells #[.slice none 0 0, .bool false, .int .i64 0] 64)
  have hba : Below w.heap.size w ((w.alloc (.cells #[.slice A t.params.length c, .bool t.result.cell, .int .i64 t.result.n] 64)).alloc (.cells #[.slice none 0 0, .bool false, .int .i64 0] 64)) := below_two
  have hsz : ((w.alloc (.cells #[.slice A t.params.length c, .bool t.result.cell, .int .i64 t.result.n] 64)).alloc (.cells #[.slice none 0 0, .bool false, .int .i64 0] 64)).heap.size = w.heap.size + 2 := by simp
  clear hA
  unfold tyV
  go_enter Tryz.func93, Tryz.ntmps93
  go_upto_region 1 with (fail)
  generalize (w.alloc (.cells #[.slice A t.params.length c, .bool t.result.cell, .int .i64 t.result.n] 64)).alloc (.cells #[.slice none 0 0, .bool false, .int .i64 0] 64) = V at k0 k1 hba hsz ⊢
  have c0 := cell_of_row _ _ 0 _ _ _ k0
  have c1 := cell_of_row _ _ 1 _ _ _ k0
  have c2 := cell_of_row _ _ 2 _ _ _ k0
  have hl0 := (Array.getElem?_eq_some_iff.1 k0).1
  have hl1 := (Array.getElem?_eq_some_iff.1 k1).1
  have HK1 := Lib.hid k1
  clear k0 k1
  go_region_held3 (fun w' => w'.cell? ⟨w.heap.size, 0, none⟩ = some (.slice A t.params.length c) ∧ w'.cell? ⟨w.heap.size, 1, none⟩ = some (.bool t.result.cell) ∧ w'.cell? ⟨w.heap.size, 2, none⟩ = some (.int .i64 t.result.n))
    (first
      | (go_split_ands; all_goals (first | exact c0 | exact c1 | exact c2 | assumption))
      | go_keep)
    ((go_at_call 94; refine (HC.out _ (by first | exact hba | exact hba.drew)).mono ?_; rintro e w1 ⟨u, rfl, hown1, hb4⟩; have hb3 : Below V.heap.size V w1 := ⟨hb4.os, hb4.tape, hb4.output, hb4.size, hb4.block⟩; have q0 := (hb3.cell (p := ⟨w.heap.size, 0, none⟩) hl0).trans c0; have q1 := (hb3.cell (p := ⟨w.heap.size, 1, none⟩) hl0).trans c1; have q2 := (hb3.cell (p := ⟨w.heap.size, 2, none⟩) hl0).trans c2; have r1 := heap_below hb3 hl1 HK1.out; have d0 := cell_of_row _ _ 0 _ _ _ r1; have d1 := cell_of_row _ _ 1 _ _ _ r1; have d2 := cell_of_row _ _ 2 _ _ _ r1; have f0 := frozen_of_row _ _ 0 _ _ r1; have f1 := frozen_of_row _ _ 1 _ _ r1; have f2 := frozen_of_row _ _ 2 _ _ r1; obtain ⟨A3, c3, rfl⟩ := own_slice hown1))
  have hown2 : w1.ownsRow (w.heap.size + 2) 24 2 (.slice A3 t.params.length c3) t.params.length (t.params.flatMap bsVals) := World.ownsRow.mono hown1 (by show w.heap.size + 2 ≤ V.heap.size; omega)
  have hbe := below3s (b := w.heap.size + 1) (x := .slice A3 t.params.length c3) (y := .bool t.result.cell) (z := .int .i64 t.result.n) (hba.trans (hb3.mono hba.size)) (by omega)
  go_wp2
  refine bodyPost_ret (v := .agg #[.slice A3 t.params.length c3, .bool t.result.cell, .int .i64 t.result.n]) (by simp [results, Tryz.results93, go_sem, d0, d1, d2]) rfl ⟨_, rfl, ?_, hbe⟩
  exact World.ownsRow.mono (ownsRow_setCell_below (ownsRow_setCell_below (ownsRow_setCell_below hown2 (by show w.heap.size + 1 < _; omega) _) (by show w.heap.size + 1 < _; omega) _) (by show w.heap.size + 1 < _; omega) _) (by omega)

theorem tyRow_len : ∀ (ps : List Value) (l : List Ty), ps.length = l.length → (tyRow ps l).length = l.length * 3
  | [], [], _ => rfl
  | _ :: ps, _ :: l, h => by
    have := tyRow_len ps l (by simpa using h)
    simp [tyRow, this]; omega

set_option maxRecDepth 100000 in
set_option maxHeartbeats 1000000 in
theorem listTT (v : Value) (l : List Ty) (w : World) (hv : SlT w v l) (hl : l.length ≤ 1000) (hls : ∀ t ∈ l, t.params.length ≤ 1000) :
    Calls Tryz.prog 92 #[v, .func (.func 93) #[] #[]] w fun e w' => ∃ u ps, e = .returned u ∧ w'.ownsRow w.heap.size 64 3 u l.length (tyRow ps l) ∧ Cps w' w.heap.size ps l ∧ Below w.heap.size w w' := by
  obtain ⟨A, cap, rfl, hA⟩ := hv
  obtain ⟨i0, hi, hz0, hz1, hz2⟩ := info_parts ty_info
  go_enter Tryz.func92, Tryz.ntmps92
  go_wp2
  go_loopw [5, 7, 10] (fun u _ c wr => ∃ (k : Nat) (ps : List Value), k ≤ l.length ∧ c = .int .i64 (k : Int) ∧ wr.ownsRow w.heap.size 64 3 u k (tyRow ps (l.take k)) ∧ Cps wr w.heap.size ps (l.take k) ∧ Below w.heap.size w wr) (fun _ _ c _ => l.length - (intOf c).toNat)
  case atStart => exact ⟨0, [], Nat.zero_le _, rfl, World.ownsRow_nil _ _ _ _, ⟨rfl, fun i p t h _ => by simp at h⟩, Below.refl _ _⟩
  case round =>
    obtain ⟨k, ps, hk, rfl, hown, hcp, hb⟩ := hrel
    obtain ⟨Ao, co, rfl⟩ := own_slice hown
    by_cases hlt : k < l.length
    · obtain ⟨b1, o1, rfl, hb1, hc1⟩ := hA (by omega)
      obtain ⟨pv, p0, p1, p2, p3⟩ := hc1 k _ (List.getElem?_eq_getElem hlt)
      have p1' := (hb.cell (p := ⟨b1, o1 + k * 3, none⟩) hb1).trans p1
      have p2' := (hb.cell (p := ⟨b1, o1 + k * 3 + 1, none⟩) hb1).trans p2
      have p3' := (hb.cell (p := ⟨b1, o1 + k * 3 + 2, none⟩) hb1).trans p3
      have p0' := p0.below hb
      have htk := List.take_succ_eq_append_getElem hlt
      have hxl := hls _ (List.getElem_mem hlt)
      clear p0 p1 p2 p3 hc1 hA
      generalize l[k] = x at p0' p1' p2' p3' htk hxl
      have HT := Lib.hid htk
      have hbs : Below wr.heap.size wr (wr.alloc (.cells #[pv, .bool x.result.cell, .int .i64 x.result.n] 64)) := (Below.refl _ _).alloc (Nat.le_refl _) _
      have hbz := hb.trans (hbs.mono hb.size)
      have hcall := add1_any x pv _ (p0'.below hbs) hxl
      unfold tyV at hcall
      have Hc := Lib.hid hcall
      have Hown := Lib.hid (own_below hown hbs)
      have Hcp := Lib.hid (hcp.map fun p n xs hp => own_below hp hbs)
      have hb1r : b1 < wr.heap.size := Nat.lt_of_lt_of_le hb1 hb.size
      clear hcall hown htk hcp
      obtain ⟨A2, c2, rfl, -⟩ := p0'
      go_wp2_with (first
        | (go_at_call 93; refine Hc.out.mono ?_; rintro e w1 ⟨u, rfl, hq, hb3⟩; obtain ⟨A3, c3, rfl⟩ := own_slice hq; have hown1 := own_below Hown.out hb3; have hb4 := hbz.trans (hb3.mono hbz.size); have hz4 := hb4.size)
        | (at_builtin; refine wpList_append_own _ rfl _ _ 22 rfl w.heap.size 64 i0 _ 3 40 Tryz.underlying22 hi hz0 hz1 hz2 rfl (by decide) _ _ _ rfl (hown1.alloc _) ⟨w1.heap.size, 0, none⟩ 1 1 [.slice A3 x.params.length c3, .bool x.result.cell, .int .i64 x.result.n] rfl rfl (lit_new2 _ _ _ rfl _) (fun u hu => by simp at hu; rcases hu with rfl | rfl | rfl <;> rfl) (by unfold maxLen; omega) (by omega) (by simp; omega) ?_; intro v' w2 hown' hgrow _))
      go_roundw
      case rel =>
        have hX : Below w1.heap.size w1 (w1.alloc (.cells #[.slice A3 x.params.length c3, .bool x.result.cell, .int .i64 x.result.n] 64)) := (Below.refl _ _).alloc (Nat.le_refl _) _
        have hkeep : ∀ (p : Value) (n : Nat) (xs : List Value), (w1.alloc (.cells #[.slice A3 x.params.length c3, .bool x.result.cell, .int .i64 x.result.n] 64)).ownsRow w.heap.size 24 2 p n xs → w2.ownsRow w.heap.size 24 2 p n xs := fun p n xs hp => hp.kept hgrow (own_apart hp (hown1.alloc _) (by decide))
        refine ⟨k + 1, ps ++ [.slice A3 x.params.length c3], by omega, by go_num, by rw [HT.out, tyRow_push _ _ _ _ Hcp.out.len]; exact hown', ?_, ?_⟩
        · rw [HT.out]
          refine Cps.push (Hcp.out.map fun p n xs hp => hkeep p n xs (own_below (own_below hp hb3) hX)) (hkeep _ _ _ (own_below (World.ownsRow.mono hq hbz.size) hX))
        · exact (hb4.alloc hb4.size _).grown hgrow (by simp; omega) (fun j e => (World.ownsRow.lt hown1 j e).1)
      case measure => simp [intOf]; omega
    · have hkN : k = l.length := by omega
      subst hkN
      rw [List.take_length] at hown hcp
      go_wp2
      go_ret
      exact ⟨_, ps, rfl, hown, hcp, hb⟩

end Go.Proofs.YtoncdnelacolaaaGreatDoor.Ar
