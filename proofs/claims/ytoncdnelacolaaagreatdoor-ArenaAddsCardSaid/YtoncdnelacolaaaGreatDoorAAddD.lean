/- Add: an arena with further types. -/
import Derived.Test.YtoncdnelacolaaaGreatDoorARefE
import Derived.Lib.AppendZerosOnto
import Derived.Test.YtoncdnelacolaaaGreatDoorALists
import Derived.Lib.SliceRun
import Derived.Test.YtoncdnelacolaaaGreatDoorARefH
import Derived.Deep.DeepCutAuto
import Derived.Deep.RegionHeld3
namespace Go.Proofs.YtoncdnelacolaaaGreatDoor.Ar
open Go Go.Proofs Go.RowKit Lx Ps

section
variable {P : Program} {w : World}
/-- A builtin append whose end is known. -/
theorem wpList_append_known {ops : Array Oper} {rest : List Oper} {o : Oper} {a : Act} {Q : Exit → Act → World → Prop} (hgd : o.guard = none) (s x : Operand) (t tn : TypeId)
    (ho : o.op = .call { callee := .builtin .append, args := #[s, x], argTypes := #[t, tn] }) (v' : Value) (w' : World) (hr : (Builtin.append_ #[t, tn] o.type #[a.eval s, a.eval x]).run P w = .ok v' w')
    (h : wpList P ops Q rest (a.put o.dst v') w') : wpList P ops Q (o :: rest) a w := by
  refine wpList_plain hgd fun K hK => ?_
  unfold Oper.wp
  simp [execOp, ho, resolve, invoke, builtin, hr, Result.andThen]
  exact hK _ _ h
end
theorem own_zeros {w : World} {n cap : Nat} {e : TypeId} {z : Array Value} (hz : z.size = 3) (hc : cap ≤ maxLen) (hn : n ≤ cap) :
    (w.drew.alloc (.cells (#[] ++ Builtin.zeroCells z n ++ Builtin.zeroCells z (cap - n)) e)).ownsRow w.heap.size e 3 (.slice (some ⟨w.heap.size, 0, none⟩) 0 cap) 0 [] := by
  refine ⟨rfl, .inr ⟨w.heap.size, cap, _, rfl, Nat.le_refl _, heap_alloc_new w.drew _, Nat.zero_le _, hc, ?_, by simp⟩⟩
  simp only [Array.size_append, size_zeroCells, hz, Array.size_empty]
  omega

set_option maxRecDepth 100000 in
set_option maxHeartbeats 1000000 in
/-- A row with room for so many types. -/
theorem growT_any (n : Nat) (w : World) (hn : n ≤ 1000) :
    Calls Tryz.prog 125 #[.slice none 0 0, .int .i64 (n : Int)] w fun e w' => ∃ v, e = .returned v ∧ w'.ownsRow w.heap.size 64 3 v 0 [] ∧ Below w.heap.size w w' := by
  obtain ⟨i0, hi, hz0, hz1, hz2⟩ := info_parts ty_info2
  by_cases h0 : n = 0
  · subst h0
    go_enter Tryz.func125, Tryz.ntmps125
    go_wp2
    go_ret
    exact ⟨_, rfl, World.ownsRow_nil _ _ _ _, Below.refl _ _⟩
  · have hp : (0 : Int) < (n : Int) := by omega
    have hnn : ¬ ((n : Int) < 0) := by omega
    have hw : IntKind.i64.wrap (n : Int) = (n : Int) := IntWalk.i64_in _ (by omega)
    have hr := Lib.run_append_grow_zeros (P := Tryz.prog) w 22 3 22 64 i0 _ .i64 .i64 Tryz.underlying22 Tryz.underlying3 hi hz0 none 0 0 [] (by simp [Builtin.firstCells]) n (by omega) (by omega) (by omega) (by omega) (by rw [hz2]; omega) (growslice_fits (by omega) (by rw [hz2]; omega))
    simp only [Nat.zero_add] at hr
    have hcap := grownCap_ge w n 0 64
    have hcm := grownCap_le_maxLen w n 0 64 (by unfold maxLen; omega)
    have hown := own_zeros (w := w) (n := n) (cap := grownCap w n 0 64) (e := 64) (z := (Value.agg #[.slice none 0 0, .bool false, .int .i64 0]).cells) rfl hcm hcap
    have hb : Below w.heap.size w (w.drew.alloc (.cells (#[] ++ Builtin.zeroCells (Value.agg #[.slice none 0 0, .bool false, .int .i64 0]).cells n ++ Builtin.zeroCells (Value.agg #[.slice none 0 0, .bool false, .int .i64 0]).cells (grownCap w n 0 64 - n)) 64)) := Below.alloc ((Below.refl w.heap.size w).drew) (Nat.le_refl _) _
    generalize grownCap w n 0 64 = cap at *
    generalize w.drew.alloc (.cells (#[] ++ Builtin.zeroCells (Value.agg #[.slice none 0 0, .bool false, .int .i64 0]).cells n ++ Builtin.zeroCells (Value.agg #[.slice none 0 0, .bool false, .int .i64 0]).cells (cap - n)) 64) = X at *
    go_enter Tryz.func125, Tryz.ntmps125
    go_wp2_with (at_builtin; refine wpList_append_known rfl _ _ 22 3 rfl _ _ hr ?_)
    go_ret
    exact ⟨_, rfl, hown, hb⟩

end Go.Proofs.YtoncdnelacolaaaGreatDoor.Ar

namespace Go.Proofs.YtoncdnelacolaaaGreatDoor.Ar
open Go Go.Proofs Go.RowKit Lx Ps

set_option maxRecDepth 100000 in
set_option maxHeartbeats 1000000 in
theorem cloneB_any (v : Value) (l : List Bs) (w : World) (hv : SlB w v l) (hl : l.length ≤ 1000) :
    Calls Tryz.prog 94 #[v] w fun e w' => ∃ u, e = .returned u ∧ w'.ownsRow w.heap.size 24 2 u l.length (l.flatMap bsVals) ∧ Below w.heap.size w w' := by
  obtain ⟨A, c, rfl, hA⟩ := hv
  obtain ⟨i0, hi, hz0, hz1, hz2⟩ := info_parts bs_info
  have hq : ∀ (w : World) (a : Option Addr) (n c n' c' : Nat), (binOp .eql 62 (.slice a n c) (.slice none n' c')).run Tryz.prog w = .ok (.bool a.isNone) w := fun w a n c n' c' => Lib.run_eql_slice_nil w _ _ a n c n' c' Tryz.underlying62
  by_cases h0 : l.length = 0
  · have hnil : l = [] := List.eq_nil_of_length_eq_zero h0
    subst hnil
    cases A with
    | none =>
      go_enter Tryz.func94, Tryz.ntmps94
      go_wp2
      go_ret
      exact ⟨_, rfl, World.ownsRow_nil _ _ _ _, Below.refl _ _⟩
    | some ad =>
      have hown := World.ownsRow_lit (base := w.heap.size) (e := 24) (size := 2) w #[] 0 (Nat.le_refl _) (by decide) rfl
      have hb : Below w.heap.size w (w.alloc (.cells #[] 24)) := (Below.refl _ _).alloc (Nat.le_refl _) _
      have hr := run_append_zero (P := Tryz.prog) (w := w.alloc (.cells #[] 24)) 62 62 24 i0 Tryz.underlying62 hi w.heap.size 0 0 c (some ad) (Nat.le_refl _)
      go_enter Tryz.func94, Tryz.ntmps94
      go_wp2_with (at_builtin; refine wpList_append_known rfl _ _ 62 62 rfl _ _ hr ?_)
      go_ret
      exact ⟨_, rfl, hown, hb⟩
  · obtain ⟨b1, o1, rfl, hb1, hc1⟩ := hA (by omega)
    have hown := World.ownsRow_lit (base := w.heap.size) (e := 24) (size := 2) w #[] 0 (Nat.le_refl _) (by decide) rfl
    have hb : Below w.heap.size w (w.alloc (.cells #[] 24)) := (Below.refl _ _).alloc (Nat.le_refl _) _
    have hnews := bs_news (W := w.alloc (.cells #[] 24)) (l := l) (b := b1) (off := o1) (fun i x hx => ⟨(hb.cell (p := ⟨b1, o1 + i * 2, none⟩) hb1).trans (hc1 i x hx).1, (hb.cell (p := ⟨b1, o1 + i * 2 + 1, none⟩) hb1).trans (hc1 i x hx).2⟩)
    have HN := Lib.hid hnews
    have HL := Lib.hid (bs_flat_len l)
    clear hnews hc1 hA
    go_enter Tryz.func94, Tryz.ntmps94
    go_wp2_with (at_builtin; refine wpList_append_own _ rfl _ _ 62 rfl w.heap.size 24 i0 _ 2 16 Tryz.underlying62 hi hz0 hz1 hz2 rfl (by decide) _ _ _ rfl hown ⟨b1, o1, none⟩ l.length c (l.flatMap bsVals) rfl HL.out HN.out bs_one (by unfold maxLen; omega) (by omega) (by simp) ?_; intro v' w2 hown2 hgrow _)
    go_ret
    simp only [Nat.zero_add, List.nil_append] at hown2
    exact ⟨_, rfl, hown2, hb.grown hgrow (by simp) (fun j e => by
      have e2 : some w.heap.size = some j := e
      injection e2 with e3
      exact Nat.le_of_eq e3)⟩

set_option maxRecDepth 100000 in
set_option maxHeartbeats 1000000 in
theorem add1_any (t : Ty) (pv : Value) (w : World) (hp : SlB w pv t.params) (hl : t.params.length ≤ 1000) :
    Calls Tryz.prog 93 #[tyV pv t] w fun e w' => ∃ u, e = .returned (.agg #[u, .bool t.result.cell, .int .i64 t.result.n]) ∧
      w'.ownsRow w.heap.size 24 2 u t.params.length (t.params.flatMap bsVals) ∧ Below w.heap.size w w' := by
  have hC : ∀ V, Below w.heap.size w V → Calls Tryz.prog 94 #[pv] V fun e w' => ∃ u, e = .returned u ∧ w'.ownsRow V.heap.size 24 2 u t.params.length (t.params.flatMap bsVals) ∧ Below V.heap.size V w' := fun V hb => cloneB_any pv t.params V (hp.below hb) hl
  have HC := Lib.hid hC
  clear hC
  obtain ⟨A, c, rfl, hA⟩ := hp
  obtain ⟨k0, k1⟩ := blocks2 w (.cells #[.slice A t.params.length c, .bool t.result.cell, .int .i64 t.result.n] 64) (.cells #[.slice none 0 0, .bool false, .int .i64 0] 64)
  have hba : Below w.heap.size w ((w.alloc (.cells #[.slice A t.params.length c, .bool t.result.cell, .int .i64 t.result.n] 64)).alloc (.cells #[.slice none 0 0, .bool false, .int .i64 0] 64)) := below_two
  have hsz : ((w.alloc (.cells #[.slice A t.params.length c, .bool t.result.cell, .int .i64 t.result.n] 64)).alloc (.cells #[.slice none 0 0, .bool false, .int .i64 0] 64)).heap.size = w.heap.size + 2 := by simp
  clear hA
  unfold tyV
  go_enter Tryz.func93, Tryz.ntmps93
  go_upto_region 1 with (fail)
  generalize (w.alloc (.cells #[.slice A t.params.length c, .bool t.result.cell, .int .i64 t.result.n] 64)).alloc (.cells #[.slice none 0 0, .bool false, .int .i64 0] 64) = V at k0 k1 hba hsz ⊢
  have c0 := cell_of_row _ _ 0 _ _ _ k0
  have c1 := cell_of_row _ _ 1 _ _ _ k0
  have c2 := cell_of_row _ _ 2 _ _ _ k0
  have hl0 := (Array.getElem?_eq_some_iff.1 k0).1
  have hl1 := (Array.getElem?_eq_some_iff.1 k1).1
  have HK1 := Lib.hid k1
  clear k0 k1
  go_region_held3 (fun w' => w'.cell? ⟨w.heap.size, 0, none⟩ = some (.slice A t.params.length c) ∧ w'.cell? ⟨w.heap.size, 1, none⟩ = some (.bool t.result.cell) ∧ w'.cell? ⟨w.heap.size, 2, none⟩ = some (.int .i64 t.result.n))
    (first
      | (go_split_ands; all_goals (first | exact c0 | exact c1 | exact c2 | assumption))
      | go_keep)
    ((go_at_call 94; refine (HC.out _ (by first | exact hba | exact hba.drew)).mono ?_; rintro e w1 ⟨u, rfl, hown1, hb4⟩; have hb3 : Below V.heap.size V w1 := ⟨hb4.os, hb4.tape, hb4.output, hb4.size, hb4.block⟩; have q0 := (hb3.cell (p := ⟨w.heap.size, 0, none⟩) hl0).trans c0; have q1 := (hb3.cell (p := ⟨w.heap.size, 1, none⟩) hl0).trans c1; have q2 := (hb3.cell (p := ⟨w.heap.size, 2, none⟩) hl0).trans c2; have r1 := heap_below hb3 hl1 HK1.out; have d0 := cell_of_row _ _ 0 _ _ _ r1; have d1 := cell_of_row _ _ 1 _ _ _ r1; have d2 := cell_of_row _ _ 2 _ _ _ r1; have f0 := frozen_of_row _ _ 0 _ _ r1; have f1 := frozen_of_row _ _ 1 _ _ r1; have f2 := frozen_of_row _ _ 2 _ _ r1; obtain ⟨A3, c3, rfl⟩ := own_slice hown1))
  have hown2 : w1.ownsRow (w.heap.size + 2) 24 2 (.slice A3 t.params.length c3) t.params.length (t.params.flatMap bsVals) := World.ownsRow.mono hown1 (by show w.heap.size + 2 ≤ V.heap.size; omega)
  have hbe := below3s (b := w.heap.size + 1) (x := .slice A3 t.params.length c3) (y := .bool t.result.cell) (z := .int .i64 t.result.n) (hba.trans (hb3.mono hba.size)) (by omega)
  go_wp2
  refine bodyPost_ret (v := .agg #[.slice A3 t.params.length c3, .bool t.result.cell, .int .i64 t.result.n]) (by simp [results, Tryz.results93, go_sem, d0, d1, d2]) rfl ⟨_, rfl, ?_, hbe⟩
  exact World.ownsRow.mono (ownsRow_setCell_below (ownsRow_setCell_below (ownsRow_setCell_below hown2 (by show w.heap.size + 1 < _; omega) _) (by show w.heap.size + 1 < _; omega) _) (by show w.heap.size + 1 < _; omega) _) (by omega)

theorem tyRow_len : ∀ (ps : List Value) (l : List Ty), ps.length = l.length → (tyRow ps l).length = l.length * 3
  | [], [], _ => rfl
  | _ :: ps, _ :: l, h => by
    have := tyRow_len ps l (by simpa using h)
    simp [tyRow, this]; omega

set_option maxRecDepth 100000 in
set_option maxHeartbeats 1000000 in
theorem listTT (v : Value) (l : List Ty) (w : World) (hv : SlT w v l) (hl : l.length ≤ 1000) (hls : ∀ t ∈ l, t.params.length ≤ 1000) :
    Calls Tryz.prog 92 #[v, .func (.func 93) #[] #[]] w fun e w' => ∃ u ps, e = .returned u ∧ w'.ownsRow w.heap.size 64 3 u l.length (tyRow ps l) ∧ Cps w' w.heap.size ps l ∧ Below w.heap.size w w' := by
  obtain ⟨A, cap, rfl, hA⟩ := hv
  obtain ⟨i0, hi, hz0, hz1, hz2⟩ := info_parts ty_info
  go_enter Tryz.func92, Tryz.ntmps92
  go_wp2
  go_loopw [5, 7, 10] (fun u _ c wr => ∃ (k : Nat) (ps : List Value), k ≤ l.length ∧ c = .int .i64 (k : Int) ∧ wr.ownsRow w.heap.size 64 3 u k (tyRow ps (l.take k)) ∧ Cps wr w.heap.size ps (l.take k) ∧ Below w.heap.size w wr) (fun _ _ c _ => l.length - (intOf c).toNat)
  case atStart => exact ⟨0, [], Nat.zero_le _, rfl, World.ownsRow_nil _ _ _ _, ⟨rfl, fun i p t h _ => by simp at h⟩, Below.refl _ _⟩
  case round =>
    obtain ⟨k, ps, hk, rfl, hown, hcp, hb⟩ := hrel
    obtain ⟨Ao, co, rfl⟩ := own_slice hown
    by_cases hlt : k < l.length
    · obtain ⟨b1, o1, rfl, hb1, hc1⟩ := hA (by omega)
      obtain ⟨pv, p0, p1, p2, p3⟩ := hc1 k _ (List.getElem?_eq_getElem hlt)
      have p1' := (hb.cell (p := ⟨b1, o1 + k * 3, none⟩) hb1).trans p1
      have p2' := (hb.cell (p := ⟨b1, o1 + k * 3 + 1, none⟩) hb1).trans p2
      have p3' := (hb.cell (p := ⟨b1, o1 + k * 3 + 2, none⟩) hb1).trans p3
      have p0' := p0.below hb
      have htk := List.take_succ_eq_append_getElem hlt
      have hxl := hls _ (List.getElem_mem hlt)
      clear p0 p1 p2 p3 hc1 hA
      generalize l[k] = x at p0' p1' p2' p3' htk hxl
      have HT := Lib.hid htk
      have hbs : Below wr.heap.size wr (wr.alloc (.cells #[pv, .bool x.result.cell, .int .i64 x.result.n] 64)) := (Below.refl _ _).alloc (Nat.le_refl _) _
      have hbz := hb.trans (hbs.mono hb.size)
      have hcall := add1_any x pv _ (p0'.below hbs) hxl
      unfold tyV at hcall
      have Hc := Lib.hid hcall
      have Hown := Lib.hid (own_below hown hbs)
      have Hcp := Lib.hid (hcp.map fun p n xs hp => own_below hp hbs)
      have hb1r : b1 < wr.heap.size := Nat.lt_of_lt_of_le hb1 hb.size
      clear hcall hown htk hcp
      obtain ⟨A2, c2, rfl, -⟩ := p0'
      go_wp2_with (first
        | (go_at_call 93; refine Hc.out.mono ?_; rintro e w1 ⟨u, rfl, hq, hb3⟩; obtain ⟨A3, c3, rfl⟩ := own_slice hq; have hown1 := own_below Hown.out hb3; have hb4 := hbz.trans (hb3.mono hbz.size); have hz4 := hb4.size)
        | (at_builtin; refine wpList_append_own _ rfl _ _ 22 rfl w.heap.size 64 i0 _ 3 40 Tryz.underlying22 hi hz0 hz1 hz2 rfl (by decide) _ _ _ rfl (hown1.alloc _) ⟨w1.heap.size, 0, none⟩ 1 1 [.slice A3 x.params.length c3, .bool x.result.cell, .int .i64 x.result.n] rfl rfl (lit_new2 _ _ _ rfl _) (fun u hu => by simp at hu; rcases hu with rfl | rfl | rfl <;> rfl) (by unfold maxLen; omega) (by omega) (by simp; omega) ?_; intro v' w2 hown' hgrow _))
      go_roundw
      case rel =>
        have hX : Below w1.heap.size w1 (w1.alloc (.cells #[.slice A3 x.params.length c3, .bool x.result.cell, .int .i64 x.result.n] 64)) := (Below.refl _ _).alloc (Nat.le_refl _) _
        have hkeep : ∀ (p : Value) (n : Nat) (xs : List Value), (w1.alloc (.cells #[.slice A3 x.params.length c3, .bool x.result.cell, .int .i64 x.result.n] 64)).ownsRow w.heap.size 24 2 p n xs → w2.ownsRow w.heap.size 24 2 p n xs := fun p n xs hp => hp.kept hgrow (own_apart hp (hown1.alloc _) (by decide))
        refine ⟨k + 1, ps ++ [.slice A3 x.params.length c3], by omega, by go_num, by rw [HT.out, tyRow_push _ _ _ _ Hcp.out.len]; exact hown', ?_, ?_⟩
        · rw [HT.out]
          refine Cps.push (Hcp.out.map fun p n xs hp => hkeep p n xs (own_below (own_below hp hb3) hX)) (hkeep _ _ _ (own_below (World.ownsRow.mono hq hbz.size) hX))
        · exact (hb4.alloc hb4.size _).grown hgrow (by simp; omega) (fun j e => (World.ownsRow.lt hown1 j e).1)
      case measure => simp [intOf]; omega
    · have hkN : k = l.length := by omega
      subst hkN
      rw [List.take_length] at hown hcp
      go_wp2
      go_ret
      exact ⟨_, ps, rfl, hown, hcp, hb⟩

end Go.Proofs.YtoncdnelacolaaaGreatDoor.Ar

namespace Go.Proofs.YtoncdnelacolaaaGreatDoor.Ar
open Go Go.Proofs Go.RowKit Lx Ps

theorem tyRow_append : ∀ (ps : List Value) (l : List Ty) (qs : List Value) (m : List Ty), ps.length = l.length → tyRow (ps ++ qs) (l ++ m) = tyRow ps l ++ tyRow qs m
  | [], [], _, _, _ => rfl
  | p :: ps, t :: l, qs, m, h => by
    have := tyRow_append ps l qs m (by simpa using h)
    simp [tyRow, this]
theorem tyRow_one : ∀ (ps : List Value) (l : List Ty), (∀ p ∈ ps, p.oneCell' = true) → ∀ u ∈ tyRow ps l, u.oneCell' = true
  | [], _, _, u, hu => by simp [tyRow] at hu
  | _ :: _, [], _, u, hu => by simp [tyRow] at hu
  | p :: ps, t :: l, h, u, hu => by
    simp only [tyRow, List.mem_cons] at hu
    rcases hu with rfl | rfl | rfl | hu
    · exact h _ List.mem_cons_self
    · rfl
    · rfl
    · exact tyRow_one ps l (fun q hq => h q (List.mem_cons_of_mem _ hq)) u hu
theorem tyRow_at : ∀ (ps : List Value) (l : List Ty) (j : Nat) (u : Value), ps.length = l.length → (tyRow ps l)[j]? = some u → ∃ (i k : Nat) (p : Value) (t : Ty), j = i * 3 + k ∧ k < 3 ∧ ps[i]? = some p ∧ l[i]? = some t ∧ [p, .bool t.result.cell, .int .i64 t.result.n][k]? = some u
  | [], [], j, u, _, h => by simp [tyRow] at h
  | p :: ps, t :: l, j, u, hl, h => by
    match j with
    | 0 => exact ⟨0, 0, p, t, rfl, by omega, rfl, rfl, by simpa [tyRow] using h⟩
    | 1 => exact ⟨0, 1, p, t, rfl, by omega, rfl, rfl, by simpa [tyRow] using h⟩
    | 2 => exact ⟨0, 2, p, t, rfl, by omega, rfl, rfl, by simpa [tyRow] using h⟩
    | j + 3 =>
      obtain ⟨i, k, q, s, h1, h2, h3, h4, h5⟩ := tyRow_at ps l j u (by simpa using hl) (by simpa [tyRow] using h)
      exact ⟨i + 1, k, q, s, by omega, h2, by simpa using h3, by simpa using h4, h5⟩

/-- What a slice of types holds, as a row. -/
structure TyIn (W : World) (v : Value) (ps : List Value) (l : List Ty) : Prop where
  len : ps.length = l.length
  sl : ∀ (i : Nat) (p : Value) (t : Ty), ps[i]? = some p → l[i]? = some t → SlB W p t.params
  form : ∃ A c, v = .slice A l.length c ∧ (0 < l.length → ∃ b off, A = some ⟨b, off, none⟩ ∧ b < W.heap.size ∧ ∀ j u, (tyRow ps l)[j]? = some u → W.cell? ((⟨b, off, none⟩ : Addr).add j) = some u)
theorem add_lit_none (b o j : Nat) : (⟨b, o, none⟩ : Addr).add j = ⟨b, o + j, none⟩ := by
  unfold Addr.add
  by_cases h : j = 0 <;> simp [h]
theorem pick_list {α : Type} (Q : Nat → α → Prop) : ∀ n : Nat, (∀ i, i < n → ∃ x, Q i x) → ∃ l : List α, l.length = n ∧ ∀ i x, l[i]? = some x → Q i x := by
  intro n
  induction n with
  | zero => intro _; exact ⟨[], rfl, fun i x h => by simp at h⟩
  | succ n ih =>
    intro h
    obtain ⟨l, hl, hq⟩ := ih (fun i hi => h i (by omega))
    obtain ⟨x, hx⟩ := h n (by omega)
    refine ⟨l ++ [x], by simp [hl], fun i y hy => ?_⟩
    by_cases hi : i < l.length
    · rw [List.getElem?_append_left hi] at hy; exact hq i y hy
    · have hlt := (List.getElem?_eq_some_iff.1 hy).1
      rw [List.length_append, List.length_singleton] at hlt
      have : i = n := by omega
      subst this
      rw [List.getElem?_append_right (by omega), hl, Nat.sub_self] at hy
      simp at hy
      subst hy; exact hx
theorem SlT.tyIn {W : World} {v : Value} {l : List Ty} (h : SlT W v l) : ∃ ps, TyIn W v ps l := by
  obtain ⟨A, c, rfl, hA⟩ := h
  by_cases h0 : 0 < l.length
  · obtain ⟨b, off, rfl, hlt, hc⟩ := hA h0
    obtain ⟨ps, hl, hq⟩ := pick_list (fun i p => ∀ t, l[i]? = some t → SlB W p t.params ∧ W.cell? ⟨b, off + i * 3, none⟩ = some p ∧ W.cell? ⟨b, off + i * 3 + 1, none⟩ = some (.bool t.result.cell) ∧ W.cell? ⟨b, off + i * 3 + 2, none⟩ = some (.int .i64 t.result.n)) l.length (fun i hi => by
      obtain ⟨pv, p0, p1, p2, p3⟩ := hc i _ (List.getElem?_eq_getElem hi)
      refine ⟨pv, fun t ht => ?_⟩
      rw [List.getElem?_eq_getElem hi] at ht
      simp at ht
      subst ht
      exact ⟨p0, p1, p2, p3⟩)
    refine ⟨ps, hl, fun i p t hp ht => (hq i p hp t ht).1, _, c, rfl, fun _ => ⟨b, off, rfl, hlt, fun j u hu => ?_⟩⟩
    obtain ⟨i, k, p, t, rfl, hk, hp, ht, hu'⟩ := tyRow_at ps l j u hl hu
    obtain ⟨_, q0, q1, q2⟩ := hq i p hp t ht
    rw [add_lit_none]
    rcases (show k = 0 ∨ k = 1 ∨ k = 2 by omega) with rfl | rfl | rfl
    · simp at hu'; subst hu'; exact q0
    · simp at hu'; subst hu'; rw [← Nat.add_assoc]; exact q1
    · simp at hu'; subst hu'; rw [← Nat.add_assoc]; exact q2
  · have hnil : l = [] := List.eq_nil_of_length_eq_zero (by omega)
    subst hnil
    exact ⟨[], rfl, fun i p t hp _ => by simp at hp, A, c, rfl, fun h => absurd h (by simp)⟩
theorem TyIn.below {W W' : World} {v : Value} {ps : List Value} {l : List Ty} (h : TyIn W v ps l) (hb : Below W.heap.size W W') : TyIn W' v ps l := by
  obtain ⟨h1, h2, A, c, rfl, h3⟩ := h
  refine ⟨h1, fun i p t hp ht => (h2 i p t hp ht).below hb, A, c, rfl, fun h0 => ?_⟩
  obtain ⟨b, off, rfl, hlt, hc⟩ := h3 h0
  refine ⟨b, off, rfl, Nat.lt_of_lt_of_le hlt hb.size, fun j u hu => ?_⟩
  have := hc j u hu
  rw [add_lit_none] at this ⊢
  exact (hb.cell (p := ⟨b, off + j, none⟩) hlt).trans this
theorem SlB.one {W : World} {v : Value} {l : List Bs} (h : SlB W v l) : v.oneCell' = true := by
  obtain ⟨A, c, rfl, _⟩ := h
  rfl
theorem SlT.of_rows2 {W : World} {base : Nat} {v : Value} {ps : List Value} {l : List Ty} (h : W.ownsRow base 64 3 v l.length (tyRow ps l)) (hl : ps.length = l.length) (hs : ∀ (i : Nat) (p : Value) (t : Ty), ps[i]? = some p → l[i]? = some t → SlB W p t.params) : SlT W v l := by
  have hown := h
  rcases h.2 with ⟨rfl, h0⟩ | ⟨g, cap, cur, rfl, _, hgb, _⟩
  · exact ⟨none, 0, by rw [h0], fun h1 => absurd h1 (by omega)⟩
  refine ⟨_, cap, rfl, fun h0 => ⟨g, 0, rfl, (Array.getElem?_eq_some_iff.1 hgb).1, fun i x hx => ?_⟩⟩
  have hcells := fun j hj => World.ownsRow.cellAt hown j hj
  have hil : i < l.length := (List.getElem?_eq_some_iff.1 hx).1
  have hpi := List.getElem?_eq_getElem (show i < ps.length by rw [hl]; exact hil)
  obtain ⟨p0, p1, p2⟩ := tyRow_get ps l i _ x hpi hx
  refine ⟨_, hs i _ x hpi hx, ?_, ?_, ?_⟩
  · have := hcells (i * 3) (by omega); rw [p0] at this; simpa using this
  · have := hcells (i * 3 + 1) (by omega); rw [p1] at this; simpa using this
  · have := hcells (i * 3 + 2) (by omega); rw [p2] at this; simpa using this

section
variable {P : Program} {w : World}
theorem run_append_zero_own (t ty e : TypeId) (i : TypeInfo) (ht : P.underlying t = some (.slice e)) (hi : P.info? e = some i) (base size n c : Nat) (v : Value) (xs : List Value) (A : Option Addr) (hown : w.ownsRow base e size v n xs) :
    (Builtin.append_ #[t, t] ty #[v, .slice A 0 c]).run P w = .ok v w := by
  rcases hown.2 with ⟨rfl, rfl⟩ | ⟨g, cap, cur, rfl, _, _, hnc, _⟩
  · cases A with
    | none => simp [Builtin.append_, run_underlying ht, sizeOf, typeInfo, hi, Builtin.lenOf, Builtin.firstCells]
    | some a =>
      have hf := run_firstCells_some (P := P) w i.size 0 a 0 c [] (by simp) (fun j u h => by simp at h)
      simp [Builtin.append_, run_underlying ht, sizeOf, typeInfo, hi, Builtin.lenOf, hf]
  · exact run_append_zero t ty e i ht hi g n cap c A hnc
end
theorem grownBy_refl (w : World) (row : Option Nat) : w.grownBy w row := ⟨rfl, rfl, rfl, Nat.le_refl _, fun _ _ _ => rfl⟩
/-- Types that lie anywhere, behind a row of one's own. -/
theorem append_tys {w : World} {base n : Nat} {v x : Value} {xs ps : List Value} {l : List Ty} (hown : w.ownsRow base 64 3 v n xs) (hx : TyIn w x ps l) (hn : n + l.length ≤ 1000) (hb : base ≤ w.heap.size) :
    ∃ v' w', (Builtin.append_ #[22, 22] 22 #[v, x]).run Tryz.prog w = .ok v' w' ∧ w'.ownsRow base 64 3 v' (n + l.length) (xs ++ tyRow ps l) ∧ w.grownBy w' v.ownBlock := by
  obtain ⟨i0, hi, hz0, hz1, hz2⟩ := info_parts ty_info2
  obtain ⟨h1, h2, A, c, rfl, h3⟩ := hx
  by_cases h0 : 0 < l.length
  · obtain ⟨b, off, rfl, hlt, hc⟩ := h3 h0
    obtain ⟨v', w', hr, ho, hg, _⟩ := run_append_own (P := Tryz.prog) w base 22 22 64 i0 _ 3 40 Tryz.underlying22 hi hz0 hz1 hz2 rfl (by omega) v n xs hown ⟨b, off, none⟩ l.length c (tyRow ps l) (tyRow_len ps l h1) hc
      (tyRow_one ps l (fun p hp => by
        obtain ⟨i, hi', rfl⟩ := List.mem_iff_getElem.1 hp
        exact (h2 i _ _ (List.getElem?_eq_getElem hi') (List.getElem?_eq_getElem (by rw [← h1]; exact hi'))).one)) (by unfold maxLen; omega) (by omega) hb
    exact ⟨v', w', hr, ho, hg⟩
  · have hnil : l = [] := List.eq_nil_of_length_eq_zero (by omega)
    subst hnil
    have hps : ps = [] := List.eq_nil_of_length_eq_zero h1
    subst hps
    exact ⟨v, w, run_append_zero_own _ _ _ i0 Tryz.underlying22 hi base 3 n c v xs A hown, by simpa [tyRow] using hown, grownBy_refl _ _⟩

set_option maxRecDepth 100000 in
set_option maxHeartbeats 1000000 in
theorem concat_any (bk : Nat) (v0 v1 : Value) (l0 l1 : List Ty) (ps0 ps1 : List Value) (w : World) (h0 : TyIn w v0 ps0 l0) (h1 : TyIn w v1 ps1 l1) (hc0 : w.cell? ⟨bk, 0, none⟩ = some v0) (hc1 : w.cell? ⟨bk, 1, none⟩ = some v1) (hl0 : l0.length ≤ 100) (hl1 : l1.length ≤ 100) :
    Calls Tryz.prog 91 #[.slice (some ⟨bk, 0, none⟩) 2 2] w fun e w' => ∃ v, e = .returned v ∧ w'.ownsRow w.heap.size 64 3 v (l0.length + l1.length) (tyRow ps0 l0 ++ tyRow ps1 l1) ∧ Below w.heap.size w w' := by
  have HG := Lib.hid (fun n hn => growT_any n w hn)
  have H0 := Lib.hid h0
  have H1 := Lib.hid h1
  obtain ⟨A0, c0, rfl, -⟩ := h0.form
  obtain ⟨A1, c1, rfl, -⟩ := h1.form
  clear h0 h1
  have hbk : bk < w.heap.size := block_lt_of_cell hc0
  go_enter Tryz.func91, Tryz.ntmps91
  go_wp2
  go_loopw [3, 5, 11] (fun s _ c wr => wr = w ∧ ((c = .int .i64 0 ∧ s = .int .i64 0) ∨ (c = .int .i64 1 ∧ s = .int .i64 (l0.length : Int)) ∨ (c = .int .i64 2 ∧ s = .int .i64 ((l0.length + l1.length : Nat) : Int)))) (fun _ _ c _ => 2 - (intOf c).toNat)
  case atStart => exact ⟨rfl, .inl ⟨rfl, rfl⟩⟩
  case round =>
    obtain ⟨hww, hrel2⟩ := hrel
    subst wr
    rcases hrel2 with ⟨rfl, rfl⟩ | ⟨rfl, rfl⟩ | ⟨rfl, rfl⟩
    · have e1 : ¬ ((l0.length : Int) < 0) := by omega
      have e2 : IntKind.i64.wrap (l0.length : Int) = (l0.length : Int) := IntWalk.i64_in _ (by omega)
      go_wp2
      go_roundw
      case rel => exact ⟨trivial, .inr (.inl ⟨by go_num, by go_num⟩)⟩
      case measure => simp [intOf]
    · have e2 : IntKind.i64.wrap ((l0.length : Int) + (l1.length : Int)) = ((l0.length + l1.length : Nat) : Int) := by rw [IntWalk.i64_in _ (by omega)]; omega
      have e1 : ¬ (((l0.length + l1.length : Nat) : Int) < 0) := by omega
      go_wp2
      go_roundw
      case rel => exact ⟨trivial, .inr (.inr ⟨by go_num, by go_num⟩)⟩
      case measure => simp [intOf]
    · have hcx0 := hc0
      go_wp2_with (go_at_call 125; refine (HG.out (l0.length + l1.length) (by omega)).mono ?_; rintro e w1 ⟨u0, rfl, hown0, hb1⟩; have hq := hown0; obtain ⟨Au, cu, rfl⟩ := own_slice hown0)
      have h0' := H0.out.below hb1
      have h1' := H1.out.below hb1
      have hx0 := (hb1.cell (p := ⟨bk, 0, none⟩) hbk).trans hc0
      have hx1 := (hb1.cell (p := ⟨bk, 1, none⟩) hbk).trans hc1
      have HC1 := Lib.hid hc1
      have HZ := Lib.hid hb1.size
      have HB1 := Lib.hid hb1
      have HQ := Lib.hid hq
      clear hc0 hc1 hcx0 hb1 hown0 hq
      go_loopw [6, 8, 27] (fun u _ c wz => (c = .int .i64 0 ∧ u = .slice Au 0 cu ∧ wz = w1) ∨
        (c = .int .i64 1 ∧ wz.ownsRow w.heap.size 64 3 u l0.length (tyRow ps0 l0) ∧ w1.grownBy wz (Value.slice Au 0 cu).ownBlock) ∨
        (c = .int .i64 2 ∧ wz.ownsRow w.heap.size 64 3 u (l0.length + l1.length) (tyRow ps0 l0 ++ tyRow ps1 l1) ∧ Below w.heap.size w wz)) (fun _ _ c _ => 2 - (intOf c).toNat)
      case atStart => exact .inl ⟨rfl, rfl, rfl⟩
      case round =>
        rcases hrel with ⟨rfl, rfl, rfl⟩ | ⟨rfl, ho, hg⟩ | ⟨rfl, ho, hb⟩
        · obtain ⟨v2, w2, hr, ho2, hg2⟩ := append_tys HQ.out h0' (by omega) HZ.out
          go_wp2_with (at_builtin; refine wpList_append_known rfl _ _ 22 22 rfl _ _ hr ?_)
          go_roundw
          case rel =>
            rw [Nat.zero_add, List.nil_append] at ho2
            exact .inr (.inl ⟨by go_num, ho2, hg2⟩)
          case measure => simp [intOf]
        · have hbz : Below w.heap.size w wr := HB1.out.grown hg HZ.out (fun j e => (own_block HQ.out e).1)
          have hk1 := H1.out.below hbz
          have hy1 := (hbz.cell (p := ⟨bk, 1, none⟩) hbk).trans HC1.out
          obtain ⟨v2, w2, hr, ho2, hg2⟩ := append_tys ho hk1 (by omega) hbz.size
          obtain ⟨Av, cv, rfl⟩ := own_slice ho
          clear hx0 hx1
          go_wp2_with (at_builtin; refine wpList_append_known rfl _ _ 22 22 rfl _ _ hr ?_)
          go_roundw
          case rel => exact .inr (.inr ⟨by go_num, ho2, hbz.grown hg2 hbz.size (fun j e => (own_block ho e).1)⟩)
          case measure => simp [intOf]
        · obtain ⟨Av, cv, rfl⟩ := own_slice ho
          go_wp2
          go_ret
          exact ⟨_, rfl, ho, hb⟩

end Go.Proofs.YtoncdnelacolaaaGreatDoor.Ar

namespace Go.Proofs.YtoncdnelacolaaaGreatDoor.Ar
open Go Go.Proofs Go.RowKit Go.Sort Lx Ps

theorem four_set {W : World} {b : Nat} {x0 x1 x2 x3 y0 y1 y2 y3 : Value} {t : TypeId} (h : W.heap[b]? = some (.cells #[x0, x1, x2, x3] t (0, 0))) :
    ((((W.setCell ⟨b, 0, none⟩ y0).setCell ⟨b, 1, none⟩ y1).setCell ⟨b, 2, none⟩ y2).setCell ⟨b, 3, none⟩ y3).heap[b]? = some (.cells #[y0, y1, y2, y3] t (0, 0)) :=
  set_one (set_one (set_one (set_one h)))

set_option maxRecDepth 100000 in
set_option maxHeartbeats 2000000 in
theorem apAdd_any (ids ts : Value) (a : Ar) (l : List Ty) (w : World) (hin : ArIn w ids a) (hts : SlT w ts l) (hl : a.ids.length ≤ 100) (hls : ∀ t ∈ a.ids, t.params.length ≤ 1000) (hl2 : l.length ≤ 100) (hls2 : ∀ t ∈ l, t.params.length ≤ 1000) :
    Calls Tryz.prog 39 #[arV ids a, ts] w fun e w' => ∃ v, e = .returned (.tuple #[arV v (addR a l).1, .int .i64 ((addR a l).2 : Int)]) ∧ ArIn w' v (addR a l).1 ∧ Below w.heap.size w w' := by
  have hC : ∀ W, Below w.heap.size w W → Calls Tryz.prog 19 #[arV ids a] W fun r w' => r = .returned (.int .i64 (checkE a : Int)) ∧ Below W.heap.size W w' := fun W hb => check_any ids a W (hin.below hb)
  obtain ⟨ps0, hT0⟩ := hin.sl.tyIn
  obtain ⟨ps1, hT1⟩ := hts.tyIn
  obtain ⟨A, cap, rfl, -⟩ := hin.sl
  obtain ⟨A1, cap1, rfl, -⟩ := hts
  clear hin
  obtain ⟨k0, k1⟩ := blocks2 w (.cells #[.slice A a.ids.length cap, .bool a.root.cell, .int .i64 a.root.n, .bool a.jumps] 26) (.cells #[.slice none 0 0, .bool false, .int .i64 0, .bool false] 26)
  have hb0 : Below w.heap.size w ((w.alloc (.cells #[.slice A a.ids.length cap, .bool a.root.cell, .int .i64 a.root.n, .bool a.jumps] 26)).alloc (.cells #[.slice none 0 0, .bool false, .int .i64 0, .bool false] 26)) := below_two
  unfold arV at *
  go_enter Tryz.func39, Tryz.ntmps39
  go_upto_region 1 with (fail)
  generalize (w.alloc (.cells #[.slice A a.ids.length cap, .bool a.root.cell, .int .i64 a.root.n, .bool a.jumps] 26)).alloc (.cells #[.slice none 0 0, .bool false, .int .i64 0, .bool false] 26) = V at k0 k1 hb0 ⊢
  obtain ⟨⟨c0, c1, c2, c3⟩, -, hl0⟩ := four_c k0
  have HK0 := Lib.hid k0
  have HK1 := Lib.hid k1
  have hl1 := (Array.getElem?_eq_some_iff.1 k1).1
  clear k0 k1
  by_cases he : checkE a = 0
  · rw [he] at hC
    have HC := Lib.hid hC
    clear hC
    go_upto_region 4 with (go_at_call 19; refine (HC.out _ hb0).mono ?_; rintro r w1 ⟨rfl, hb1⟩)
    have hb2 := hb0.trans (hb1.mono hb0.size)
    have M0 := heap_below hb1 hl0 HK0.out
    have M1 := heap_below hb1 hl1 HK1.out
    obtain ⟨⟨r0, r1, r2, r3⟩, -, x1⟩ := four_c M0
    have x2 := (Array.getElem?_eq_some_iff.1 M1).1
    have hP0 := hT0.below hb2
    have hP1 := hT1.below hb2
    have HP0 := Lib.hid hP0
    have HP1 := Lib.hid hP1
    have HM1 := Lib.hid M1
    have HW1 : ∀ (bk : Nat) (W : World), Below w1.heap.size w1 W → W.cell? ⟨bk, 0, none⟩ = some (.slice A a.ids.length cap) → W.cell? ⟨bk, 1, none⟩ = some (.slice A1 l.length cap1) →
        Calls Tryz.prog 91 #[.slice (some ⟨bk, 0, none⟩) 2 2] W fun e w' => ∃ v, e = .returned v ∧ w'.ownsRow W.heap.size 64 3 v (a.ids.length + l.length) (tyRow ps0 a.ids ++ tyRow ps1 l) ∧ Below W.heap.size W w' ∧ Below w1.heap.size w1 w' :=
      fun bk W hb q0 q1 => (concat_any bk _ _ a.ids l ps0 ps1 W (HP0.out.below hb) (HP1.out.below hb) q0 q1 hl hl2).mono fun e w' ⟨v, h1, h2, h3⟩ => ⟨v, h1, h2, h3, hb.trans (h3.mono hb.size)⟩
    have HCC := Lib.hid HW1
    clear hb1 c0 c1 c2 c3 HC HK0 HK1 hb0 hl0 hl1 hP0 hP1 HW1 M0 M1 hT0 hT1
    go_cut [7] (fun u wx => ∃ G v, u = .pointer (some ⟨G, 0, none⟩) ∧ w1.heap.size ≤ G ∧ wx.heap[G]? = some (.cells #[v, .bool a.root.cell, .int .i64 a.root.n, .bool a.jumps] 26 (0, 0)) ∧ wx.ownsRow w1.heap.size 64 3 v (a.ids.length + l.length) (tyRow ps0 a.ids ++ tyRow ps1 l) ∧ Below w1.heap.size w1 wx)
    case first =>
      have hn0 : ¬ w1.heap.size = w.heap.size := by omega
      have hn1 : ¬ w1.heap.size + 1 = w.heap.size := by omega
      go_region_held3 (fun w' => w'.cell? ⟨w.heap.size, 0, none⟩ = some (.slice A a.ids.length cap) ∧ w'.cell? ⟨w.heap.size, 1, none⟩ = some (.bool a.root.cell) ∧ w'.cell? ⟨w.heap.size, 2, none⟩ = some (.int .i64 a.root.n) ∧ w'.cell? ⟨w.heap.size, 3, none⟩ = some (.bool a.jumps))
        (first
          | (go_split_ands; all_goals assumption)
          | go_keep)
        ((go_at_call 91
          refine (HCC.out _ _ (by first | exact ((Below.refl _ _).alloc (Nat.le_refl _) _).drew | exact below_two.drew | exact (Below.refl _ _).alloc (Nat.le_refl _) _ | exact below_two) (by first | exact cell_of_row _ _ 0 _ _ _ (blocks1 w1 (.cells #[.slice A a.ids.length cap, .slice A1 l.length cap1] 22)) | exact cell_of_row _ _ 0 _ _ _ (blocks2 w1 (.cells #[.slice none 0 0, .bool false, .int .i64 0, .bool false] 26) (.cells #[.slice A a.ids.length cap, .slice A1 l.length cap1] 22)).2 | exact cell_of_row _ _ 0 _ _ _ (blocks2 w1 (.cells #[.slice A a.ids.length cap, .slice A1 l.length cap1] 22) (.cells #[.slice none 0 0, .bool false, .int .i64 0, .bool false] 26)).1) (by first | exact cell_of_row _ _ 1 _ _ _ (blocks1 w1 (.cells #[.slice A a.ids.length cap, .slice A1 l.length cap1] 22)) | exact cell_of_row _ _ 1 _ _ _ (blocks2 w1 (.cells #[.slice none 0 0, .bool false, .int .i64 0, .bool false] 26) (.cells #[.slice A a.ids.length cap, .slice A1 l.length cap1] 22)).2 | exact cell_of_row _ _ 1 _ _ _ (blocks2 w1 (.cells #[.slice A a.ids.length cap, .slice A1 l.length cap1] 22) (.cells #[.slice none 0 0, .bool false, .int .i64 0, .bool false] 26)).1)).mono ?_
          rintro e w3 ⟨v3, rfl, hown3, hb3, hb4⟩
          obtain ⟨Av, cv, rfl⟩ := own_slice hown3
          have y0 := (hb4.cell (p := ⟨w.heap.size, 0, none⟩) x1).trans r0
          have y1 := (hb4.cell (p := ⟨w.heap.size, 1, none⟩) x1).trans r1
          have y2 := (hb4.cell (p := ⟨w.heap.size, 2, none⟩) x1).trans r2
          have y3 := (hb4.cell (p := ⟨w.heap.size, 3, none⟩) x1).trans r3
          first
            | (have zrA := heap_below hb3 (by first | (simp; done) | (simp; omega)) (blocks2 w1 (.cells #[.slice none 0 0, .bool false, .int .i64 0, .bool false] 26) (.cells #[.slice A a.ids.length cap, .slice A1 l.length cap1] 22)).1
               obtain ⟨⟨z0, z1, z2, z3⟩, ⟨f0, f1, f2, f3⟩, -⟩ := four_c zrA)
            | (have zrB := heap_below hb3 (by first | (simp; done) | (simp; omega)) (blocks2 w1 (.cells #[.slice A a.ids.length cap, .slice A1 l.length cap1] 22) (.cells #[.slice none 0 0, .bool false, .int .i64 0, .bool false] 26)).2
               obtain ⟨⟨z0, z1, z2, z3⟩, ⟨f0, f1, f2, f3⟩, -⟩ := four_c zrB)
            | skip))
      all_goals
        go_wp2
        go_meet
        first
          | (have hq := four_set (y0 := .slice Av (a.ids.length + l.length) cv) (y1 := .bool a.root.cell) (y2 := .int .i64 a.root.n) (y3 := .bool a.jumps) zrA
             exact ⟨w1.heap.size, _, rfl, Nat.le_refl _, hq, World.ownsRow.mono (own4s hown3 (by first | (simp; done) | (simp; omega))) (by first | (simp; done) | (simp; omega)), below4s hb4 (Nat.le_refl _)⟩)
          | (have hq := four_set (y0 := .slice Av (a.ids.length + l.length) cv) (y1 := .bool a.root.cell) (y2 := .int .i64 a.root.n) (y3 := .bool a.jumps) zrB
             exact ⟨w1.heap.size + 1, _, rfl, Nat.le_succ _, hq, World.ownsRow.mono (own4s hown3 (by first | (simp; done) | (simp; omega))) (by first | (simp; done) | (simp; omega)), below4s hb4 (Nat.le_succ _)⟩)
          | exact ⟨w3.heap.size, _, rfl, hb4.size, heap_alloc_new w3 _, (own_below (World.ownsRow.mono hown3 (by first | (simp; done) | (simp; omega))) ((Below.refl _ _).alloc (Nat.le_refl _) _)), hb4.alloc hb4.size _⟩
    case rest =>
      obtain ⟨G, v3, rfl, hG, hrow, hown, hbx⟩ := hcut
      obtain ⟨Av, cv, rfl⟩ := own_slice hown
      have hb5 : Below w.heap.size w wc := hb2.trans (hbx.mono hb2.size)
      have N1 := heap_below hbx x2 HM1.out
      have hlen2 : (ps0 ++ ps1).length = (a.ids ++ l).length := by rw [List.length_append, List.length_append, HP0.out.len, HP1.out.len]
      have hsl : SlT wc (.slice Av (a.ids ++ l).length cv) (a.ids ++ l) := by
        refine SlT.of_rows2 (ps := ps0 ++ ps1) (base := w1.heap.size) ?_ hlen2 ?_
        · rw [tyRow_append _ _ _ _ HP0.out.len, List.length_append]
          exact hown
        · intro i p t hp ht
          by_cases hi : i < ps0.length
          · rw [List.getElem?_append_left hi] at hp
            rw [List.getElem?_append_left (by rw [← HP0.out.len]; exact hi)] at ht
            exact (HP0.out.sl i p t hp ht).below hbx
          · rw [List.getElem?_append_right (by omega)] at hp
            rw [List.getElem?_append_right (by rw [← HP0.out.len]; omega), ← HP0.out.len] at ht
            exact (HP1.out.sl _ p t hp ht).below hbx
      rw [List.length_append] at hsl
      have hlsA : ∀ x ∈ (addA a l).ids, x.params.length ≤ 1000 := fun x hx => by
        rcases List.mem_append.1 hx with h | h
        · exact hls _ h
        · exact hls2 _ h
      have hlA : (addA a l).ids.length = a.ids.length + l.length := List.length_append
      have hinA : ArIn wc (.slice Av (a.ids.length + l.length) cv) (addA a l) := ⟨hsl, by rw [hlA]; omega, fun x hx => by have := hlsA x hx; omega⟩
      have hcall : Calls Tryz.prog 19 #[.agg #[.slice Av (a.ids.length + l.length) cv, .bool a.root.cell, .int .i64 a.root.n, .bool a.jumps]] wc fun r w' => r = .returned (.int .i64 (checkE (addA a l) : Int)) ∧ Below wc.heap.size wc w' := check_any _ (addA a l) wc hinA
      obtain ⟨⟨u0, u1, u2, u3⟩, -, hlG⟩ := four_c hrow
      have HROW := Lib.hid hrow
      have HN1 := Lib.hid N1
      have hlN1 := (Array.getElem?_eq_some_iff.1 N1).1
      have HSL := Lib.hid hsl
      have HHG := Lib.hid hG
      have HHX := Lib.hid x2
      have HLA := Lib.hid hlA
      have HLS := Lib.hid hlsA
      have hn2 : a.ids.length + l.length ≤ 200 := by omega
      clear hrow N1 hinA hsl hown hbx HP0 HP1 HCC hG hlA hlsA
      generalize a.ids.length + l.length = N at *
      by_cases he2 : checkE (addA a l) = 0
      · rw [he2] at hcall
        have HR := Lib.hid (addR_ok he he2)
        have HC := Lib.hid hcall
        clear hcall he he2
        go_upto_region 8 with (go_at_call 19; refine HC.out.mono ?_; rintro r w5 ⟨rfl, hb6⟩)
        have hb7 := hb5.trans (hb6.mono hb5.size)
        obtain ⟨⟨q0, q1, q2, q3⟩, -, -⟩ := four_c (heap_below hb6 hlG HROW.out)
        have Z1 := heap_below hb6 hlG HROW.out
        have Z2 := heap_below hb6 hlN1 HN1.out
        have z1 := (Array.getElem?_eq_some_iff.1 Z1).1
        have z2 := (Array.getElem?_eq_some_iff.1 Z2).1
        have hLL := listTT _ (addA a l).ids w5 (by have := HSL.out.below hb6; exact this) (by rw [HLA.out]; omega) HLS.out
        rw [HLA.out] at hLL
        have HL := Lib.hid hLL
        clear hLL
        have hGn : ¬ G = w.heap.size + 1 := by have := HHG.out; have := HHX.out; omega
        have hGn2 : ¬ w.heap.size + 1 = G := fun e => hGn e.symm
        have HZ1 := Lib.hid Z1
        have HZ2 := Lib.hid Z2
        clear HC hb6 u0 u1 u2 u3 Z1 Z2
        go_upto_region 9 with (go_at_call 92; refine HL.out.mono ?_; rintro e w6 ⟨u, ps, rfl, hown6, hcp6, hb8⟩; obtain ⟨Au, cu, rfl⟩ := own_slice hown6; obtain ⟨⟨t0, t1, t2, t3⟩, ⟨g0, g1, g2, g3⟩, -⟩ := four_c (heap_below hb8 z1 HZ1.out); obtain ⟨⟨s0, s1, s2, s3⟩, ⟨m0, m1, m2, m3⟩, -⟩ := four_c (heap_below hb8 z2 HZ2.out))
        have hb9 := hb7.trans (hb8.mono hb7.size)
        have HO := Lib.hid hown6
        have HP := Lib.hid hcp6
        clear q0 q1 q2 q3 HL hown6 hcp6 hb8
        go_wp2
        refine bodyPost_ret (v := .tuple #[.agg #[.slice Au N cu, .bool a.root.cell, .int .i64 a.root.n, .bool a.jumps], .int .i64 0]) (by simp [results, Tryz.results39, go_sem, s0, s1, s2, s3]) rfl ⟨.slice Au N cu, by rw [HR.out]; rfl, ?_, ?_⟩
        · rw [HR.out]
          refine ⟨SlT.of_rows (ps := ps) (base := w5.heap.size) (b2 := w5.heap.size) ?_ (HP.out.map fun p n xs hp => own4s (ownsRow_setCell_below hp z1 _) z2), by show (addA a l).ids.length ≤ _; rw [HLA.out]; omega, fun x hx => by have := HLS.out x hx; omega⟩
          show World.ownsRow _ _ _ _ _ (addA a l).ids.length (tyRow ps (addA a l).ids)
          rw [HLA.out]
          exact own4s (ownsRow_setCell_below HO.out z1 _) z2
        · exact below4s (hb9.setCell (by show w.heap.size ≤ G; have := HHG.out; have := hb2.size; omega) _) (by omega)
      · have hne : ((checkE (addA a l) : Int) != 0) = true := by simp; omega
        have HR := Lib.hid (addR_no he he2)
        have HC := Lib.hid hcall
        clear hcall he he2
        generalize checkE (addA a l) = e2 at *
        go_upto_region 7 with (go_at_call 19; refine HC.out.mono ?_; rintro r w5 ⟨rfl, hb6⟩)
        have hb7 := hb5.trans (hb6.mono hb5.size)
        obtain ⟨⟨s0, s1, s2, s3⟩, ⟨m0, m1, m2, m3⟩, -⟩ := four_c (heap_below hb6 hlN1 HN1.out)
        clear u0 u1 u2 u3 HC
        go_wp2
        refine bodyPost_ret (v := .tuple #[.agg #[.slice none 0 0, .bool false, .int .i64 0, .bool false], .int .i64 (e2 : Int)]) (by simp [results, Tryz.results39, go_sem, s0, s1, s2, s3]) rfl ⟨.slice none 0 0, by rw [HR.out]; rfl, by rw [HR.out]; exact zeroA_in _, below4s hb7 (by omega)⟩
  · have HR := Lib.hid (addR_bad (l := l) he)
    generalize checkE a = e at *
    have hne : ((e : Int) != 0) = true := by simp; omega
    have HC := Lib.hid hC
    clear hC he hT0 hT1
    go_upto_region 2 with (go_at_call 19; refine (HC.out _ hb0).mono ?_; rintro r w1 ⟨rfl, hb1⟩)
    have hb2 := hb0.trans (hb1.mono hb0.size)
    obtain ⟨⟨q0, q1, q2, q3⟩, ⟨f0, f1, f2, f3⟩, x2⟩ := four_c (heap_below hb1 hl1 HK1.out)
    clear HC HK0 HK1 c0 c1 c2 c3 hb1
    go_wp2
    refine bodyPost_ret (v := .tuple #[.agg #[.slice none 0 0, .bool false, .int .i64 0, .bool false], .int .i64 (e : Int)]) (by simp [results, Tryz.results39, go_sem, q0, q1, q2, q3]) rfl ⟨.slice none 0 0, by rw [HR.out]; rfl, by rw [HR.out]; exact zeroA_in _, below4s hb2 (by omega)⟩

end Go.Proofs.YtoncdnelacolaaaGreatDoor.Ar
