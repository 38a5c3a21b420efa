/- The text of any right arena. -/
import Derived.Test.YtoncdnelacolaaaGreatDoorAShowB
import Derived.Test.YtoncdnelacolaaaGreatDoorASpecJ
import Derived.Test.YtoncdnelacolaaaGreatDoorAChain
import Derived.Laws.AppendOwnNone
namespace Go.Proofs.YtoncdnelacolaaaGreatDoor.Ar
open Go Go.Proofs Go.RowKit Lx Ps

theorem step_append_none {P : Program} {w : World} {ops : Array Oper} {o : Oper} {a : Act} {K : Act → World → Prop} {Q : Exit → Act → World → Prop} {E : Prop} (hgd : o.guard = none) (s x : Operand) (t : TypeId)
    (ho : o.op = .call { callee := .builtin .append, args := #[s, x], argTypes := #[t, t] })
    (base : Nat) (e : TypeId) (i : TypeInfo) (size : Nat) (ht : P.underlying t = some (.slice e)) (hi : P.info? e = some i)
    (v : Value) (n : Nat) (xs : List Value) (hs : a.eval s = v) (hown : w.ownsRow base e size v n xs) (hx : a.eval x = .slice none 0 0)
    (h : K (a.put o.dst v) w) : if Region.wanted o (yielded ops a.tmps) = true then Oper.wp P o a w K Q else E := by
  have hw : Region.wanted o (yielded ops a.tmps) = true := by simp [Region.wanted, hgd]
  rw [if_pos hw]
  have hrun := run_append_owned_none (P := P) (w := w) base t o.type e i size ht hi v n xs hown
  unfold Oper.wp
  simp [execOp, ho, resolve, invoke, builtin, hs, hx, hrun, Result.andThen]
  exact h
set_option maxRecDepth 100000 in
set_option maxHeartbeats 1000000 in
theorem listTS_nil (A : Option Addr) (cap : Nat) (w : World) :
    Calls Tryz.prog 112 #[.slice A 0 cap, .func (.func 113) #[] #[]] w fun e w' => e = .returned (.slice none 0 0) ∧ Below w.heap.size w w' := by
  go_enter Tryz.func112, Tryz.ntmps112
  go_wp2
  go_loopw [5, 7, 10] (fun u _ c wr => u = .slice none 0 0 ∧ c = .int .i64 (0 : Int) ∧ Below w.heap.size w wr) (fun _ _ _ _ => 0)
  case atStart => exact ⟨rfl, rfl, Below.refl _ _⟩
  case round =>
    obtain ⟨rfl, rfl, hb⟩ := hrel
    go_wp2
    go_ret
    exact ⟨rfl, hb⟩

theorem add_str (x y : List UInt8) (hx : x.length ≤ 1000000) (hy : y.length ≤ 1000000) (W : World) : (Op.stringOp .add (strB x) (strB y)).run Tryz.prog W = .ok (.string (strB (x ++ y))) W := by
  rw [run_string_add_sum W _ _ (by rw [strB_size, strB_size]; omega), strB_app]

set_option maxRecDepth 100000 in
set_option maxHeartbeats 1000000 in
theorem typeText_any (t : Ty) (pv : Value) (w : World) (hp : SlB w pv t.params) (ht : TyOk t) (hG : Ga w) :
    Calls Tryz.prog 113 #[tyV pv t] w fun e w' => e = .returned (.string (strB (typeT t))) ∧ Below w.heap.size w w' := by
  by_cases hn : t.params = []
  · exact typeText_flat t pv w hp hn ht.1.1 ht.1.2 hG
  have hL : ∀ V, Below w.heap.size w V → Calls Tryz.prog 138 #[pv, .func (.func 111) #[] #[]] V fun e w' => ∃ u, e = .returned u ∧ w'.ownsRow V.heap.size 9 1 u (t.params.map baseT).length ((t.params.map baseT).map fun x => .string (strB x)) ∧ Below V.heap.size V w' := fun V hb =>
    (listBS (fun b => strB (baseT b)) pv t.params V (hp.below hb) (by have := ht.2.2; omega) (fun x U hx hbU => baseText_any x U (ht.2.1 x hx).1 (ht.2.1 x hx).2 (hG.up hb hbU))).mono fun e w' ⟨u, h1, h2, h3⟩ => ⟨u, h1, by
      rw [List.length_map, List.map_map]
      have e2 : (List.map ((fun x => Value.string (strB x)) ∘ baseT) t.params) = t.params.flatMap (fun x => [Value.string (strB (baseT x))]) := by
        rw [← List.map_eq_flatMap]; rfl
      rw [e2]; exact h2, h3⟩
  have hJl : (Lib.join (t.params.map baseT) [44, 32]).length ≤ 30000 := by
    have := tyW_len ht t.params.length
    unfold tyW at this
    rw [List.take_length, List.length_append] at this
    omega
  have hJ := fun v W (h : W.ownsRow w.heap.size 9 1 v (t.params.map baseT).length ((t.params.map baseT).map fun x => .string (strB x))) => join_any w.heap.size v (t.params.map baseT) [44, 32] W h (by rw [List.length_map]; have := ht.2.2; omega) (by omega)
  have hB := fun V (hb : Below w.heap.size w V) => baseText_any t.result V ht.1.1 ht.1.2 (hG.next hb)
  have hbl := baseT_len ht.1
  have hts : typeT t = [40] ++ Lib.join (t.params.map baseT) [44, 32] ++ [41, 32, 45, 62, 32] ++ baseT t.result := by unfold typeT; rw [if_neg hn]
  have hz : ((t.params.length : Int) == 0) = false := by
    rw [beq_eq_false_iff_ne]
    intro e
    exact hn (List.length_eq_zero_iff.1 (by omega))
  have HL := Lib.hid hL
  clear hL
  obtain ⟨A, cap, rfl, -⟩ := hp
  have k0 := heap_alloc_new w (.cells #[.slice A t.params.length cap, .bool t.result.cell, .int .i64 t.result.n] 64)
  have hb0 : Below w.heap.size w (w.alloc (.cells #[.slice A t.params.length cap, .bool t.result.cell, .int .i64 t.result.n] 64)) := (Below.refl _ _).alloc (Nat.le_refl _) _
  unfold bsV at hB
  have HJ := Lib.hid hJ
  have HB := Lib.hid hB
  clear hJ hB hn ht hG
  generalize t.params.map baseT = xs at *
  generalize Lib.join xs [44, 32] = J at *
  generalize baseT t.result = y at *
  rw [hts]
  clear hts
  have a0 : ∀ W, (Op.stringOp .add ⟨#[40]⟩ (strB J)).run Tryz.prog W = .ok (.string (strB ([40] ++ J))) W := add_str [40] J (by simp) (by omega)
  have a1 : ∀ W, (Op.stringOp .add (strB ([40] ++ J)) ⟨#[41, 32, 45, 62, 32]⟩).run Tryz.prog W = .ok (.string (strB ([40] ++ J ++ [41, 32, 45, 62, 32]))) W := add_str ([40] ++ J) [41, 32, 45, 62, 32] (by simp; omega) (by simp)
  have a2 := add_str ([40] ++ J ++ [41, 32, 45, 62, 32]) y (by simp; omega) (by omega)
  generalize strB ([40] ++ J ++ [41, 32, 45, 62, 32] ++ y) = s3 at *
  generalize strB ([40] ++ J ++ [41, 32, 45, 62, 32]) = s2 at *
  generalize strB ([40] ++ J) = s1 at *
  generalize strB J = s0 at *
  generalize strB y = sy at *
  unfold tyV
  go_enter Tryz.func113, Tryz.ntmps113
  go_upto_region 1 with (fail)
  generalize w.alloc (.cells #[.slice A t.params.length cap, .bool t.result.cell, .int .i64 t.result.n] 64) = V at k0 hb0 ⊢
  have c0 := cell_of_row _ _ 0 _ _ _ k0
  have c1 := cell_of_row _ _ 1 _ _ _ k0
  have c2 := cell_of_row _ _ 2 _ _ _ k0
  go_upto_region 3 with (fail)
  refine wp_region_chain (fun w' => w'.cell? ⟨w.heap.size, 0, none⟩ = some (.slice A t.params.length cap) ∧ w'.cell? ⟨w.heap.size, 1, none⟩ = some (.bool t.result.cell) ∧ w'.cell? ⟨w.heap.size, 2, none⟩ = some (.int .i64 t.result.n)) [(true, 0), (true, 1), (true, 6), (true, 7), (false, 2), (false, 3), (true, 4), (true, 5), (false, 8), (true, 9), (true, 10)] (by kernel_rfl) (by kernel_rfl) (by kernel_rfl) (by kernel_rfl) (by intro d v c a w h; cases d <;> exact h) ⟨c0, c1, c2⟩ ?_
  simp only [chainOps, List.filterMap_cons, List.filterMap_nil, List.getElem?_toArray, List.getElem?_cons_zero, List.getElem?_cons_succ, Option.map_some]
  repeat (first
    | (refine chain_skip (by rfl) ?_
       try simp only [Act.put, List.setIfInBounds_toArray, List.set_cons_zero, List.set_cons_succ])
    | (apply chain_take (by rfl)
       · (intro w' hSw; (try dsimp only at hSw); go_simp; try with_reducible rfl)
       try simp only [Act.put, List.setIfInBounds_toArray, List.set_cons_zero, List.set_cons_succ]))
  have hl0 := (Array.getElem?_eq_some_iff.1 k0).1
  refine chain_act (fun KK hKK => ?_)
  go_simp
  go_at_call 138; refine (HL.out _ (by first | exact hb0 | exact hb0.drew)).mono ?_; rintro e w3 ⟨u, rfl, hown, hq3⟩
  have hb3 : Below V.heap.size V w3 := ⟨hq3.os, hq3.tape, hq3.output, hq3.size, hq3.block⟩
  refine hKK.out _ _ ⟨(hb3.cell (p := ⟨w.heap.size, 0, none⟩) hl0).trans c0, (hb3.cell (p := ⟨w.heap.size, 1, none⟩) hl0).trans c1, (hb3.cell (p := ⟨w.heap.size, 2, none⟩) hl0).trans c2⟩ ?_
  clear hKK KK
  try simp only [Act.put, List.setIfInBounds_toArray, List.set_cons_zero, List.set_cons_succ]
  repeat (first
    | (refine chain_skip (by rfl) ?_
       try simp only [Act.put, List.setIfInBounds_toArray, List.set_cons_zero, List.set_cons_succ])
    | (apply chain_take (by rfl)
       · (intro w' hSw; (try dsimp only at hSw); go_simp; try with_reducible rfl)
       try simp only [Act.put, List.setIfInBounds_toArray, List.set_cons_zero, List.set_cons_succ]))
  refine chain_act (fun KK hKK => ?_)
  go_simp
  go_at_call 114; refine (HJ.out _ _ (World.ownsRow.mono hown hb0.size)).mono ?_; rintro e w4 ⟨rfl, hq4⟩
  have hb4 : Below V.heap.size V w4 := hb3.trans (hq4.mono hb3.size)
  refine hKK.out _ _ ⟨(hb4.cell (p := ⟨w.heap.size, 0, none⟩) hl0).trans c0, (hb4.cell (p := ⟨w.heap.size, 1, none⟩) hl0).trans c1, (hb4.cell (p := ⟨w.heap.size, 2, none⟩) hl0).trans c2⟩ ?_
  clear hKK KK
  try simp only [Act.put, List.setIfInBounds_toArray, List.set_cons_zero, List.set_cons_succ]
  repeat (first
    | (refine chain_skip (by rfl) ?_
       try simp only [Act.put, List.setIfInBounds_toArray, List.set_cons_zero, List.set_cons_succ])
    | (apply chain_take (by rfl)
       · (intro w' hSw; (try dsimp only at hSw); go_simp; try with_reducible rfl)
       try simp only [Act.put, List.setIfInBounds_toArray, List.set_cons_zero, List.set_cons_succ]))
  refine chain_act (fun KK hKK => ?_)
  go_simp
  go_at_call 111; refine (HB.out _ (hb0.trans (hb4.mono hb0.size))).mono ?_; rintro e w5 ⟨rfl, hq5⟩
  have hb5 : Below V.heap.size V w5 := hb4.trans (hq5.mono hb4.size)
  refine hKK.out _ _ ⟨(hb5.cell (p := ⟨w.heap.size, 0, none⟩) hl0).trans c0, (hb5.cell (p := ⟨w.heap.size, 1, none⟩) hl0).trans c1, (hb5.cell (p := ⟨w.heap.size, 2, none⟩) hl0).trans c2⟩ ?_
  clear hKK KK
  try simp only [Act.put, List.setIfInBounds_toArray, List.set_cons_zero, List.set_cons_succ]
  repeat (first
    | (refine chain_skip (by rfl) ?_
       try simp only [Act.put, List.setIfInBounds_toArray, List.set_cons_zero, List.set_cons_succ])
    | (apply chain_take (by rfl)
       · (intro w' hSw; (try dsimp only at hSw); go_simp; try with_reducible rfl)
       try simp only [Act.put, List.setIfInBounds_toArray, List.set_cons_zero, List.set_cons_succ]))
  refine chain_nil ?_
  go_wp2
  go_ret
  exact ⟨rfl, hb0.trans (hb5.mono hb0.size)⟩

set_option maxRecDepth 100000 in
set_option maxHeartbeats 1000000 in
theorem arenaText_any (ids : Value) (a : Ar) (w : World) (hin : ArIn w ids a) (hlen : a.ids.length ≤ 1000) (hok : ∀ t ∈ a.ids, TyOk t)
    (h0 : -9223372036854775808 ≤ a.root.n) (h1 : a.root.n ≤ 9223372036854775807) (hj : (arenaT a).length ≤ 140737488355328) (hG : Ga w) :
    Calls Tryz.prog 63 #[arV ids a] w fun e w' => e = .returned (.string (strB (arenaT a))) ∧ Below w.heap.size w w' := by
  have hB : ∀ V, Below w.heap.size w V → Calls Tryz.prog 111 #[bsV a.root] V fun e w' => e = .returned (.string (strB (baseT a.root))) ∧ Below V.heap.size V w' := fun V hb => baseText_any a.root V h0 h1 (hG.next hb)
  have hL : ∀ V, Below w.heap.size w V → Calls Tryz.prog 112 #[ids, .func (.func 113) #[] #[]] V fun e w' => ∃ u, e = .returned u ∧ w'.ownsRow V.heap.size 9 1 u a.ids.length (a.ids.flatMap fun x => [Value.string (strB (typeT x))]) ∧ Below V.heap.size V w' := fun V hb =>
    listTS (fun x => strB (typeT x)) ids a.ids V (hin.sl.below hb) (by omega) (fun x pv U hx hpv hbU => typeText_any x pv U hpv (hok x hx) (hG.up hb hbU))
  obtain ⟨A, cap, rfl, -⟩ := hin.sl
  have hLN : a.ids.length = 0 → ∀ V, Calls Tryz.prog 112 #[.slice A a.ids.length cap, .func (.func 113) #[] #[]] V fun e w' => e = .returned (.slice none 0 0) ∧ Below V.heap.size V w' := fun h V => by rw [h]; exact listTS_nil A cap V
  have HLN := Lib.hid hLN
  clear hLN
  have hcs : (a.ids.flatMap fun x => [Value.string (strB (typeT x))]).length = a.ids.length := by induction a.ids <;> simp_all
  obtain ⟨i0, hi, hz0, hz1, hz2⟩ := info_parts str_info
  have hb0 : Below w.heap.size w (w.alloc (.cells #[.slice A a.ids.length cap, .bool a.root.cell, .int .i64 a.root.n, .bool a.jumps] 26)) := (Below.refl _ _).alloc (Nat.le_refl _) _
  have K := heap_alloc_new w (.cells #[.slice A a.ids.length cap, .bool a.root.cell, .int .i64 a.root.n, .bool a.jumps] 26)
  have HB := Lib.hid hB
  have HL := Lib.hid hL
  have HJ := Lib.hid hj
  have Hcs := Lib.hid hcs
  clear hB hL hj hok hin hcs
  unfold arV at *
  go_enter Tryz.func63, Tryz.ntmps63
  go_upto_region 1 with (fail)
  generalize w.alloc (.cells #[.slice A a.ids.length cap, .bool a.root.cell, .int .i64 a.root.n, .bool a.jumps] 26) = V at K hb0 ⊢
  obtain ⟨⟨c0, c1, c2, c3⟩, -, hVl⟩ := four_c K
  have HK := Lib.hid K
  clear K
  unfold bsV at HB
  go_cut [3] (fun u wx => wx.ownsRow V.heap.size 9 1 u (1 + a.ids.length) ([.string (strB (baseT a.root))] ++ a.ids.flatMap fun x => [Value.string (strB (typeT x))]) ∧ Below V.heap.size V wx)
  case first =>
    by_cases hn : a.ids = []
    · have HLZ := Lib.hid (HLN.out (by rw [hn]; rfl))
      have HN := Lib.hid hn
      clear hn
      go_region_law (first
        | (go_simp; go_at_call 111; refine (HB.out V.drew hb0.drew).mono ?_; rintro e w2 ⟨rfl, hb2⟩; have vz2 : V.heap.size ≤ w2.heap.size := hb2.size; have hw2 : Below w.heap.size w w2 := hb0.drew.trans (hb2.mono hb0.size); have hw2a := fun o => hw2.alloc hw2.size o; obtain ⟨⟨d0, d1, d2, d3⟩, -, dl⟩ := four_c (heap_below hb2 hVl HK.out); have vb2 : Below V.heap.size V w2 := ⟨hb2.os, hb2.tape, hb2.output, hb2.size, hb2.block⟩)
        | (go_simp; go_at_call 112; refine (HLZ.out _).mono ?_; rintro e w3 ⟨rfl, hb3⟩; have vz3 : V.heap.size ≤ w3.heap.size := Nat.le_trans (by first | exact vz2 | (rw [alloc_sz2]; omega)) hb3.size; have vb3 : Below V.heap.size V w3 := (by first | exact vb2.trans (hb3.mono vz2) | exact (vb2.alloc vz2 _).trans (hb3.mono (by rw [alloc_sz2]; omega))))
        | (refine step_append_none (by rfl) _ _ _ (by rfl) V.heap.size 9 i0 1 Tryz.underlying125 hi _ 1 [.string (strB (baseT a.root))] (by rfl) (by first | exact own_below (lit_owns _ _ _ _ (by assumption)) hb3 | exact lit_owns _ _ _ _ (by assumption)) (by rfl) ?_))
      all_goals
        go_wp2
        go_meet
        exact ⟨by rw [HN.out]; first | exact own_below (lit_owns _ _ _ _ (by assumption)) hb3 | exact lit_owns _ _ _ _ (by assumption), by first | exact vb3 | exact vb3.alloc vz3 _⟩
    · have hlp : 0 < a.ids.length := List.length_pos_iff.2 hn
      clear hn
      go_region_law (first
        | (go_simp; go_at_call 111; refine (HB.out V.drew hb0.drew).mono ?_; rintro e w2 ⟨rfl, hb2⟩; have vz2 : V.heap.size ≤ w2.heap.size := hb2.size; have hw2 : Below w.heap.size w w2 := hb0.drew.trans (hb2.mono hb0.size); have hw2a := fun o => hw2.alloc hw2.size o; obtain ⟨⟨d0, d1, d2, d3⟩, -, dl⟩ := four_c (heap_below hb2 hVl HK.out); have vb2 : Below V.heap.size V w2 := ⟨hb2.os, hb2.tape, hb2.output, hb2.size, hb2.block⟩)
        | (go_simp; go_at_call 112; refine (HL.out _ (by first | exact hw2 | exact hw2a _)).mono ?_; rintro e w3 ⟨u, rfl, hown, hb3⟩; obtain ⟨gl, cl, rfl⟩ := own_pos hown hlp; have vz3 : V.heap.size ≤ w3.heap.size := Nat.le_trans (by first | exact vz2 | (rw [alloc_sz2]; omega)) hb3.size; have vb3 : Below V.heap.size V w3 := (by first | exact vb2.trans (hb3.mono vz2) | exact (vb2.alloc vz2 _).trans (hb3.mono (by rw [alloc_sz2]; omega))))
        | (refine step_append_lies _ (by rfl) _ _ _ (by rfl) V.heap.size 9 i0 _ 1 16 Tryz.underlying125 hi hz0 hz1 hz2 rfl (by omega) _ 1 [.string (strB (baseT a.root))] (by rfl) (by first | exact own_below (lit_owns _ _ _ _ (by assumption)) hb3 | exact lit_owns _ _ _ _ (by assumption)) ⟨gl, 0, none⟩ a.ids.length cl _ (by rfl) (by rw [Hcs.out]; omega) (by first | exact own_news hown | exact own_news (own_below hown ((Below.refl _ _).alloc (Nat.le_refl _) _))) (fun u hu => by simp at hu; obtain ⟨x, _, rfl⟩ := hu; rfl) (by omega) (by unfold maxLen; omega) (by omega) (by first | assumption | (rw [alloc_sz2]; omega)) _ rfl ?_; intro gg cap2 w4 hown2 hgrow hat hlt2))
      all_goals
        go_wp2
        go_meet
        exact ⟨hown2, by first | exact vb3.grown hgrow vz3 (fun j e => by first | (have e2 : some w2.heap.size = some j := e; injection e2; omega) | (have e2 : some w3.heap.size = some j := e; injection e2; omega)) | exact (vb3.alloc vz3 _).grown hgrow (by rw [alloc_sz2]; omega) (fun j e => by first | (have e2 : some w2.heap.size = some j := e; injection e2; omega) | (have e2 : some w3.heap.size = some j := e; injection e2; omega))⟩
  case rest =>
    obtain ⟨hown, hbx⟩ := hcut
    obtain ⟨gl, cl, rfl⟩ := own_pos hown (by omega)
    obtain ⟨⟨d0, d1, d2, d3⟩, -, dl⟩ := four_c ((hbx.block _ hVl).trans HK.out)
    have hzx := hbx.size
    have hp : ∀ j : Bool, a.jumps = j → partsT a = [baseT a.root] ++ a.ids.map typeT ++ (if j then [[106, 117, 109, 112, 115]] else []) := fun j e => by unfold partsT; rw [e]
    have hmap : (([baseT a.root] ++ a.ids.map typeT).map fun x => Value.string (strB x)) = [.string (strB (baseT a.root))] ++ a.ids.flatMap fun x => [Value.string (strB (typeT x))] := by
      rw [List.map_append, List.map_map]
      congr 1
      induction a.ids with
      | nil => rfl
      | cons t r ih => simp only [List.map_cons, List.flatMap_cons, List.cons_append, List.nil_append, ih, Function.comp]
    have hJ : ∀ (j : Bool) (v : Value) (W : World), a.jumps = j → (W.ownsRow V.heap.size 9 1 v (partsT a).length ((partsT a).map fun x => .string (strB x))) → Calls Tryz.prog 114 #[v, .string ⟨#[59, 32]⟩] W fun e w' => e = .returned (.string (strB (arenaT a))) ∧ Below W.heap.size W w' := fun j v W hjj ho =>
      join_any V.heap.size v (partsT a) [59, 32] W ho (by rw [hp j hjj]; cases j <;> simp <;> omega) HJ.out
    have hwx : Below w.heap.size w wc := hb0.trans (hbx.mono hb0.size)
    have Hwx := Lib.hid hwx
    have Hown := Lib.hid hown
    cases hc : a.jumps
    · have hpp := hp false hc
      have hj0 : wc.ownsRow V.heap.size 9 1 (.slice (some ⟨gl, 0, none⟩) (1 + a.ids.length) cl) (partsT a).length ((partsT a).map fun x => .string (strB x)) := by
        rw [hpp]
        simp only [Bool.false_eq_true, if_false, List.append_nil]
        rw [hmap, show ([baseT a.root] ++ a.ids.map typeT).length = 1 + a.ids.length by simp; omega]
        exact hown
      have HJJ := Lib.hid (hJ false _ wc hc hj0)
      rw [hc] at d3
      clear hJ hj0 hpp hp hmap hc hown hwx hbx c0 c1 c2 c3
      go_wp2_with (go_at_call 114; refine HJJ.out.mono ?_; rintro e w6 ⟨rfl, hb6⟩)
      go_ret
      exact ⟨rfl, Hwx.out.trans (hb6.mono Hwx.out.size)⟩
    · have hpp := hp true hc
      have hj1 : ∀ (v : Value) (W : World), W.ownsRow V.heap.size 9 1 v (1 + a.ids.length + 1) (([.string (strB (baseT a.root))] ++ a.ids.flatMap fun x => [Value.string (strB (typeT x))]) ++ [.string ⟨#[106, 117, 109, 112, 115]⟩]) → W.ownsRow V.heap.size 9 1 v (partsT a).length ((partsT a).map fun x => .string (strB x)) := fun v W ho => by
        rw [hpp]
        simp only [if_true]
        rw [List.map_append, hmap, show ([baseT a.root] ++ a.ids.map typeT ++ [([106, 117, 109, 112, 115] : List UInt8)]).length = 1 + a.ids.length + 1 by simp; omega]
        exact ho
      have HJ1 := Lib.hid (fun v W h => hJ true v W hc (hj1 v W h))
      rw [hc] at d3
      have hzw := hwx.size
      clear hJ hj1 hpp hp hmap hc hwx c0 c1 c2 c3
      go_wp2_with (first
        | (go_at_call 114; refine (HJ1.out _ _ hown5).mono ?_; rintro e w6 ⟨rfl, hb6⟩)
        | (at_builtin; refine wpList_append_own _ rfl _ _ 125 rfl V.heap.size 9 i0 _ 1 16 Tryz.underlying125 hi hz0 hz1 hz2 rfl (by decide) _ _ _ rfl (hown.alloc _) ⟨wc.heap.size, 0, none⟩ 1 1 [.string ⟨#[106, 117, 109, 112, 115]⟩] rfl rfl (lit_new2 _ _ _ rfl _) (fun u hu => by simp at hu; subst hu; rfl) (by unfold maxLen; omega) (by omega) (by simp; omega) ?_; intro v' w5 hown5 hgrow5 _))
      go_ret
      have hb5 : Below w.heap.size w w5 := (Hwx.out.alloc Hwx.out.size _).grown hgrow5 (by rw [alloc_sz2]; omega) (fun j e => by
        have := (World.ownsRow.lt Hown.out j e).1
        have := hb0.size
        omega)
      exact ⟨rfl, hb5.trans (hb6.mono hb5.size)⟩

/-- Show: the text of any arena, or the error. -/
theorem show_any (ids : Value) (a : Ar) (w : World) (hin : ArIn w ids a) (hG : Ga w) :
    Calls Tryz.prog 21 #[arV ids a] w fun e w' => e = .returned (showR a) ∧ Below w.heap.size w w' :=
  show_of ids a w hin (fun h0 V hb => by
    have hR := right_of h0
    have hr := bsOk_right hR.root
    exact arenaText_any ids a V (hin.below hb) (by have := hR.ids; omega) (fun t ht => tyOk_right hR ht) hr.1 hr.2 (Nat.le_trans (arenaT_len hR) (by omega)) (hG.next hb))

end Go.Proofs.YtoncdnelacolaaaGreatDoor.Ar
