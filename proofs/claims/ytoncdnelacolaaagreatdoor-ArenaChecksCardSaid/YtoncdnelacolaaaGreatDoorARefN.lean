/- The reference: Below, Under. -/
import Derived.Test.YtoncdnelacolaaaGreatDoorARefK
import Derived.Deep.RegionHeld3
import Derived.Test.YtoncdnelacolaaaGreatDoorAChain
import Derived.Test.YtoncdnelacolaaaGreatDoorAUnderB
import Derived.Test.YtoncdnelacolaaaGreatDoorAWalkI
import Derived.Test.YtoncdnelacolaaaGreatDoorALists
namespace Go.Proofs.YtoncdnelacolaaaGreatDoor.Ar
open Go Go.Proofs Go.RowKit Go.Sort Lx Ps

theorem sameMv_eqM (x y : Mv) : sameMv x y = eqM x y := by simp [sameMv, eqM, Bool.and_assoc]
/-- What a search says: is it there? -/
theorem any_ge {l : List Mv} {m : Mv} {n : Int} (h : (n = -1 ∧ l.any (sameMv · m) = false) ∨ ∃ (k : Nat) (x : Mv), n = (k : Int) ∧ l[k]? = some x ∧ sameMv x m = true) : decide (0 ≤ n) = l.any (sameMv · m) := by
  rcases h with ⟨rfl, h⟩ | ⟨k, x, rfl, hx, hs⟩
  · rw [h]; rfl
  · have : l.any (sameMv · m) = true := List.any_eq_true.2 ⟨x, List.mem_of_getElem? hx, hs⟩
    rw [this]; simp

set_option maxRecDepth 100000 in
set_option maxHeartbeats 2000000 in
theorem refHas_any (ids : Value) (a : Ar) (m : Mv) (w : World) (hin : ArIn w ids a) (hR : ∀ p, plAt a m.id m.arg = some p → ∃ N : Nat, p.base.n = (N : Int) ∧ N ≤ 64) (hlQ : (questA a m.id m.arg).length ≤ 1000) (hlT : (toldA a m.id m.arg 1).length ≤ 1000) :
    Calls Tryz.prog 34 #[arV ids a, mvV m] w fun e w' => e = .returned (.bool ((questA a m.id m.arg).any (sameMv · m) || (toldA a m.id m.arg 1).any (sameMv · m))) ∧ Below w.heap.size w w' := by
  have hQ := fun V (hb : Below w.heap.size w V) => refQuestions_any ids a m.id m.arg V (hin.below hb) hR
  have hT := fun V (hb : Below w.heap.size w V) => refTold_any ids a m.id m.arg 1 V (hin.below hb) hR
  have hF : ∀ (l : List Mv) (v : Value) (V : World), l.length ≤ 1000 → SlM V v l → Calls Tryz.prog 53 #[v, mvV m] V fun e w' => (∃ n : Int, e = .returned (.int .i64 n) ∧ decide (0 ≤ n) = l.any (sameMv · m)) ∧ Below V.heap.size V w' := fun l v V hl hv =>
    (refFind_any v l m V hv (by omega)).mono fun e w' ⟨⟨n, he, hn⟩, hb⟩ => ⟨⟨n, he, any_ge hn⟩, hb⟩
  obtain ⟨A, cap, rfl, -⟩ := hin.sl
  clear hin
  generalize questA a m.id m.arg = lq at *
  generalize toldA a m.id m.arg 1 = lt at *
  obtain ⟨k0, k1⟩ := blocks2 w (.cells #[.slice A a.ids.length cap, .bool a.root.cell, .int .i64 a.root.n, .bool a.jumps] 26) (.cells #[.int .i64 m.id, .int .i64 m.arg, .int .u8 (m.kind : Int), .int .i64 m.n] 40)
  have hb0 : Below w.heap.size w ((w.alloc (.cells #[.slice A a.ids.length cap, .bool a.root.cell, .int .i64 a.root.n, .bool a.jumps] 26)).alloc (.cells #[.int .i64 m.id, .int .i64 m.arg, .int .u8 (m.kind : Int), .int .i64 m.n] 40)) := below_two
  unfold arV at hQ hT ⊢
  unfold mvV at hF ⊢
  cases hfq : lq.any (sameMv · m)
  · rw [Bool.false_or]
    go_enter Tryz.func34, Tryz.ntmps34
    go_upto_region 1 with (fail)
    generalize (w.alloc (.cells #[.slice A a.ids.length cap, .bool a.root.cell, .int .i64 a.root.n, .bool a.jumps] 26)).alloc (.cells #[.int .i64 m.id, .int .i64 m.arg, .int .u8 (m.kind : Int), .int .i64 m.n] 40) = V at k0 k1 hb0 ⊢
    obtain ⟨⟨c0, c1, c2, c3⟩, -, hl0⟩ := four_c k0
    obtain ⟨⟨d0, d1, d2, d3⟩, -, hl1⟩ := four_c k1
    have HQ := Lib.hid hQ
    have HT := Lib.hid hT
    have HF := Lib.hid hF
    have HFQ := Lib.hid hfq
    clear hQ hT hF hfq k0 k1
    go_region_held3 (fun w' => w'.cell? ⟨w.heap.size, 0, none⟩ = some (.slice A a.ids.length cap) ∧ w'.cell? ⟨w.heap.size, 1, none⟩ = some (.bool a.root.cell) ∧ w'.cell? ⟨w.heap.size, 2, none⟩ = some (.int .i64 a.root.n) ∧ w'.cell? ⟨w.heap.size, 3, none⟩ = some (.bool a.jumps) ∧ w'.cell? ⟨w.heap.size + 1, 0, none⟩ = some (.int .i64 m.id) ∧ w'.cell? ⟨w.heap.size + 1, 1, none⟩ = some (.int .i64 m.arg) ∧ w'.cell? ⟨w.heap.size + 1, 2, none⟩ = some (.int .u8 (m.kind : Int)) ∧ w'.cell? ⟨w.heap.size + 1, 3, none⟩ = some (.int .i64 m.n))
      (first
        | (go_split_ands; all_goals (first | assumption))
        | go_keep)
      ((first
        | (have hq := hF1; go_at_call 84; refine (HT.out _ (by first | exact hbV2 | exact hbV2.drew)).mono ?_; rintro e w3 ⟨v3, rfl, hown3, hb5⟩; have hb3 : Below V.heap.size V w3 := hb2.trans ((⟨hb5.os, hb5.tape, hb5.output, hb5.size, hb5.block⟩ : Below w2.heap.size w2 w3).mono hb2.size); have t0 := (hb3.cell (p := ⟨w.heap.size, 0, none⟩) hl0).trans c0; have t1 := (hb3.cell (p := ⟨w.heap.size, 1, none⟩) hl0).trans c1; have t2 := (hb3.cell (p := ⟨w.heap.size, 2, none⟩) hl0).trans c2; have t3 := (hb3.cell (p := ⟨w.heap.size, 3, none⟩) hl0).trans c3; have t4 := (hb3.cell (p := ⟨w.heap.size + 1, 0, none⟩) hl1).trans d0; have t5 := (hb3.cell (p := ⟨w.heap.size + 1, 1, none⟩) hl1).trans d1; have t6 := (hb3.cell (p := ⟨w.heap.size + 1, 2, none⟩) hl1).trans d2; have t7 := (hb3.cell (p := ⟨w.heap.size + 1, 3, none⟩) hl1).trans d3; have hsl3 := SlM.of_own hown3; obtain ⟨A3, e3, rfl⟩ := own_slice hown3; have hF2 := hsl3)
        | (have hq := hF2; go_at_call 53; refine (HF.out lt _ _ hlT (by first | exact hsl3 | assumption)).mono ?_; rintro e w4 ⟨⟨n4, rfl, hn4⟩, hb6⟩; have hb4 : Below V.heap.size V w4 := hb3.trans ((⟨hb6.os, hb6.tape, hb6.output, hb6.size, hb6.block⟩ : Below w3.heap.size w3 w4).mono hb3.size); have u0 := (hb4.cell (p := ⟨w.heap.size, 0, none⟩) hl0).trans c0; have u1 := (hb4.cell (p := ⟨w.heap.size, 1, none⟩) hl0).trans c1; have u2 := (hb4.cell (p := ⟨w.heap.size, 2, none⟩) hl0).trans c2; have u3 := (hb4.cell (p := ⟨w.heap.size, 3, none⟩) hl0).trans c3; have u4 := (hb4.cell (p := ⟨w.heap.size + 1, 0, none⟩) hl1).trans d0; have u5 := (hb4.cell (p := ⟨w.heap.size + 1, 1, none⟩) hl1).trans d1; have u6 := (hb4.cell (p := ⟨w.heap.size + 1, 2, none⟩) hl1).trans d2; have u7 := (hb4.cell (p := ⟨w.heap.size + 1, 3, none⟩) hl1).trans d3)
        | (go_at_call 53; refine (HF.out lq _ _ hlQ (by first | exact hsl1 | assumption)).mono ?_; rintro e w2 ⟨⟨n2, rfl, hn2⟩, hb7⟩; have hb2 : Below V.heap.size V w2 := hb1.trans ((⟨hb7.os, hb7.tape, hb7.output, hb7.size, hb7.block⟩ : Below w1.heap.size w1 w2).mono hb1.size); have hbV2 := hb0.trans (hb2.mono hb0.size); rw [HFQ.out] at hn2; have hF1 := hn2; have s0 := (hb2.cell (p := ⟨w.heap.size, 0, none⟩) hl0).trans c0; have s1 := (hb2.cell (p := ⟨w.heap.size, 1, none⟩) hl0).trans c1; have s2 := (hb2.cell (p := ⟨w.heap.size, 2, none⟩) hl0).trans c2; have s3 := (hb2.cell (p := ⟨w.heap.size, 3, none⟩) hl0).trans c3; have s4 := (hb2.cell (p := ⟨w.heap.size + 1, 0, none⟩) hl1).trans d0; have s5 := (hb2.cell (p := ⟨w.heap.size + 1, 1, none⟩) hl1).trans d1; have s6 := (hb2.cell (p := ⟨w.heap.size + 1, 2, none⟩) hl1).trans d2; have s7 := (hb2.cell (p := ⟨w.heap.size + 1, 3, none⟩) hl1).trans d3)
        | (go_at_call 86; refine (HQ.out _ (by first | exact hb0 | exact hb0.drew)).mono ?_; rintro e w1 ⟨v1, rfl, hown1, hb8⟩; have hb1 : Below V.heap.size V w1 := ⟨hb8.os, hb8.tape, hb8.output, hb8.size, hb8.block⟩; have r0 := (hb1.cell (p := ⟨w.heap.size, 0, none⟩) hl0).trans c0; have r1 := (hb1.cell (p := ⟨w.heap.size, 1, none⟩) hl0).trans c1; have r2 := (hb1.cell (p := ⟨w.heap.size, 2, none⟩) hl0).trans c2; have r3 := (hb1.cell (p := ⟨w.heap.size, 3, none⟩) hl0).trans c3; have r4 := (hb1.cell (p := ⟨w.heap.size + 1, 0, none⟩) hl1).trans d0; have r5 := (hb1.cell (p := ⟨w.heap.size + 1, 1, none⟩) hl1).trans d1; have r6 := (hb1.cell (p := ⟨w.heap.size + 1, 2, none⟩) hl1).trans d2; have r7 := (hb1.cell (p := ⟨w.heap.size + 1, 3, none⟩) hl1).trans d3; have hsl1 := SlM.of_own hown1; obtain ⟨A1, e1, rfl⟩ := own_slice hown1)))
    go_wp2
    go_ret
    exact ⟨rfl, hb0.trans (hb4.mono hb0.size)⟩
  · rw [Bool.true_or]
    go_enter Tryz.func34, Tryz.ntmps34
    go_upto_region 1 with (fail)
    generalize (w.alloc (.cells #[.slice A a.ids.length cap, .bool a.root.cell, .int .i64 a.root.n, .bool a.jumps] 26)).alloc (.cells #[.int .i64 m.id, .int .i64 m.arg, .int .u8 (m.kind : Int), .int .i64 m.n] 40) = V at k0 k1 hb0 ⊢
    obtain ⟨⟨c0, c1, c2, c3⟩, -, hl0⟩ := four_c k0
    obtain ⟨⟨d0, d1, d2, d3⟩, -, hl1⟩ := four_c k1
    have HQ := Lib.hid hQ
    have HF := Lib.hid hF
    have HFQ := Lib.hid hfq
    clear hQ hT hF hfq k0 k1
    refine wp_region_chain (fun w' => w'.cell? ⟨w.heap.size, 0, none⟩ = some (.slice A a.ids.length cap) ∧ w'.cell? ⟨w.heap.size, 1, none⟩ = some (.bool a.root.cell) ∧ w'.cell? ⟨w.heap.size, 2, none⟩ = some (.int .i64 a.root.n) ∧ w'.cell? ⟨w.heap.size, 3, none⟩ = some (.bool a.jumps) ∧ w'.cell? ⟨w.heap.size + 1, 0, none⟩ = some (.int .i64 m.id) ∧ w'.cell? ⟨w.heap.size + 1, 1, none⟩ = some (.int .i64 m.arg) ∧ w'.cell? ⟨w.heap.size + 1, 2, none⟩ = some (.int .u8 (m.kind : Int)) ∧ w'.cell? ⟨w.heap.size + 1, 3, none⟩ = some (.int .i64 m.n)) [(true, 0), (true, 1), (true, 2), (true, 3), (true, 4), (true, 6), (false, 5), (false, 7), (true, 8), (true, 9), (true, 10), (true, 11), (true, 12), (true, 13), (true, 14), (true, 16), (false, 15), (false, 17), (true, 18), (true, 19), (true, 20)] (by kernel_rfl) (by kernel_rfl) (by kernel_rfl) (by kernel_rfl) (by intro d v c a w h; cases d <;> exact h) ⟨c0, c1, c2, c3, d0, d1, d2, d3⟩ ?_
    simp only [chainOps, List.filterMap_cons, List.filterMap_nil, List.getElem?_toArray, List.getElem?_cons_zero, List.getElem?_cons_succ, Option.map_some]
    repeat (first
      | (refine chain_skip (by rfl) ?_
         try simp only [Act.put, List.setIfInBounds_toArray, List.set_cons_zero, List.set_cons_succ])
      | (apply chain_take (by rfl)
         · (intro w' hSw; (try dsimp only at hSw); go_simp; try with_reducible rfl)
         try simp only [Act.put, List.setIfInBounds_toArray, List.set_cons_zero, List.set_cons_succ]))
    refine chain_act (fun K hK => ?_)
    go_simp
    go_at_call 86; refine (HQ.out _ (by first | exact hb0 | exact hb0.drew)).mono ?_; rintro e w1 ⟨v1, rfl, hown1, hb8⟩; have hb1 : Below V.heap.size V w1 := ⟨hb8.os, hb8.tape, hb8.output, hb8.size, hb8.block⟩; have r0 := (hb1.cell (p := ⟨w.heap.size, 0, none⟩) hl0).trans c0; have r1 := (hb1.cell (p := ⟨w.heap.size, 1, none⟩) hl0).trans c1; have r2 := (hb1.cell (p := ⟨w.heap.size, 2, none⟩) hl0).trans c2; have r3 := (hb1.cell (p := ⟨w.heap.size, 3, none⟩) hl0).trans c3; have r4 := (hb1.cell (p := ⟨w.heap.size + 1, 0, none⟩) hl1).trans d0; have r5 := (hb1.cell (p := ⟨w.heap.size + 1, 1, none⟩) hl1).trans d1; have r6 := (hb1.cell (p := ⟨w.heap.size + 1, 2, none⟩) hl1).trans d2; have r7 := (hb1.cell (p := ⟨w.heap.size + 1, 3, none⟩) hl1).trans d3; have hsl1 := SlM.of_own hown1; obtain ⟨A1, e1, rfl⟩ := own_slice hown1
    refine hK.out _ _ ⟨r0, r1, r2, r3, r4, r5, r6, r7⟩ ?_
    clear hK K
    try simp only [Act.put, List.setIfInBounds_toArray, List.set_cons_zero, List.set_cons_succ]
    refine chain_act (fun K hK => ?_)
    go_simp
    go_at_call 53; refine (HF.out lq _ _ hlQ (by first | exact hsl1 | assumption)).mono ?_; rintro e w2 ⟨⟨n2, rfl, hn2⟩, hb7⟩; have hb2 : Below V.heap.size V w2 := hb1.trans ((⟨hb7.os, hb7.tape, hb7.output, hb7.size, hb7.block⟩ : Below w1.heap.size w1 w2).mono hb1.size); have hbV2 := hb0.trans (hb2.mono hb0.size); rw [HFQ.out] at hn2; have hF1 := hn2; have s0 := (hb2.cell (p := ⟨w.heap.size, 0, none⟩) hl0).trans c0; have s1 := (hb2.cell (p := ⟨w.heap.size, 1, none⟩) hl0).trans c1; have s2 := (hb2.cell (p := ⟨w.heap.size, 2, none⟩) hl0).trans c2; have s3 := (hb2.cell (p := ⟨w.heap.size, 3, none⟩) hl0).trans c3; have s4 := (hb2.cell (p := ⟨w.heap.size + 1, 0, none⟩) hl1).trans d0; have s5 := (hb2.cell (p := ⟨w.heap.size + 1, 1, none⟩) hl1).trans d1; have s6 := (hb2.cell (p := ⟨w.heap.size + 1, 2, none⟩) hl1).trans d2; have s7 := (hb2.cell (p := ⟨w.heap.size + 1, 3, none⟩) hl1).trans d3
    refine hK.out _ _ ⟨s0, s1, s2, s3, s4, s5, s6, s7⟩ ?_
    clear hK K
    try simp only [Act.put, List.setIfInBounds_toArray, List.set_cons_zero, List.set_cons_succ]
    repeat (first
      | (refine chain_skip (by rfl) ?_
         try simp only [Act.put, List.setIfInBounds_toArray, List.set_cons_zero, List.set_cons_succ])
      | (apply chain_take (by rfl)
         · (intro w' hSw; (try dsimp only at hSw); go_simp; try with_reducible rfl)
         try simp only [Act.put, List.setIfInBounds_toArray, List.set_cons_zero, List.set_cons_succ]))
    refine chain_act (fun K hK => ?_)
    go_simp
    refine hK.out _ _ ⟨s0, s1, s2, s3, s4, s5, s6, s7⟩ ?_
    clear hK K
    try simp only [Act.put, List.setIfInBounds_toArray, List.set_cons_zero, List.set_cons_succ]
    refine chain_act (fun K hK => ?_)
    go_simp
    refine hK.out _ _ ⟨s0, s1, s2, s3, s4, s5, s6, s7⟩ ?_
    clear hK K
    try simp only [Act.put, List.setIfInBounds_toArray, List.set_cons_zero, List.set_cons_succ]
    repeat (first
      | (refine chain_skip (by rfl) ?_
         try simp only [Act.put, List.setIfInBounds_toArray, List.set_cons_zero, List.set_cons_succ])
      | (apply chain_take (by rfl)
         · (intro w' hSw; (try dsimp only at hSw); go_simp; try with_reducible rfl)
         try simp only [Act.put, List.setIfInBounds_toArray, List.set_cons_zero, List.set_cons_succ]))
    refine chain_nil ?_
    go_wp2
    go_ret
    exact ⟨rfl, hbV2⟩

end Go.Proofs.YtoncdnelacolaaaGreatDoor.Ar

namespace Go.Proofs.YtoncdnelacolaaaGreatDoor.Ar
open Go Go.Proofs Go.RowKit Go.Sort Lx Ps

theorem plAt_mem {a : Ar} {id arg : Int} {p : Pl} (h : plAt a id arg = some p) : p ∈ placesL a := by
  unfold plAt at h
  split at h
  · cases h
  · unfold placesL
    refine List.mem_flatMap.2 ⟨id.toNat, ?_, List.mem_of_getElem? h⟩
    rw [List.mem_range]
    unfold rowL at h
    split at h
    · omega
    · split at h
      · simp at h
      · rename_i t ht
        have := (List.getElem?_eq_some_iff.1 ht).1
        omega
theorem plAt_right {a : Ar} (hr : Right a) {id arg : Int} {p : Pl} (h : plAt a id arg = some p) : ∃ N : Nat, p.base.n = (N : Int) ∧ N ≤ 64 := by
  obtain ⟨N, h1, h2, _⟩ := place_base hr (plAt_mem h)
  exact ⟨N, h1, h2⟩
theorem questA_len {a : Ar} (hr : Right a) (id arg : Int) : (questA a id arg).length ≤ 1000 := by
  cases hp : plAt a id arg with
  | none => rw [questA_none hp]; simp
  | some p =>
    obtain ⟨N, h1, h2⟩ := plAt_right hr hp
    rw [questA_some hp]
    unfold questP putsL
    rw [h1]
    split
    · simp; omega
    · simp
theorem toldA_len {a : Ar} (hr : Right a) (id arg : Int) (k : Nat) : (toldA a id arg k).length ≤ 1000 := by
  cases hp : plAt a id arg with
  | none => rw [toldA_none hp]; simp
  | some p =>
    obtain ⟨N, h1, h2⟩ := plAt_right hr hp
    rw [toldA_some hp]
    unfold toldP tellP
    rw [List.length_append, tellsL_len, h1, Int.toNat_natCast]
    have : (if p.jumps then [tellM p (-1)] else []).length ≤ 1 := by split <;> simp
    have h9 : (if k = 1 then N else min 1 N) ≤ 64 := by split <;> omega
    omega
/-- The error of an arena, and of a move in it. -/
def moveE (a : Ar) (m : Mv) : Nat := if checkE a ≠ 0 then checkE a else if (placeM a m).isSome then 0 else 7

set_option maxRecDepth 100000 in
set_option maxHeartbeats 1000000 in
theorem refMove_any (ids : Value) (a : Ar) (m : Mv) (w : World) (hin : ArIn w ids a) :
    Calls Tryz.prog 81 #[arV ids a, mvV m] w fun r w' => r = .returned (.int .i64 (moveE a m : Int)) ∧ Below w.heap.size w w' := by
  have hC := fun W (hb : Below w.heap.size w W) => refCheck_any ids a W (hin.below hb)
  have hH : checkE a = 0 → ∀ W, Below w.heap.size w W → Calls Tryz.prog 34 #[arV ids a, mvV m] W fun e w' => e = .returned (.bool (placeM a m).isSome) ∧ Below W.heap.size W w' := fun h W hb =>
    (refHas_any ids a m W (hin.below hb) (fun p hp => plAt_right (right_of h) hp) (questA_len (right_of h) _ _) (toldA_len (right_of h) _ _ _)).mono fun e w' ⟨he, hb2⟩ => ⟨he.trans (by
      have : ∀ l : List Mv, l.any (sameMv · m) = l.any (eqM · m) := fun l => by congr 1; funext x; exact sameMv_eqM x m
      rw [this, this, has_any_iff]), hb2⟩
  obtain ⟨A, cap, rfl, -⟩ := hin.sl
  clear hin
  obtain ⟨k0, k1⟩ := blocks2 w (.cells #[.slice A a.ids.length cap, .bool a.root.cell, .int .i64 a.root.n, .bool a.jumps] 26) (.cells #[.int .i64 m.id, .int .i64 m.arg, .int .u8 (m.kind : Int), .int .i64 m.n] 40)
  have hb0 : Below w.heap.size w ((w.alloc (.cells #[.slice A a.ids.length cap, .bool a.root.cell, .int .i64 a.root.n, .bool a.jumps] 26)).alloc (.cells #[.int .i64 m.id, .int .i64 m.arg, .int .u8 (m.kind : Int), .int .i64 m.n] 40)) := below_two
  unfold arV mvV at *
  go_enter Tryz.func81, Tryz.ntmps81
  go_upto_region 1 with (fail)
  generalize (w.alloc (.cells #[.slice A a.ids.length cap, .bool a.root.cell, .int .i64 a.root.n, .bool a.jumps] 26)).alloc (.cells #[.int .i64 m.id, .int .i64 m.arg, .int .u8 (m.kind : Int), .int .i64 m.n] 40) = V at k0 k1 hb0 ⊢
  obtain ⟨⟨c0, c1, c2, c3⟩, -, hl0⟩ := four_c k0
  obtain ⟨⟨d0, d1, d2, d3⟩, -, hl1⟩ := four_c k1
  have HK0 := Lib.hid k0
  have HK1 := Lib.hid k1
  clear k0 k1
  by_cases he : checkE a = 0
  · rw [he] at hC
    have HC := Lib.hid hC
    have HH := Lib.hid (hH he)
    have HE := Lib.hid (show moveE a m = if (placeM a m).isSome then 0 else 7 by unfold moveE; rw [if_neg (by simp [he])])
    clear hC hH he
    cases hp : (placeM a m).isSome
    · rw [hp] at HE HH
      clear hp
      go_wp2_with (first
        | (go_at_call 24; refine (HC.out _ hb0).mono ?_; rintro r w1 ⟨rfl, hb1⟩; have hb2 := hb0.trans (hb1.mono hb0.size); obtain ⟨⟨r0, r1, r2, r3⟩, -, -⟩ := four_c (heap_below hb1 hl0 HK0.out); obtain ⟨⟨s0, s1, s2, s3⟩, -, -⟩ := four_c (heap_below hb1 hl1 HK1.out))
        | (go_at_call 34; refine (HH.out _ hb2).mono ?_; rintro r w2 ⟨rfl, hb3⟩))
      go_ret
      exact ⟨ret_int (by rw [HE.out]; rfl), hb2.trans (hb3.mono hb2.size)⟩
    · rw [hp] at HE HH
      clear hp
      go_wp2_with (first
        | (go_at_call 24; refine (HC.out _ hb0).mono ?_; rintro r w1 ⟨rfl, hb1⟩; have hb2 := hb0.trans (hb1.mono hb0.size); obtain ⟨⟨r0, r1, r2, r3⟩, -, -⟩ := four_c (heap_below hb1 hl0 HK0.out); obtain ⟨⟨s0, s1, s2, s3⟩, -, -⟩ := four_c (heap_below hb1 hl1 HK1.out))
        | (go_at_call 34; refine (HH.out _ hb2).mono ?_; rintro r w2 ⟨rfl, hb3⟩))
      go_ret
      exact ⟨ret_int (by rw [HE.out]; rfl), hb2.trans (hb3.mono hb2.size)⟩
  · have HE := Lib.hid (show moveE a m = checkE a by unfold moveE; rw [if_pos he])
    generalize checkE a = e at *
    have hne : ((e : Int) != 0) = true := by simp; omega
    have HC := Lib.hid hC
    clear hC hH he
    go_wp2_with (go_at_call 24; refine (HC.out _ hb0).mono ?_; rintro r w1 ⟨rfl, hb1⟩)
    go_ret
    exact ⟨ret_int (by rw [HE.out]), hb0.trans (hb1.mono hb0.size)⟩

theorem moveE_none {a : Ar} {m : Mv} (h : checkE a = 0) (hp : placeM a m = none) : moveE a m = 7 := by unfold moveE; rw [if_neg (by simp [h]), hp]; rfl
theorem moveE_some {a : Ar} {m : Mv} {p : Pl} (h : checkE a = 0) (hp : placeM a m = some p) : moveE a m = 0 := by unfold moveE; rw [if_neg (by simp [h]), hp]; rfl
theorem moveE_bad {a : Ar} {m : Mv} (h : checkE a ≠ 0) : moveE a m = checkE a := by unfold moveE; rw [if_pos h]
theorem kind_of {p : Pl} {m : Mv} (h1 : hasP p m = true) : m.kind = 1 ∨ m.kind = 2 ∨ m.kind = 3 := by
  unfold hasP at h1
  simp only [Bool.or_eq_true, Bool.and_eq_true, beq_iff_eq] at h1
  rcases h1 with (⟨h, _⟩ | ⟨⟨h, _⟩, _⟩) | ⟨h, _⟩
  · exact .inl h
  · exact .inr (.inl h)
  · exact .inr (.inr h)
theorem who_eq {a : Ar} {m : Mv} : ioR a m = if moveE a m ≠ 0 then .tuple #[.bool false, .int .i64 (moveE a m : Int)] else .tuple #[.bool (otherB m), .int .i64 0] := by
  by_cases he : checkE a = 0
  · cases hp : placeM a m with
    | none =>
      rw [moveE_none he hp, ioR_none he hp]
      rfl
    | some p =>
      obtain ⟨h1, h2, h3⟩ := placeM_mem hp
      have hid : (decide (0 < m.id) && m.arg == 0) = isId p := by
        unfold isId
        rw [h2, h3, Bool.eq_iff_iff]
        simp
      rw [moveE_some he hp, ioR_some he hp, if_neg (by simp)]
      unfold otherB askB
      rw [hid]
      rcases kind_of h1 with h | h | h <;> rw [h] <;> cases isId p <;> rfl
  · rw [moveE_bad he, if_pos he, ioR_err rfl he]

set_option maxRecDepth 100000 in
set_option maxHeartbeats 1000000 in
theorem refWhose_any (ids : Value) (a : Ar) (m : Mv) (w : World) (hin : ArIn w ids a) :
    Calls Tryz.prog 31 #[arV ids a, mvV m] w fun r w' => r = .returned (ioR a m) ∧ Below w.heap.size w w' := by
  have hM := fun W (hb : Below w.heap.size w W) => refMove_any ids a m W (hin.below hb)
  have hO := fun W => refIsOther_any m W
  rw [who_eq]
  by_cases he : moveE a m = 0
  · rw [if_neg (by simp [he])]
    obtain ⟨A, cap, rfl, -⟩ := hin.sl
    clear hin
    obtain ⟨k0, k1⟩ := blocks2 w (.cells #[.slice A a.ids.length cap, .bool a.root.cell, .int .i64 a.root.n, .bool a.jumps] 26) (.cells #[.int .i64 m.id, .int .i64 m.arg, .int .u8 (m.kind : Int), .int .i64 m.n] 40)
    have hb0 : Below w.heap.size w ((w.alloc (.cells #[.slice A a.ids.length cap, .bool a.root.cell, .int .i64 a.root.n, .bool a.jumps] 26)).alloc (.cells #[.int .i64 m.id, .int .i64 m.arg, .int .u8 (m.kind : Int), .int .i64 m.n] 40)) := below_two
    unfold arV mvV at *
    go_enter Tryz.func31, Tryz.ntmps31
    go_upto_region 1 with (fail)
    generalize (w.alloc (.cells #[.slice A a.ids.length cap, .bool a.root.cell, .int .i64 a.root.n, .bool a.jumps] 26)).alloc (.cells #[.int .i64 m.id, .int .i64 m.arg, .int .u8 (m.kind : Int), .int .i64 m.n] 40) = V at k0 k1 hb0 ⊢
    obtain ⟨⟨c0, c1, c2, c3⟩, -, hl0⟩ := four_c k0
    obtain ⟨⟨d0, d1, d2, d3⟩, -, hl1⟩ := four_c k1
    have HK0 := Lib.hid k0
    have HK1 := Lib.hid k1
    clear k0 k1
    rw [he] at hM
    have HM := Lib.hid hM
    have HO := Lib.hid hO
    clear hM he hO
    go_wp2_with (first
      | (go_at_call 81; refine (HM.out _ hb0).mono ?_; rintro r w1 ⟨rfl, hb1⟩; have hb2 := hb0.trans (hb1.mono hb0.size); obtain ⟨⟨s0, s1, s2, s3⟩, -, -⟩ := four_c (heap_below hb1 hl1 HK1.out))
      | (go_at_call 82; refine (HO.out _).mono ?_; rintro r w2 ⟨rfl, hb3⟩))
    refine bodyPost_ret (v := .tuple #[.bool (otherB m), .int .i64 0]) (by simp [results, Tryz.results31, go_sem]) rfl ⟨rfl, hb2.trans (hb3.mono hb2.size)⟩
  · rw [if_pos he]
    have hne : (((moveE a m : Nat) : Int) != 0) = true := by simp; omega
    clear he
    generalize moveE a m = e at *
    obtain ⟨A, cap, rfl, -⟩ := hin.sl
    clear hin
    obtain ⟨k0, k1⟩ := blocks2 w (.cells #[.slice A a.ids.length cap, .bool a.root.cell, .int .i64 a.root.n, .bool a.jumps] 26) (.cells #[.int .i64 m.id, .int .i64 m.arg, .int .u8 (m.kind : Int), .int .i64 m.n] 40)
    have hb0 : Below w.heap.size w ((w.alloc (.cells #[.slice A a.ids.length cap, .bool a.root.cell, .int .i64 a.root.n, .bool a.jumps] 26)).alloc (.cells #[.int .i64 m.id, .int .i64 m.arg, .int .u8 (m.kind : Int), .int .i64 m.n] 40)) := below_two
    unfold arV mvV at *
    go_enter Tryz.func31, Tryz.ntmps31
    go_upto_region 1 with (fail)
    generalize (w.alloc (.cells #[.slice A a.ids.length cap, .bool a.root.cell, .int .i64 a.root.n, .bool a.jumps] 26)).alloc (.cells #[.int .i64 m.id, .int .i64 m.arg, .int .u8 (m.kind : Int), .int .i64 m.n] 40) = V at k0 k1 hb0 ⊢
    obtain ⟨⟨c0, c1, c2, c3⟩, -, hl0⟩ := four_c k0
    obtain ⟨⟨d0, d1, d2, d3⟩, -, hl1⟩ := four_c k1
    have HK0 := Lib.hid k0
    have HK1 := Lib.hid k1
    clear k0 k1
    have HM := Lib.hid hM
    clear hM hO
    go_wp2_with (go_at_call 81; refine (HM.out _ hb0).mono ?_; rintro r w1 ⟨rfl, hb1⟩)
    refine bodyPost_ret (v := .tuple #[.bool false, .int .i64 (e : Int)]) (by simp [results, Tryz.results31, go_sem]) rfl ⟨rfl, hb0.trans (hb1.mono hb0.size)⟩

/-- The answers of a question, and the error. -/
def ansR (a : Ar) (m : Mv) : List Mv × Nat := if moveE a m ≠ 0 then ([], moveE a m) else if askB m = false then ([], 2) else (toldA a m.id m.arg m.kind, 0)
theorem nil_in (w : World) : SlM w (.slice none 0 0) [] := ⟨none, 0, rfl, fun h => absurd h (by simp)⟩
theorem moveE_right {a : Ar} {m : Mv} (h : moveE a m = 0) : Right a := by
  unfold moveE at h
  split at h
  · contradiction
  · rename_i h1; exact right_of (by simpa using h1)

set_option maxRecDepth 100000 in
set_option maxHeartbeats 1000000 in
theorem refAnswers_any (ids : Value) (a : Ar) (m : Mv) (w : World) (hin : ArIn w ids a) :
    Calls Tryz.prog 32 #[arV ids a, mvV m] w fun r w' => ∃ v, r = .returned (.tuple #[v, .int .i64 ((ansR a m).2 : Int)]) ∧ SlM w' v (ansR a m).1 ∧ Below w.heap.size w w' := by
  have hM := fun W (hb : Below w.heap.size w W) => refMove_any ids a m W (hin.below hb)
  have hA := fun W => refAsk_any m W
  have hT : moveE a m = 0 → ∀ W, Below w.heap.size w W → Calls Tryz.prog 84 #[arV ids a, .int .i64 m.id, .int .i64 m.arg, .int .u8 (m.kind : Int)] W fun e w' => ∃ v, e = .returned v ∧ w'.ownsRow W.heap.size 40 4 v (toldA a m.id m.arg m.kind).length (mvCells (toldA a m.id m.arg m.kind)) ∧ Below W.heap.size W w' := fun h W hb =>
    refTold_any ids a m.id m.arg m.kind W (hin.below hb) (fun p hp => plAt_right (moveE_right h) hp)
  unfold ansR
  by_cases he : moveE a m = 0
  · rw [if_neg (by simp [he])]
    have HT := Lib.hid (hT he)
    rw [he] at hM
    have HM := Lib.hid hM
    clear hM he hT
    cases hk : askB m
    · rw [if_pos rfl]
      obtain ⟨A, cap, rfl, -⟩ := hin.sl
      clear hin
      obtain ⟨k0, k1⟩ := blocks2 w (.cells #[.slice A a.ids.length cap, .bool a.root.cell, .int .i64 a.root.n, .bool a.jumps] 26) (.cells #[.int .i64 m.id, .int .i64 m.arg, .int .u8 (m.kind : Int), .int .i64 m.n] 40)
      have hb0 : Below w.heap.size w ((w.alloc (.cells #[.slice A a.ids.length cap, .bool a.root.cell, .int .i64 a.root.n, .bool a.jumps] 26)).alloc (.cells #[.int .i64 m.id, .int .i64 m.arg, .int .u8 (m.kind : Int), .int .i64 m.n] 40)) := below_two
      unfold arV mvV at *
      go_enter Tryz.func32, Tryz.ntmps32
      go_upto_region 1 with (fail)
      generalize (w.alloc (.cells #[.slice A a.ids.length cap, .bool a.root.cell, .int .i64 a.root.n, .bool a.jumps] 26)).alloc (.cells #[.int .i64 m.id, .int .i64 m.arg, .int .u8 (m.kind : Int), .int .i64 m.n] 40) = V at k0 k1 hb0 ⊢
      obtain ⟨⟨c0, c1, c2, c3⟩, -, hl0⟩ := four_c k0
      obtain ⟨⟨d0, d1, d2, d3⟩, -, hl1⟩ := four_c k1
      have HK0 := Lib.hid k0
      have HK1 := Lib.hid k1
      clear k0 k1
      rw [hk] at hA
      have HA := Lib.hid hA
      clear hA hk HT
      go_wp2_with (first
        | (go_at_call 81; refine (HM.out _ hb0).mono ?_; rintro r w1 ⟨rfl, hb1⟩; have hb2 := hb0.trans (hb1.mono hb0.size); obtain ⟨⟨s0, s1, s2, s3⟩, -, -⟩ := four_c (heap_below hb1 hl1 HK1.out))
        | (go_at_call 83; refine (HA.out _).mono ?_; rintro r w2 ⟨rfl, hb3⟩))
      refine bodyPost_ret (v := .tuple #[.slice none 0 0, .int .i64 2]) (by simp [results, Tryz.results32, go_sem]) rfl ⟨_, rfl, nil_in _, hb2.trans (hb3.mono hb2.size)⟩
    · rw [if_neg (by simp)]
      have HT := Lib.hid (HT.out)
      show Calls _ _ _ _ fun r w' => ∃ v, r = .returned (.tuple #[v, .int .i64 0]) ∧ SlM w' v (toldA a m.id m.arg m.kind) ∧ Below w.heap.size w w'
      have HT := HT.out
      generalize toldA a m.id m.arg m.kind = L at *
      have HT := Lib.hid HT
      obtain ⟨A, cap, rfl, -⟩ := hin.sl
      clear hin
      obtain ⟨k0, k1⟩ := blocks2 w (.cells #[.slice A a.ids.length cap, .bool a.root.cell, .int .i64 a.root.n, .bool a.jumps] 26) (.cells #[.int .i64 m.id, .int .i64 m.arg, .int .u8 (m.kind : Int), .int .i64 m.n] 40)
      have hb0 : Below w.heap.size w ((w.alloc (.cells #[.slice A a.ids.length cap, .bool a.root.cell, .int .i64 a.root.n, .bool a.jumps] 26)).alloc (.cells #[.int .i64 m.id, .int .i64 m.arg, .int .u8 (m.kind : Int), .int .i64 m.n] 40)) := below_two
      unfold arV mvV at *
      go_enter Tryz.func32, Tryz.ntmps32
      go_upto_region 1 with (fail)
      generalize (w.alloc (.cells #[.slice A a.ids.length cap, .bool a.root.cell, .int .i64 a.root.n, .bool a.jumps] 26)).alloc (.cells #[.int .i64 m.id, .int .i64 m.arg, .int .u8 (m.kind : Int), .int .i64 m.n] 40) = V at k0 k1 hb0 ⊢
      obtain ⟨⟨c0, c1, c2, c3⟩, -, hl0⟩ := four_c k0
      obtain ⟨⟨d0, d1, d2, d3⟩, -, hl1⟩ := four_c k1
      have HK0 := Lib.hid k0
      have HK1 := Lib.hid k1
      clear k0 k1
      rw [hk] at hA
      have HA := Lib.hid hA
      clear hA hk
      go_wp2_with (first
        | (go_at_call 81; refine (HM.out _ hb0).mono ?_; rintro r w1 ⟨rfl, hb1⟩; have hb2 := hb0.trans (hb1.mono hb0.size); have z0 := heap_below hb1 hl0 HK0.out; have z1 := heap_below hb1 hl1 HK1.out; obtain ⟨⟨s0, s1, s2, s3⟩, -, y1⟩ := four_c z1; have y0 := (Array.getElem?_eq_some_iff.1 z0).1; have Z0 := Lib.hid z0; have Z1 := Lib.hid z1; clear z0 z1)
        | (go_at_call 83; refine (HA.out _).mono ?_; rintro r w2 ⟨rfl, hb3⟩; have hb4 := hb2.trans (hb3.mono hb2.size); obtain ⟨⟨t0, t1, t2, t3⟩, -, -⟩ := four_c (heap_below hb3 y1 Z1.out); obtain ⟨⟨u0, u1, u2, u3⟩, -, -⟩ := four_c (heap_below hb3 y0 Z0.out))
        | (go_at_call 84; refine (HT.out _ hb4).mono ?_; rintro r w3 ⟨v, rfl, hown, hb5⟩; have hsl := SlM.of_own hown; obtain ⟨Av, cv, rfl⟩ := own_slice hown))
      refine bodyPost_ret (v := .tuple #[.slice Av L.length cv, .int .i64 0]) (by simp [results, Tryz.results32, go_sem]) rfl ⟨_, rfl, hsl, hb4.trans (hb5.mono hb4.size)⟩
  · rw [if_pos he]
    have hne : (((moveE a m : Nat) : Int) != 0) = true := by simp; omega
    clear he hT
    generalize moveE a m = e at *
    obtain ⟨A, cap, rfl, -⟩ := hin.sl
    clear hin
    obtain ⟨k0, k1⟩ := blocks2 w (.cells #[.slice A a.ids.length cap, .bool a.root.cell, .int .i64 a.root.n, .bool a.jumps] 26) (.cells #[.int .i64 m.id, .int .i64 m.arg, .int .u8 (m.kind : Int), .int .i64 m.n] 40)
    have hb0 : Below w.heap.size w ((w.alloc (.cells #[.slice A a.ids.length cap, .bool a.root.cell, .int .i64 a.root.n, .bool a.jumps] 26)).alloc (.cells #[.int .i64 m.id, .int .i64 m.arg, .int .u8 (m.kind : Int), .int .i64 m.n] 40)) := below_two
    unfold arV mvV at *
    go_enter Tryz.func32, Tryz.ntmps32
    go_upto_region 1 with (fail)
    generalize (w.alloc (.cells #[.slice A a.ids.length cap, .bool a.root.cell, .int .i64 a.root.n, .bool a.jumps] 26)).alloc (.cells #[.int .i64 m.id, .int .i64 m.arg, .int .u8 (m.kind : Int), .int .i64 m.n] 40) = V at k0 k1 hb0 ⊢
    obtain ⟨⟨c0, c1, c2, c3⟩, -, hl0⟩ := four_c k0
    obtain ⟨⟨d0, d1, d2, d3⟩, -, hl1⟩ := four_c k1
    have HK0 := Lib.hid k0
    have HK1 := Lib.hid k1
    clear k0 k1
    have HM := Lib.hid hM
    clear hM hA
    go_wp2_with (go_at_call 81; refine (HM.out _ hb0).mono ?_; rintro r w1 ⟨rfl, hb1⟩)
    refine bodyPost_ret (v := .tuple #[.slice none 0 0, .int .i64 (e : Int)]) (by simp [results, Tryz.results32, go_sem]) rfl ⟨_, rfl, nil_in _, hb0.trans (hb1.mono hb0.size)⟩

end Go.Proofs.YtoncdnelacolaaaGreatDoor.Ar

namespace Go.Proofs.YtoncdnelacolaaaGreatDoor.Ar
open Go Go.Proofs Go.RowKit Go.Sort Lx Ps

theorem own_some {W : World} {base : Nat} {v : Value} {l : List Mv} (h : W.ownsRow base 40 4 v l.length (mvCells l)) (hn : 0 < l.length) :
    ∃ g cap, v = .slice (some ⟨g, 0, none⟩) l.length cap ∧ ∀ j u, (mvCells l)[j]? = some u → W.cell? ((⟨g, 0, none⟩ : Addr).add j) = some u := by
  have hlen := h.1
  obtain ⟨k, hk⟩ : ∃ k, l.length = k + 1 := ⟨l.length - 1, by omega⟩
  rw [hk] at h hlen ⊢
  obtain ⟨g, cap, rfl⟩ := row_succ h
  refine ⟨g, cap, rfl, fun j u hu => ?_⟩
  have hj : j < (k + 1) * 4 := by have := (List.getElem?_eq_some_iff.1 hu).1; omega
  have := World.ownsRow.cellAt h j hj
  rw [show (⟨g, 0, none⟩ : Addr).add j = ⟨g, j, none⟩ by simp [Addr.add]; omega]
  exact this.trans hu
theorem mvs_one (l : List Mv) : ∀ u ∈ mvCells l, u.oneCell' = true := fun u hu => by
  unfold mvCells at hu
  obtain ⟨m, _, hm⟩ := List.mem_flatMap.1 hu
  simp [mvVals] at hm
  rcases hm with rfl | rfl | rfl | rfl <;> rfl
theorem questP_pos (p : Pl) : 0 < (questP p).length := by unfold questP; simp
theorem mvCells_len (l : List Mv) : (mvCells l).length = l.length * 4 := by
  induction l with
  | nil => rfl
  | cons x r ih => show (mvVals x ++ mvCells r).length = _; rw [List.length_append, ih]; simp [mvVals]; omega

set_option maxRecDepth 100000 in
set_option maxHeartbeats 2000000 in
theorem below_ids (ids : Value) (a : Ar) (m : Mv) (w : World) (hin : ArIn w ids a) (hR : Right a) (hc : ¬ (0 < m.id ∧ m.arg = 0)) :
    Calls Tryz.prog 85 #[arV ids a, mvV m] w fun e w' => ∃ v, e = .returned v ∧ w'.ownsRow w.heap.size 40 4 v (belowA a m.id m.arg).length (mvCells (belowA a m.id m.arg)) ∧ Below w.heap.size w w' := by
  have hQ : ∀ n, n < a.ids.length → ∀ W, Below w.heap.size w W → Calls Tryz.prog 86 #[arV ids a, .int .i64 ((n : Int) + 1), .int .i64 0] W fun e w' => ∃ v, e = .returned v ∧ w'.ownsRow W.heap.size 40 4 v (questA a ((n : Int) + 1) 0).length (mvCells (questA a ((n : Int) + 1) 0)) ∧ Below W.heap.size W w' := fun n _ W hb =>
    refQuestions_any ids a _ _ W (hin.below hb) (fun p hp => plAt_right hR hp)
  have hpos : ∀ n, n < a.ids.length → 0 < (questA a ((n : Int) + 1) 0).length := fun n hn => by
    rw [questA_some (by rw [show ((n : Int) + 1) = ((n + 1 : Nat) : Int) from by omega]; exact plAt_id (id := n + 1) (by omega) (List.getElem?_eq_getElem (by simpa using hn)))]
    exact questP_pos _
  have hlen1 := hR.ids
  have hql := fun n : Nat => questA_len hR ((n : Int) + 1) 0
  have hst : ∀ n : Nat, (List.range (n + 1)).flatMap (fun (k : Nat) => questA a ((k : Int) + 1) 0) = (List.range n).flatMap (fun (k : Nat) => questA a ((k : Int) + 1) 0) ++ questA a ((n : Int) + 1) 0 := fun n => by rw [List.range_succ, List.flatMap_append, List.flatMap_singleton]
  have hbe : belowA a m.id m.arg = (List.range a.ids.length).flatMap fun (k : Nat) => questA a ((k : Int) + 1) 0 := by unfold belowA; rw [if_neg hc]
  rw [hbe]
  clear hbe
  have HZ := Lib.hid (show (List.range 0).flatMap (fun (k : Nat) => questA a ((k : Int) + 1) 0) = [] from rfl)
  generalize hPRE : (fun n : Nat => (List.range n).flatMap fun (k : Nat) => questA a ((k : Int) + 1) 0) = PRE at *
  have hP : ∀ n : Nat, (List.range n).flatMap (fun (k : Nat) => questA a ((k : Int) + 1) 0) = PRE n := fun n => by rw [← hPRE]
  rw [hP]
  simp only [hP] at hst HZ
  clear hP hPRE
  obtain ⟨i0, hii, hz0, hz1, hz2⟩ := info_parts mv_info
  obtain ⟨A, cap, rfl, -⟩ := hin.sl
  clear hin hR
  obtain ⟨mid, marg, mk, mn⟩ := m
  have HST := Lib.hid hst
  have HQ := Lib.hid hQ
  have HPS := Lib.hid hpos
  have HQL := Lib.hid hql
  clear hst hQ hpos hql
  obtain ⟨k0, k1⟩ := blocks2 w (.cells #[.slice A a.ids.length cap, .bool a.root.cell, .int .i64 a.root.n, .bool a.jumps] 26) (.cells #[.int .i64 mid, .int .i64 marg, .int .u8 (mk : Int), .int .i64 mn] 40)
  have hb0 : Below w.heap.size w ((w.alloc (.cells #[.slice A a.ids.length cap, .bool a.root.cell, .int .i64 a.root.n, .bool a.jumps] 26)).alloc (.cells #[.int .i64 mid, .int .i64 marg, .int .u8 (mk : Int), .int .i64 mn] 40)) := below_two
  have hsz0 : ((w.alloc (.cells #[.slice A a.ids.length cap, .bool a.root.cell, .int .i64 a.root.n, .bool a.jumps] 26)).alloc (.cells #[.int .i64 mid, .int .i64 marg, .int .u8 (mk : Int), .int .i64 mn] 40)).heap.size = w.heap.size + 2 := by simp
  unfold arV mvV at *
  go_enter Tryz.func85, Tryz.ntmps85
  go_upto_region 1 with (fail)
  generalize (w.alloc (.cells #[.slice A a.ids.length cap, .bool a.root.cell, .int .i64 a.root.n, .bool a.jumps] 26)).alloc (.cells #[.int .i64 mid, .int .i64 marg, .int .u8 (mk : Int), .int .i64 mn] 40) = V at k0 k1 hb0 hsz0 ⊢
  obtain ⟨⟨c0, c1, c2, c3⟩, -, hl0⟩ := four_c k0
  obtain ⟨⟨d0, d1, d2, d3⟩, -, hl1⟩ := four_c k1
  have HK0 := Lib.hid k0
  have HK1 := Lib.hid k1
  clear k0 k1
  by_cases h1 : 0 < mid
  · have e1 : ((marg : Int) == 0) = false := by simp; intro e; exact hc ⟨h1, e⟩
    clear hc
    go_wp2
    go_loopw [5, 7] (fun u c wr => ∃ (n : Nat) (L : List Mv), n ≤ a.ids.length ∧ c = .int .i64 ((n : Int) + 1) ∧ L = PRE n ∧ L.length ≤ n * 1000 ∧ wr.ownsRow (w.heap.size + 2) 40 4 u L.length (mvCells L) ∧ Below w.heap.size w wr ∧ w.heap.size + 2 ≤ wr.heap.size ∧ wr.heap[w.heap.size]? = some (.cells #[.slice A a.ids.length cap, .bool a.root.cell, .int .i64 a.root.n, .bool a.jumps] 26 (0, 0)) ∧ wr.heap[w.heap.size + 1]? = some (.cells #[.int .i64 mid, .int .i64 marg, .int .u8 (mk : Int), .int .i64 mn] 40 (0, 0))) (fun _ c _ => a.ids.length + 1 - (intOf c).toNat)
    case atStart => exact ⟨0, [], Nat.zero_le _, rfl, HZ.out.symm, Nat.zero_le _, World.ownsRow_nil _ _ _ _, hb0, by omega, HK0.out, HK1.out⟩
    case round =>
      clear hb0 HK0 HK1 c0 c1 c2 c3 d0 d1 d2 d3 hl0 hl1 hsz0 HZ
      obtain ⟨n, L, hn, rfl, hLe, hLl, hown, hb, hsr, hr0, hr1⟩ := hrel
      obtain ⟨Ao, co, rfl⟩ := own_slice hown
      have HO := Lib.hid hown
      have HLE := Lib.hid hLe
      have HR0 := Lib.hid hr0
      have HR1 := Lib.hid hr1
      obtain ⟨⟨r0, r1, r2, r3⟩, -, x0⟩ := four_c hr0
      obtain ⟨⟨s0, s1, s2, s3⟩, -, x1⟩ := four_c hr1
      clear hown hLe hr0 hr1
      by_cases hlt : n < a.ids.length
      · have hlt' : ((n : Int) + 1) ≤ (a.ids.length : Int) := by omega
        have hqe : questA a ((n : Int) + 1) 0 = questA a ((n : Int) + 1) 0 := rfl
        have HSTEP := Lib.hid (HST.out n)
        have hq2 := HPS.out n hlt
        have hq3 := HQL.out n
        generalize hQQ : questA a ((n : Int) + 1) 0 = Q at HSTEP hq2 hq3
        have HQE := Lib.hid hQQ
        have HPOS := Lib.hid hq2
        clear hQQ hqe hq2
        go_wp2_with (first
          | (go_at_call 86; refine (HQ.out n hlt wr hb).mono ?_; rintro r w1 ⟨vq, rfl, hownq, hb1⟩; rw [HQE.out] at hownq; obtain ⟨gq, capq, rfl, hnq⟩ := own_some hownq HPOS.out; have HNQ := Lib.hid hnq; have HS := Lib.hid (own_below HO.out hb1); have hsz1 := hb1.size)
          | (at_builtin; refine wpList_append_own _ rfl _ _ 32 rfl (w.heap.size + 2) 40 i0 _ 4 32 Tryz.underlying32 hii hz0 hz1 hz2 rfl (by decide) _ _ _ rfl HS.out ⟨gq, 0, none⟩ Q.length capq (mvCells Q) rfl (mvCells_len Q) HNQ.out (mvs_one Q) (by unfold maxLen; omega) (by omega) (by omega) ?_; intro v2 w2 hown2 hgrow _))
        go_roundw
        case rel =>
          refine ⟨n + 1, L ++ Q, by omega, by go_num, by rw [HLE.out, HSTEP.out], by rw [List.length_append]; omega, by rw [mvCells_append, List.length_append]; exact hown2, (hb.trans (hb1.mono hb.size)).grown hgrow (Nat.le_trans hb.size hb1.size) (fun j e => by have := (own_block HS.out e).1; omega), by have := hgrow.size; omega, ?_, ?_⟩
          · rw [hgrow.block _ (by omega) (fun e => by have := (own_block HS.out e.symm).1; omega)]
            exact heap_below hb1 x0 HR0.out
          · rw [hgrow.block _ (by omega) (fun e => by have := (own_block HS.out e.symm).1; omega)]
            exact heap_below hb1 x1 HR1.out
        case measure => simp [intOf]; omega
      · have hkN : n = a.ids.length := by omega
        have hlt' : ¬ ((n : Int) + 1) ≤ (a.ids.length : Int) := by omega
        have HLE2 := Lib.hid (show PRE a.ids.length = L by rw [HLE.out, hkN])
        clear hkN
        go_wp2
        go_ret
        exact ⟨_, rfl, by rw [HLE2.out]; exact World.ownsRow.mono HO.out (by omega), hb⟩
  · clear hc
    go_wp2
    go_loopw [5, 7] (fun u c wr => ∃ (n : Nat) (L : List Mv), n ≤ a.ids.length ∧ c = .int .i64 ((n : Int) + 1) ∧ L = PRE n ∧ L.length ≤ n * 1000 ∧ wr.ownsRow (w.heap.size + 2) 40 4 u L.length (mvCells L) ∧ Below w.heap.size w wr ∧ w.heap.size + 2 ≤ wr.heap.size ∧ wr.heap[w.heap.size]? = some (.cells #[.slice A a.ids.length cap, .bool a.root.cell, .int .i64 a.root.n, .bool a.jumps] 26 (0, 0)) ∧ wr.heap[w.heap.size + 1]? = some (.cells #[.int .i64 mid, .int .i64 marg, .int .u8 (mk : Int), .int .i64 mn] 40 (0, 0))) (fun _ c _ => a.ids.length + 1 - (intOf c).toNat)
    case atStart => exact ⟨0, [], Nat.zero_le _, rfl, HZ.out.symm, Nat.zero_le _, World.ownsRow_nil _ _ _ _, hb0, by omega, HK0.out, HK1.out⟩
    case round =>
      clear hb0 HK0 HK1 c0 c1 c2 c3 d0 d1 d2 d3 hl0 hl1 hsz0 HZ
      obtain ⟨n, L, hn, rfl, hLe, hLl, hown, hb, hsr, hr0, hr1⟩ := hrel
      obtain ⟨Ao, co, rfl⟩ := own_slice hown
      have HO := Lib.hid hown
      have HLE := Lib.hid hLe
      have HR0 := Lib.hid hr0
      have HR1 := Lib.hid hr1
      obtain ⟨⟨r0, r1, r2, r3⟩, -, x0⟩ := four_c hr0
      obtain ⟨⟨s0, s1, s2, s3⟩, -, x1⟩ := four_c hr1
      clear hown hLe hr0 hr1
      by_cases hlt : n < a.ids.length
      · have hlt' : ((n : Int) + 1) ≤ (a.ids.length : Int) := by omega
        have hqe : questA a ((n : Int) + 1) 0 = questA a ((n : Int) + 1) 0 := rfl
        have HSTEP := Lib.hid (HST.out n)
        have hq2 := HPS.out n hlt
        have hq3 := HQL.out n
        generalize hQQ : questA a ((n : Int) + 1) 0 = Q at HSTEP hq2 hq3
        have HQE := Lib.hid hQQ
        have HPOS := Lib.hid hq2
        clear hQQ hqe hq2
        go_wp2_with (first
          | (go_at_call 86; refine (HQ.out n hlt wr hb).mono ?_; rintro r w1 ⟨vq, rfl, hownq, hb1⟩; rw [HQE.out] at hownq; obtain ⟨gq, capq, rfl, hnq⟩ := own_some hownq HPOS.out; have HNQ := Lib.hid hnq; have HS := Lib.hid (own_below HO.out hb1); have hsz1 := hb1.size)
          | (at_builtin; refine wpList_append_own _ rfl _ _ 32 rfl (w.heap.size + 2) 40 i0 _ 4 32 Tryz.underlying32 hii hz0 hz1 hz2 rfl (by decide) _ _ _ rfl HS.out ⟨gq, 0, none⟩ Q.length capq (mvCells Q) rfl (mvCells_len Q) HNQ.out (mvs_one Q) (by unfold maxLen; omega) (by omega) (by omega) ?_; intro v2 w2 hown2 hgrow _))
        go_roundw
        case rel =>
          refine ⟨n + 1, L ++ Q, by omega, by go_num, by rw [HLE.out, HSTEP.out], by rw [List.length_append]; omega, by rw [mvCells_append, List.length_append]; exact hown2, (hb.trans (hb1.mono hb.size)).grown hgrow (Nat.le_trans hb.size hb1.size) (fun j e => by have := (own_block HS.out e).1; omega), by have := hgrow.size; omega, ?_, ?_⟩
          · rw [hgrow.block _ (by omega) (fun e => by have := (own_block HS.out e.symm).1; omega)]
            exact heap_below hb1 x0 HR0.out
          · rw [hgrow.block _ (by omega) (fun e => by have := (own_block HS.out e.symm).1; omega)]
            exact heap_below hb1 x1 HR1.out
        case measure => simp [intOf]; omega
      · have hkN : n = a.ids.length := by omega
        have hlt' : ¬ ((n : Int) + 1) ≤ (a.ids.length : Int) := by omega
        have HLE2 := Lib.hid (show PRE a.ids.length = L by rw [HLE.out, hkN])
        clear hkN
        go_wp2
        go_ret
        exact ⟨_, rfl, by rw [HLE2.out]; exact World.ownsRow.mono HO.out (by omega), hb⟩

set_option maxRecDepth 100000 in
set_option maxHeartbeats 2000000 in
theorem below_args (ids : Value) (a : Ar) (k : Nat) (mk : Nat) (mn : Int) (t : Ty) (w : World) (hin : ArIn w ids a) (hR : Right a) (ht : a.ids[k]? = some t) :
    Calls Tryz.prog 85 #[arV ids a, mvV ⟨(k : Int) + 1, 0, mk, mn⟩] w fun e w' => ∃ v, e = .returned v ∧ w'.ownsRow w.heap.size 40 4 v (belowA a ((k : Int) + 1) 0).length (mvCells (belowA a ((k : Int) + 1) 0)) ∧ Below w.heap.size w w' := by
  have hk := (List.getElem?_eq_some_iff.1 ht).1
  have hQ : ∀ n, n < t.params.length → ∀ W, Below w.heap.size w W → Calls Tryz.prog 86 #[arV ids a, .int .i64 ((k : Int) + 1), .int .i64 ((n : Int) + 1)] W fun e w' => ∃ v, e = .returned v ∧ w'.ownsRow W.heap.size 40 4 v (questA a ((k : Int) + 1) ((n : Int) + 1)).length (mvCells (questA a ((k : Int) + 1) ((n : Int) + 1))) ∧ Below W.heap.size W w' := fun n _ W hb =>
    refQuestions_any ids a _ _ W (hin.below hb) (fun p hp => plAt_right hR hp)
  have hqp : ∀ n (hn : n < t.params.length), questA a ((k : Int) + 1) ((n : Int) + 1) = questP ⟨t.params[n], k + 1, n + 1, true⟩ := fun n hn =>
    questA_some (by rw [show ((n : Int) + 1) = ((n + 1 : Nat) : Int) from by omega, show ((k : Int) + 1) = ((k + 1 : Nat) : Int) from by omega]; exact plAt_param (by omega) (by omega) (by rw [Nat.add_sub_cancel]; exact ht) (by rw [Nat.add_sub_cancel]; exact List.getElem?_eq_getElem hn))
  have hpos : ∀ n, n < t.params.length → 0 < (questA a ((k : Int) + 1) ((n : Int) + 1)).length := fun n hn => by rw [hqp n hn]; exact questP_pos _
  have hlen1 := hR.ids
  have hlen2 := hR.params t (List.mem_of_getElem? ht)
  have hql := fun n : Nat => questA_len hR ((k : Int) + 1) ((n : Int) + 1)
  have hst : ∀ n : Nat, n < t.params.length → ((paramsFrom (k + 1) 1 t.params).take (n + 1)).flatMap questP = ((paramsFrom (k + 1) 1 t.params).take n).flatMap questP ++ questA a ((k : Int) + 1) ((n : Int) + 1) := fun n hn => by
    have hl : n < (paramsFrom (k + 1) 1 t.params).length := by rw [paramsFrom_length]; exact hn
    rw [take_flat questP hl, hqp n hn]
    have := paramsFrom_get (k + 1) t.params 1 n
    rw [List.getElem?_eq_getElem hl, List.getElem?_eq_getElem hn, Option.map_some, Option.some.injEq] at this
    rw [this, Nat.add_comm 1 n]
  have hbe : belowA a ((k : Int) + 1) 0 = ((paramsFrom (k + 1) 1 t.params).take t.params.length).flatMap questP := by
    have e : ((k : Int) + 1).toNat = k + 1 := by omega
    unfold belowA
    rw [if_pos ⟨by omega, rfl⟩, e, show k + 1 - 1 = k from rfl, ht]
    simp only
    rw [List.take_of_length_le (by rw [paramsFrom_length]; exact Nat.le_refl _)]
  rw [hbe]
  clear hbe hqp
  have HZ := Lib.hid (show ((paramsFrom (k + 1) 1 t.params).take 0).flatMap questP = [] from rfl)
  generalize hPRE : (fun n : Nat => ((paramsFrom (k + 1) 1 t.params).take n).flatMap questP) = PRE at *
  have hP : ∀ n : Nat, ((paramsFrom (k + 1) 1 t.params).take n).flatMap questP = PRE n := fun n => by rw [← hPRE]
  rw [hP]
  simp only [hP] at hst HZ
  clear hP hPRE
  obtain ⟨i0, hii, hz0, hz1, hz2⟩ := info_parts mv_info
  obtain ⟨A, cap, rfl, hA⟩ := hin.sl
  obtain ⟨b1, o1, rfl, hb1, hc1⟩ := hA (by omega)
  obtain ⟨pv, p0, p1, -, -⟩ := hc1 k t ht
  obtain ⟨B, cb, rfl, -⟩ := p0
  clear hin hR hA hc1 ht
  have HST := Lib.hid hst
  have HQ := Lib.hid hQ
  have HPS := Lib.hid hpos
  have HQL := Lib.hid hql
  have HB1 := Lib.hid hb1
  have HP1 := Lib.hid p1
  have hwr : IntKind.i64.wrap (((k : Int) + 1) - 1) = (k : Int) := by rw [IntWalk.i64_in _ (by omega)]; omega
  clear hst hQ hpos hql hb1 p1
  obtain ⟨k0, k1⟩ := blocks2 w (.cells #[.slice (some ⟨b1, o1, none⟩) a.ids.length cap, .bool a.root.cell, .int .i64 a.root.n, .bool a.jumps] 26) (.cells #[.int .i64 ((k : Int) + 1), .int .i64 0, .int .u8 (mk : Int), .int .i64 mn] 40)
  have hb0 : Below w.heap.size w ((w.alloc (.cells #[.slice (some ⟨b1, o1, none⟩) a.ids.length cap, .bool a.root.cell, .int .i64 a.root.n, .bool a.jumps] 26)).alloc (.cells #[.int .i64 ((k : Int) + 1), .int .i64 0, .int .u8 (mk : Int), .int .i64 mn] 40)) := below_two
  have hsz0 : ((w.alloc (.cells #[.slice (some ⟨b1, o1, none⟩) a.ids.length cap, .bool a.root.cell, .int .i64 a.root.n, .bool a.jumps] 26)).alloc (.cells #[.int .i64 ((k : Int) + 1), .int .i64 0, .int .u8 (mk : Int), .int .i64 mn] 40)).heap.size = w.heap.size + 2 := by simp
  unfold arV mvV at *
  go_enter Tryz.func85, Tryz.ntmps85
  go_upto_region 1 with (fail)
  generalize (w.alloc (.cells #[.slice (some ⟨b1, o1, none⟩) a.ids.length cap, .bool a.root.cell, .int .i64 a.root.n, .bool a.jumps] 26)).alloc (.cells #[.int .i64 ((k : Int) + 1), .int .i64 0, .int .u8 (mk : Int), .int .i64 mn] 40) = V at k0 k1 hb0 hsz0 ⊢
  obtain ⟨⟨c0, c1, c2, c3⟩, -, hl0⟩ := four_c k0
  obtain ⟨⟨d0, d1, d2, d3⟩, -, hl1⟩ := four_c k1
  have HK0 := Lib.hid k0
  have HK1 := Lib.hid k1
  clear k0 k1
  go_wp2
  go_loopw [5, 6] (fun u c wr => ∃ (n : Nat) (L : List Mv), n ≤ t.params.length ∧ c = .int .i64 ((n : Int) + 1) ∧ L = PRE n ∧ L.length ≤ n * 1000 ∧ wr.ownsRow (w.heap.size + 2) 40 4 u L.length (mvCells L) ∧ Below w.heap.size w wr ∧ w.heap.size + 2 ≤ wr.heap.size ∧ wr.heap[w.heap.size]? = some (.cells #[.slice (some ⟨b1, o1, none⟩) a.ids.length cap, .bool a.root.cell, .int .i64 a.root.n, .bool a.jumps] 26 (0, 0)) ∧ wr.heap[w.heap.size + 1]? = some (.cells #[.int .i64 ((k : Int) + 1), .int .i64 0, .int .u8 (mk : Int), .int .i64 mn] 40 (0, 0))) (fun _ c _ => t.params.length + 1 - (intOf c).toNat)
  case atStart => exact ⟨0, [], Nat.zero_le _, rfl, HZ.out.symm, Nat.zero_le _, World.ownsRow_nil _ _ _ _, hb0, by omega, HK0.out, HK1.out⟩
  case round =>
    clear hb0 HK0 HK1 c0 c1 c2 c3 d0 d1 d2 d3 hl0 hl1 hsz0 HZ
    obtain ⟨n, L, hn, rfl, hLe, hLl, hown, hb, hsr, hr0, hr1⟩ := hrel
    obtain ⟨Ao, co, rfl⟩ := own_slice hown
    have HO := Lib.hid hown
    have HLE := Lib.hid hLe
    have HR0 := Lib.hid hr0
    have HR1 := Lib.hid hr1
    obtain ⟨⟨r0, r1, r2, r3⟩, -, x0⟩ := four_c hr0
    obtain ⟨⟨s0, s1, s2, s3⟩, -, x1⟩ := four_c hr1
    have q1 := (hb.cell (p := ⟨b1, o1 + k * 3, none⟩) HB1.out).trans HP1.out
    clear hown hLe hr0 hr1
    by_cases hlt : n < t.params.length
    · have hlt' : ((n : Int) + 1) ≤ (t.params.length : Int) := by omega
      have HSTEP := Lib.hid (HST.out n hlt)
      have hq2 := HPS.out n hlt
      have hq3 := HQL.out n
      generalize hQQ : questA a ((k : Int) + 1) ((n : Int) + 1) = Q at HSTEP hq2 hq3
      have HQE := Lib.hid hQQ
      have HPOS := Lib.hid hq2
      clear hQQ hq2
      go_wp2_with (first
        | (go_at_call 86; refine (HQ.out n hlt wr hb).mono ?_; rintro r w1 ⟨vq, rfl, hownq, hb1⟩; rw [HQE.out] at hownq; obtain ⟨gq, capq, rfl, hnq⟩ := own_some hownq HPOS.out; have HNQ := Lib.hid hnq; have HS := Lib.hid (own_below HO.out hb1); have hsz1 := hb1.size)
        | (at_builtin; refine wpList_append_own _ rfl _ _ 32 rfl (w.heap.size + 2) 40 i0 _ 4 32 Tryz.underlying32 hii hz0 hz1 hz2 rfl (by decide) _ _ _ rfl HS.out ⟨gq, 0, none⟩ Q.length capq (mvCells Q) rfl (mvCells_len Q) HNQ.out (mvs_one Q) (by unfold maxLen; omega) (by omega) (by omega) ?_; intro v2 w2 hown2 hgrow _))
      go_roundw
      case rel =>
        refine ⟨n + 1, L ++ Q, by omega, by go_num, by rw [HLE.out, HSTEP.out], by rw [List.length_append]; omega, by rw [mvCells_append, List.length_append]; exact hown2, (hb.trans (hb1.mono hb.size)).grown hgrow (Nat.le_trans hb.size hb1.size) (fun j e => by have := (own_block HS.out e).1; omega), by have := hgrow.size; omega, ?_, ?_⟩
        · rw [hgrow.block _ (by omega) (fun e => by have := (own_block HS.out e.symm).1; omega)]
          exact heap_below hb1 x0 HR0.out
        · rw [hgrow.block _ (by omega) (fun e => by have := (own_block HS.out e.symm).1; omega)]
          exact heap_below hb1 x1 HR1.out
      case measure => simp [intOf]; omega
    · have hkN : n = t.params.length := by omega
      have hlt' : ¬ ((n : Int) + 1) ≤ (t.params.length : Int) := by omega
      have HLE2 := Lib.hid (show PRE t.params.length = L by rw [HLE.out, hkN])
      clear hkN
      go_wp2
      go_ret
      exact ⟨_, rfl, by rw [HLE2.out]; exact World.ownsRow.mono HO.out (by omega), hb⟩

theorem refBelow_any (ids : Value) (a : Ar) (m : Mv) (p : Pl) (w : World) (hin : ArIn w ids a) (hR : Right a) (hp : plAt a m.id m.arg = some p) :
    Calls Tryz.prog 85 #[arV ids a, mvV m] w fun e w' => ∃ v, e = .returned v ∧ w'.ownsRow w.heap.size 40 4 v (belowA a m.id m.arg).length (mvCells (belowA a m.id m.arg)) ∧ Below w.heap.size w w' := by
  by_cases hc : 0 < m.id ∧ m.arg = 0
  · obtain ⟨mid, marg, mk, mn⟩ := m
    simp only at hc hp ⊢
    obtain ⟨h1, rfl⟩ := hc
    have hle : mid ≤ a.ids.length := by
      refine Int.not_lt.1 fun h => ?_
      rw [plAt_none_id (by omega) (.inr h)] at hp
      cases hp
    obtain ⟨k, rfl⟩ : ∃ k : Nat, mid = (k : Int) + 1 := ⟨(mid - 1).toNat, by omega⟩
    exact below_args ids a k mk mn _ w hin hR (List.getElem?_eq_getElem (by omega))
  · exact below_ids ids a m w hin hR hc

end Go.Proofs.YtoncdnelacolaaaGreatDoor.Ar
