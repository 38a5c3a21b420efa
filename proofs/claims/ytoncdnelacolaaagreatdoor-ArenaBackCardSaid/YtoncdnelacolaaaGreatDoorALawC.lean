/- ArenaPlaces: the base type of any place, the arena of what stands for any identifier. -/
import Derived.Test.YtoncdnelacolaaaGreatDoorAAwake
import Derived.Test.YtoncdnelacolaaaGreatDoorARefG
import Derived.Deep.DeepCutAuto
namespace Go.Proofs.YtoncdnelacolaaaGreatDoor.Ar
open Go Go.Proofs Go.RowKit Go.Sort Lx Ps

/-- A block that is there stays behind a call and a new block. -/
theorem row_next {U W : World} {b : Nat} {o x : Obj} (hb : Below U.heap.size U W) (h : U.heap[b]? = some o) : (W.alloc x).heap[b]? = some o :=
  (Below.heap_alloc W x _ (Nat.lt_of_lt_of_le (Array.getElem?_eq_some_iff.1 h).1 hb.size)).trans (heap_below hb (Array.getElem?_eq_some_iff.1 h).1 h)
theorem below_next {w U W : World} (h : Below w.heap.size w U) (hb : Below U.heap.size U W) (x : Obj) : Below w.heap.size w (W.alloc x) :=
  (h.trans (hb.mono h.size)).alloc (Nat.le_trans h.size hb.size) x
theorem ArIn.next {U W : World} {v : Value} {a : Ar} {x : Obj} (h : ArIn U v a) (hb : Below U.heap.size U W) : ArIn (W.alloc x) v a :=
  h.below (hb.alloc hb.size x)
theorem foR_form (a : Ar) (id arg : Int) : ∃ (b : Bs) (e : Nat), foR a id arg = .tuple #[.agg #[.bool b.cell, .int .i64 b.n], .int .i64 (e : Int)] := by
  unfold foR
  split
  · exact ⟨⟨false, 0⟩, _, rfl⟩
  · split
    · exact ⟨⟨false, 0⟩, 7, rfl⟩
    · rename_i p _
      exact ⟨p.base, 0, rfl⟩
theorem innR_len (a : Ar) (id : Int) (h : ∀ t ∈ a.ids, t.params.length ≤ 1000) : (innR a id).1.ids.length ≤ 1000 ∧ ∀ t ∈ (innR a id).1.ids, t.params.length ≤ 1000 := by
  unfold innR
  split
  · exact ⟨by simp [zeroA], fun t ht => by cases ht⟩
  · split
    · exact ⟨by simp [zeroA], fun t ht => by cases ht⟩
    · split
      · exact ⟨by simp [zeroA], fun t ht => by cases ht⟩
      · rename_i t ht
        have := h t (List.mem_of_getElem? ht)
        exact ⟨by rw [List.length_map]; exact this, fun y hy => by obtain ⟨b, _, rfl⟩ := List.mem_map.1 hy; simp⟩
theorem thin_len {a : Ar} (h : thinB a = true) : a.ids.length ≤ 1000 ∧ ∀ t ∈ a.ids, t.params.length ≤ 1000 := by
  unfold thinB at h
  rw [Bool.and_eq_true, decide_eq_true_eq, Bool.not_eq_true', List.any_eq_false] at h
  exact ⟨by omega, fun t ht => by have := h.2 t ht; simp at this; omega⟩

set_option maxRecDepth 100000 in
set_option maxHeartbeats 2000000 in
theorem arenaPlaces_any (ids : Value) (a : Ar) (id arg : Int) (w : World) (hin : ArIn w ids a) (hG : Ga w) :
    Calls Tryz.prog 5 #[arV ids a, .agg #[.int .i64 id, .int .i64 arg]] w fun e w' => e = .returned (.bool true) ∧ Below w.heap.size w w' := by
  obtain ⟨b, eb, hfo⟩ := foR_form a id arg
  have hT := fun V (hb : Below w.heap.size w V) => thin_any ids a V (hin.below hb)
  obtain ⟨A, cap, rfl, -⟩ := hin.sl
  obtain ⟨k0, k1⟩ := blocks2 w (.cells #[.slice A a.ids.length cap, .bool a.root.cell, .int .i64 a.root.n, .bool a.jumps] 26) (.cells #[.int .i64 id, .int .i64 arg] 46)
  have hb0 : Below w.heap.size w ((w.alloc (.cells #[.slice A a.ids.length cap, .bool a.root.cell, .int .i64 a.root.n, .bool a.jumps] 26)).alloc (.cells #[.int .i64 id, .int .i64 arg] 46)) := below_two
  have HA := Lib.hid (fun V (hb : Below w.heap.size w V) => awake_any V (hG.next hb))
  have HIN := Lib.hid hin
  unfold arV at hT
  clear hG hin
  unfold arV
  go_enter Tryz.func5, Tryz.ntmps5
  go_upto_region 1 with (fail)
  generalize (w.alloc (.cells #[.slice A a.ids.length cap, .bool a.root.cell, .int .i64 a.root.n, .bool a.jumps] 26)).alloc (.cells #[.int .i64 id, .int .i64 arg] 46) = V at k0 k1 hb0 ⊢
  obtain ⟨⟨c0, c1, c2, c3⟩, -, hl0⟩ := four_c k0
  have HK0 := Lib.hid k0
  have HK1 := Lib.hid k1
  clear k0 k1
  cases hth : thinB a
  · rw [hth] at hT
    have HT := Lib.hid hT
    clear hT hth hfo
    go_wp2_with (first
      | (go_at_call 16; refine (HT.out _ hb0).mono ?_; rintro r w1 ⟨rfl, hb1⟩; have hb2 := hb0.trans (hb1.mono hb0.size))
      | (go_at_call 17; refine (HA.out _ hb2).mono ?_; rintro r w2 ⟨rfl, hb3⟩))
    go_ret
    exact ⟨rfl, hb2.trans (hb3.mono hb2.size)⟩
  · rw [hth] at hT
    have HT := Lib.hid hT
    obtain ⟨hl, hls⟩ := thin_len hth
    clear hT hth
    have HC := Lib.hid (fun V (hb : Below w.heap.size w V) => copy_any _ a V (HIN.out.below hb) hl hls)
    unfold arV at HC
    go_upto_region 3 with (go_at_call 16; refine (HT.out _ hb0).mono ?_; rintro r w1 ⟨rfl, hb1⟩)
    have hb2 := hb0.trans (hb1.mono hb0.size)
    have M0 := heap_below hb1 (Array.getElem?_eq_some_iff.1 HK0.out).1 HK0.out
    have M1 := heap_below hb1 (Array.getElem?_eq_some_iff.1 HK1.out).1 HK1.out
    clear c0 c1 c2 c3 HK0 HK1 hb1 hb0 hl0 HT
    obtain ⟨⟨c0, c1, c2, c3⟩, -, hl0⟩ := four_c M0
    go_upto_region 4 with (go_at_call 18; refine (HC.out _ hb2).mono ?_; rintro r w3 ⟨v5, rfl, hin5, hb3⟩; have hin5' := hin5; obtain ⟨A5, c5, rfl, -⟩ := hin5.sl)
    have N0 : (w3.alloc (.cells #[.slice A5 a.ids.length c5, .bool a.root.cell, .int .i64 a.root.n, .bool a.jumps] 26)).heap[w.heap.size]? = _ := row_next hb3 M0
    have N1 : (w3.alloc (.cells #[.slice A5 a.ids.length c5, .bool a.root.cell, .int .i64 a.root.n, .bool a.jumps] 26)).heap[w.heap.size + 1]? = _ := row_next hb3 M1
    have N5 := heap_alloc_new w3 (.cells #[.slice A5 a.ids.length c5, .bool a.root.cell, .int .i64 a.root.n, .bool a.jumps] 26)
    have hbX := below_next hb2 hb3 (.cells #[.slice A5 a.ids.length c5, .bool a.root.cell, .int .i64 a.root.n, .bool a.jumps] 26)
    have hinX : ArIn (w3.alloc (.cells #[.slice A5 a.ids.length c5, .bool a.root.cell, .int .i64 a.root.n, .bool a.jumps] 26)) (.slice A5 a.ids.length c5) a := hin5'.below ((Below.refl _ _).alloc (Nat.le_refl _) _)
    clear c0 c1 c2 c3 M0 M1 hb3 hb2 hin5 hin5' HC hl0
    generalize w3.alloc (.cells #[.slice A5 a.ids.length c5, .bool a.root.cell, .int .i64 a.root.n, .bool a.jumps] 26) = X at N0 N1 N5 hbX hinX ⊢
    generalize w3.heap.size = G5 at *
    have hP1 := apPlace_any _ a id arg X hinX
    rw [hfo] at hP1
    unfold arV at hP1
    have HP1 := Lib.hid hP1
    clear hP1
    obtain ⟨⟨d0, d1, d2, d3⟩, -, hl5⟩ := four_c N5
    have p0 := cell_of_row _ _ 0 _ _ _ N1
    have p1 := cell_of_row _ _ 1 _ _ _ N1
    go_upto_region 5 with (go_at_call 35; refine HP1.out.mono ?_; rintro r w4 ⟨rfl, hb4⟩)
    have Q0 : (w4.alloc (.cells #[.bool b.cell, .int .i64 b.n] 24)).heap[w.heap.size]? = _ := row_next hb4 N0
    have Q1 : (w4.alloc (.cells #[.bool b.cell, .int .i64 b.n] 24)).heap[w.heap.size + 1]? = _ := row_next hb4 N1
    have Q5 : (w4.alloc (.cells #[.bool b.cell, .int .i64 b.n] 24)).heap[G5]? = _ := row_next hb4 N5
    have Q6 := heap_alloc_new w4 (.cells #[.bool b.cell, .int .i64 b.n] 24)
    have hbY := below_next hbX hb4 (.cells #[.bool b.cell, .int .i64 b.n] 24)
    have hinY : ArIn (w4.alloc (.cells #[.bool b.cell, .int .i64 b.n] 24)) (.slice A5 a.ids.length c5) a := hinX.next hb4
    clear d0 d1 d2 d3 N0 N1 N5 hb4 hbX hinX HP1 hl5 p0 p1
    generalize w4.alloc (.cells #[.bool b.cell, .int .i64 b.n] 24) = Y at Q0 Q1 Q5 Q6 hbY hinY ⊢
    generalize w4.heap.size = G6 at *
    obtain ⟨hxl, hxs⟩ := innR_len a id hls
    have hI1 := apInner_any _ a id Y hinY hl hls
    have hI2 := fun V (hb : Below w.heap.size w V) => refInner_any _ a id V (HIN.out.below hb) hl hls
    generalize innR a id = xe at hxl hxs hI1 hI2
    obtain ⟨x, ex⟩ := xe
    dsimp only at hxl hxs hI1 hI2
    unfold arV at hI1 hI2
    have HI1 := Lib.hid hI1
    have HI2 := Lib.hid hI2
    clear hI1 hI2
    obtain ⟨⟨d0, d1, d2, d3⟩, -, hl5⟩ := four_c Q5
    have p0 := cell_of_row _ _ 0 _ _ _ Q1
    go_upto_region 6 with (go_at_call 36; refine HI1.out.mono ?_; rintro r w5 ⟨v8, rfl, hin8, hb5⟩; have hin8' := hin8; obtain ⟨A8, c8, rfl, -⟩ := hin8.sl)
    have N0 : (w5.alloc (.cells #[.slice A8 x.ids.length c8, .bool x.root.cell, .int .i64 x.root.n, .bool x.jumps] 26)).heap[w.heap.size]? = _ := row_next hb5 Q0
    have N1 : (w5.alloc (.cells #[.slice A8 x.ids.length c8, .bool x.root.cell, .int .i64 x.root.n, .bool x.jumps] 26)).heap[w.heap.size + 1]? = _ := row_next hb5 Q1
    have N5 : (w5.alloc (.cells #[.slice A8 x.ids.length c8, .bool x.root.cell, .int .i64 x.root.n, .bool x.jumps] 26)).heap[G5]? = _ := row_next hb5 Q5
    have N6 : (w5.alloc (.cells #[.slice A8 x.ids.length c8, .bool x.root.cell, .int .i64 x.root.n, .bool x.jumps] 26)).heap[G6]? = _ := row_next hb5 Q6
    have N8 := heap_alloc_new w5 (.cells #[.slice A8 x.ids.length c8, .bool x.root.cell, .int .i64 x.root.n, .bool x.jumps] 26)
    have hbX := below_next hbY hb5 (.cells #[.slice A8 x.ids.length c8, .bool x.root.cell, .int .i64 x.root.n, .bool x.jumps] 26)
    have hinX : ArIn (w5.alloc (.cells #[.slice A8 x.ids.length c8, .bool x.root.cell, .int .i64 x.root.n, .bool x.jumps] 26)) (.slice A5 a.ids.length c5) a := hinY.next hb5
    have hin8X : ArIn (w5.alloc (.cells #[.slice A8 x.ids.length c8, .bool x.root.cell, .int .i64 x.root.n, .bool x.jumps] 26)) (.slice A8 x.ids.length c8) x := hin8'.below ((Below.refl _ _).alloc (Nat.le_refl _) _)
    clear d0 d1 d2 d3 Q0 Q1 Q5 Q6 hb5 hbY hinY HI1 hl5 p0 hin8 hin8'
    generalize w5.alloc (.cells #[.slice A8 x.ids.length c8, .bool x.root.cell, .int .i64 x.root.n, .bool x.jumps] 26) = X at N0 N1 N5 N6 N8 hbX hinX hin8X ⊢
    generalize w5.heap.size = G8 at *
    have hF := refFound_any _ a id arg X (HIN.out.below hbX)
    rw [hfo] at hF
    unfold arV at hF
    have HF := Lib.hid hF
    clear hF hfo
    obtain ⟨⟨c0, c1, c2, c3⟩, -, hl0⟩ := four_c N0
    have p0 := cell_of_row _ _ 0 _ _ _ N1
    have p1 := cell_of_row _ _ 1 _ _ _ N1
    go_upto_region 7 with (go_at_call 37; refine HF.out.mono ?_; rintro r w6 ⟨rfl, hb6⟩)
    have Q0 : (w6.alloc (.cells #[.bool b.cell, .int .i64 b.n] 24)).heap[w.heap.size]? = _ := row_next hb6 N0
    have Q1 : (w6.alloc (.cells #[.bool b.cell, .int .i64 b.n] 24)).heap[w.heap.size + 1]? = _ := row_next hb6 N1
    have Q5 : (w6.alloc (.cells #[.bool b.cell, .int .i64 b.n] 24)).heap[G5]? = _ := row_next hb6 N5
    have Q6 : (w6.alloc (.cells #[.bool b.cell, .int .i64 b.n] 24)).heap[G6]? = _ := row_next hb6 N6
    have Q8 : (w6.alloc (.cells #[.bool b.cell, .int .i64 b.n] 24)).heap[G8]? = _ := row_next hb6 N8
    have Q10 := heap_alloc_new w6 (.cells #[.bool b.cell, .int .i64 b.n] 24)
    have hbY := below_next hbX hb6 (.cells #[.bool b.cell, .int .i64 b.n] 24)
    have hinY : ArIn (w6.alloc (.cells #[.bool b.cell, .int .i64 b.n] 24)) (.slice A5 a.ids.length c5) a := hinX.next hb6
    have hin8Y : ArIn (w6.alloc (.cells #[.bool b.cell, .int .i64 b.n] 24)) (.slice A8 x.ids.length c8) x := hin8X.next hb6
    clear c0 c1 c2 c3 N0 N1 N5 N6 N8 hb6 hbX hinX hin8X HF hl0 p0 p1
    generalize w6.alloc (.cells #[.bool b.cell, .int .i64 b.n] 24) = Y at Q0 Q1 Q5 Q6 Q8 Q10 hbY hinY hin8Y ⊢
    generalize w6.heap.size = G10 at *
    obtain ⟨⟨c0, c1, c2, c3⟩, -, hl0⟩ := four_c Q0
    have p0 := cell_of_row _ _ 0 _ _ _ Q1
    go_upto_region 8 with (go_at_call 38; refine (HI2.out _ hbY).mono ?_; rintro r w7 ⟨v12, rfl, hin12, hb7⟩; have hin12' := hin12; obtain ⟨A12, c12, rfl, -⟩ := hin12.sl)
    have N0 : (w7.alloc (.cells #[.slice A12 x.ids.length c12, .bool x.root.cell, .int .i64 x.root.n, .bool x.jumps] 26)).heap[w.heap.size]? = _ := row_next hb7 Q0
    have N5 : (w7.alloc (.cells #[.slice A12 x.ids.length c12, .bool x.root.cell, .int .i64 x.root.n, .bool x.jumps] 26)).heap[G5]? = _ := row_next hb7 Q5
    have N6 : (w7.alloc (.cells #[.slice A12 x.ids.length c12, .bool x.root.cell, .int .i64 x.root.n, .bool x.jumps] 26)).heap[G6]? = _ := row_next hb7 Q6
    have N8 : (w7.alloc (.cells #[.slice A12 x.ids.length c12, .bool x.root.cell, .int .i64 x.root.n, .bool x.jumps] 26)).heap[G8]? = _ := row_next hb7 Q8
    have N10 : (w7.alloc (.cells #[.slice A12 x.ids.length c12, .bool x.root.cell, .int .i64 x.root.n, .bool x.jumps] 26)).heap[G10]? = _ := row_next hb7 Q10
    have N12 := heap_alloc_new w7 (.cells #[.slice A12 x.ids.length c12, .bool x.root.cell, .int .i64 x.root.n, .bool x.jumps] 26)
    have hbX := below_next hbY hb7 (.cells #[.slice A12 x.ids.length c12, .bool x.root.cell, .int .i64 x.root.n, .bool x.jumps] 26)
    have hinX : ArIn (w7.alloc (.cells #[.slice A12 x.ids.length c12, .bool x.root.cell, .int .i64 x.root.n, .bool x.jumps] 26)) (.slice A5 a.ids.length c5) a := hinY.next hb7
    have hin8X : ArIn (w7.alloc (.cells #[.slice A12 x.ids.length c12, .bool x.root.cell, .int .i64 x.root.n, .bool x.jumps] 26)) (.slice A8 x.ids.length c8) x := hin8Y.next hb7
    have hin12X : ArIn (w7.alloc (.cells #[.slice A12 x.ids.length c12, .bool x.root.cell, .int .i64 x.root.n, .bool x.jumps] 26)) (.slice A12 x.ids.length c12) x := hin12'.below ((Below.refl _ _).alloc (Nat.le_refl _) _)
    clear c0 c1 c2 c3 Q0 Q1 Q5 Q6 Q8 Q10 hb7 hbY hinY hin8Y HI2 hl0 p0 hin12 hin12'
    generalize w7.alloc (.cells #[.slice A12 x.ids.length c12, .bool x.root.cell, .int .i64 x.root.n, .bool x.jumps] 26) = X at N0 N5 N6 N8 N10 N12 hbX hinX hin8X hin12X ⊢
    generalize w7.heap.size = G12 at *
    have b6 := cell_of_row _ _ 0 _ _ _ N6
    have b6' := cell_of_row _ _ 1 _ _ _ N6
    have b10 := cell_of_row _ _ 0 _ _ _ N10
    have b10' := cell_of_row _ _ 1 _ _ _ N10
    obtain ⟨⟨e0, e1, e2, e3⟩, -, -⟩ := four_c N8
    obtain ⟨⟨f0, f1, f2, f3⟩, -, -⟩ := four_c N12
    have hE := bs_self b
    have hS1 := same_eq x _ _ X hin8X hin12X hxl hxs
    have HX := Lib.hid (fun V (hb : Below X.heap.size X V) => same_eq a _ _ V ((HIN.out.below hbX).below hb) (hinX.below hb) hl hls)
    unfold arV at hS1 HX
    have HS1 := Lib.hid hS1
    have HN0 := Lib.hid N0
    have HN5 := Lib.hid N5
    clear hS1 N0 N5 N6 N8 N10 N12 hin8X hin12X hinX
    go_wp2_with (first
      | (go_at_call 17; refine (HA.out _ hbz).mono ?_; rintro r w10 ⟨rfl, hb10⟩)
      | (have hq := hb8; go_at_call 26; refine (HX.out _ hb8).mono ?_; rintro r w9 ⟨rfl, hb9⟩; have hbz := hbX.trans ((hb8.trans (hb9.mono hb8.size)).mono hbX.size))
      | (go_at_call 26; refine HS1.out.mono ?_; rintro r w8 ⟨rfl, hb8⟩; obtain ⟨⟨c0, c1, c2, c3⟩, -, -⟩ := four_c (heap_below hb8 (Array.getElem?_eq_some_iff.1 HN0.out).1 HN0.out); obtain ⟨⟨d0, d1, d2, d3⟩, -, -⟩ := four_c (heap_below hb8 (Array.getElem?_eq_some_iff.1 HN5.out).1 HN5.out)))
    go_ret
    exact ⟨rfl, hbz.trans (hb10.mono hbz.size)⟩

end Go.Proofs.YtoncdnelacolaaaGreatDoor.Ar
