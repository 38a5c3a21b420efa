/- ArenaAdds: any arena with any further types. -/
import Derived.Test.YtoncdnelacolaaaGreatDoorALawC
import Derived.Test.YtoncdnelacolaaaGreatDoorAAddD
namespace Go.Proofs.YtoncdnelacolaaaGreatDoor.Ar
open Go Go.Proofs Go.RowKit Go.Sort Lx Ps

/-- Types as an arena. -/
def arL (l : List Ty) : Ar := ⟨l, ⟨false, 0⟩, false⟩
theorem addR_len (a : Ar) (l : List Ty) (h : a.ids.length ≤ 100 ∧ ∀ t ∈ a.ids, t.params.length ≤ 1000) (h2 : l.length ≤ 100 ∧ ∀ t ∈ l, t.params.length ≤ 1000) : (addR a l).1.ids.length ≤ 1000 ∧ ∀ t ∈ (addR a l).1.ids, t.params.length ≤ 1000 := by
  unfold addR
  split
  · exact ⟨by simp [zeroA], fun t ht => by cases ht⟩
  · split
    · exact ⟨by simp [zeroA], fun t ht => by cases ht⟩
    · refine ⟨?_, fun t ht => ?_⟩
      · show (a.ids ++ l).length ≤ 1000
        rw [List.length_append]; omega
      · rcases List.mem_append.1 (show t ∈ a.ids ++ l from ht) with hh | hh
        · exact h.2 _ hh
        · exact h2.2 _ hh
theorem thin_len2 {a : Ar} (h : thinB a = true) : a.ids.length ≤ 100 ∧ ∀ t ∈ a.ids, t.params.length ≤ 1000 := by
  refine ⟨?_, (thin_len h).2⟩
  unfold thinB at h
  rw [Bool.and_eq_true, decide_eq_true_eq] at h
  omega

set_option maxRecDepth 100000 in
set_option maxHeartbeats 2000000 in
theorem arenaAdds_any (ids : Value) (a : Ar) (ts : Value) (l : List Ty) (w : World) (hin : ArIn w ids a) (hil : ArIn w ts (arL l)) (hG : Ga w) :
    Calls Tryz.prog 6 #[arV ids a, ts] w fun e w' => e = .returned (.bool true) ∧ Below w.heap.size w w' := by
  have hT := fun V (hb : Below w.heap.size w V) => thin_any ids a V (hin.below hb)
  have hT2 := fun V (hb : Below w.heap.size w V) => thin_any ts (arL l) V (hil.below hb)
  have HIN := Lib.hid hin
  have HIL := Lib.hid hil
  obtain ⟨A, cap, rfl, -⟩ := hin.sl
  obtain ⟨A1, cap1, hts, -⟩ := hil.sl
  have hts' : ts = .slice A1 l.length cap1 := hts
  clear hts
  subst hts'
  have k0 := heap_alloc_new w (.cells #[.slice A a.ids.length cap, .bool a.root.cell, .int .i64 a.root.n, .bool a.jumps] 26)
  have hb0 : Below w.heap.size w (w.alloc (.cells #[.slice A a.ids.length cap, .bool a.root.cell, .int .i64 a.root.n, .bool a.jumps] 26)) := (Below.refl _ _).alloc (Nat.le_refl _) _
  have HA := Lib.hid (fun V (hb : Below w.heap.size w V) => awake_any V (hG.next hb))
  have hT2' : ∀ V, Below w.heap.size w V → Calls Tryz.prog 16 #[.agg #[.slice A1 l.length cap1, .bool false, .int .i64 0, .bool false]] V fun e w' => e = .returned (.bool (thinB (arL l))) ∧ Below V.heap.size V w' := hT2
  unfold arV at hT
  clear hG hin hil hT2
  unfold arV
  go_enter Tryz.func6, Tryz.ntmps6
  go_upto_region 1 with (fail)
  generalize w.alloc (.cells #[.slice A a.ids.length cap, .bool a.root.cell, .int .i64 a.root.n, .bool a.jumps] 26) = V at k0 hb0 ⊢
  obtain ⟨⟨c0, c1, c2, c3⟩, -, hl0⟩ := four_c k0
  have HK0 := Lib.hid k0
  clear k0
  cases hth : thinB a
  · rw [hth] at hT
    have HT := Lib.hid hT
    clear hT hth hT2'
    go_wp2_with (first
      | (go_at_call 16; refine (HT.out _ hb0).mono ?_; rintro r w1 ⟨rfl, hb1⟩; have hb2 := hb0.trans (hb1.mono hb0.size))
      | (go_at_call 17; refine (HA.out _ hb2).mono ?_; rintro r w2 ⟨rfl, hb3⟩))
    go_ret
    exact ⟨rfl, hb2.trans (hb3.mono hb2.size)⟩
  · rw [hth] at hT
    have HT := Lib.hid hT
    clear hT
    cases hth2 : thinB (arL l)
    · rw [hth2] at hT2'
      have HT2 := Lib.hid hT2'
      clear hth hth2 hT2'
      go_wp2_with (first
        | (have hq := hb2; go_at_call 16; refine (HT2.out _ hb2).mono ?_; rintro r w2 ⟨rfl, hb3⟩; have hb4 := hb2.trans (hb3.mono hb2.size))
        | (go_at_call 16; refine (HT.out _ hb0).mono ?_; rintro r w1 ⟨rfl, hb1⟩; have hb2 := hb0.trans (hb1.mono hb0.size))
        | (go_at_call 17; refine (HA.out _ hb4).mono ?_; rintro r w3 ⟨rfl, hb5⟩))
      go_ret
      exact ⟨rfl, hb4.trans (hb5.mono hb4.size)⟩
    · rw [hth2] at hT2'
      have HT2 := Lib.hid hT2'
      have hla := thin_len2 hth
      have hll := thin_len2 hth2
      obtain ⟨hl, hls⟩ := hla
      obtain ⟨hl2, hls2⟩ := hll
      have hl2 : l.length ≤ 100 := hl2
      have hls2 : ∀ t ∈ l, t.params.length ≤ 1000 := hls2
      clear hth hth2 hT2'
      have HC := Lib.hid (fun V (hb : Below w.heap.size w V) => copy_any _ a V (HIN.out.below hb) (by omega) hls)
      have hC2 : ∀ V, Below w.heap.size w V → Calls Tryz.prog 18 #[.agg #[.slice A1 l.length cap1, .bool false, .int .i64 0, .bool false]] V fun e w' => ∃ v, e = .returned (.agg #[v, .bool false, .int .i64 0, .bool false]) ∧ ArIn w' v (arL l) ∧ Below V.heap.size V w' :=
        fun V hb => copy_any _ (arL l) V (HIL.out.below hb) (by show l.length ≤ 1000; omega) hls2
      have HC2 := Lib.hid hC2
      clear hC2
      unfold arV at HC
      go_upto_region 3 with (first
        | (have hq := hb2; go_at_call 16; refine (HT2.out _ hb2).mono ?_; rintro r w2 ⟨rfl, hb3⟩; have hb4 := hb2.trans (hb3.mono hb2.size))
        | (go_at_call 16; refine (HT.out _ hb0).mono ?_; rintro r w1 ⟨rfl, hb1⟩; have hb2 := hb0.trans (hb1.mono hb0.size)))
      have M0 := heap_below hb3 (Nat.lt_of_lt_of_le (Array.getElem?_eq_some_iff.1 HK0.out).1 hb1.size) (heap_below hb1 (Array.getElem?_eq_some_iff.1 HK0.out).1 HK0.out)
      clear c0 c1 c2 c3 HK0 hb0 hb1 hb2 hb3 hl0 HT HT2
      obtain ⟨⟨c0, c1, c2, c3⟩, -, hl0⟩ := four_c M0
      go_upto_region 4 with (first
        | (have hq := hbc; go_at_call 18; refine (HC2.out _ hbc).mono ?_; rintro r w4 ⟨v6, rfl, hin6, hbd⟩; have hin6' := hin6; obtain ⟨A6, c6, hv6, -⟩ := hin6.sl; have hv6' : v6 = .slice A6 l.length c6 := hv6; subst hv6')
        | (go_at_call 18; refine (HC.out _ hb4).mono ?_; rintro r w3 ⟨v5, rfl, hin5, hb5⟩; have hin5' := hin5; obtain ⟨A5, c5, rfl, -⟩ := hin5.sl; have hbc := hb4.trans (hb5.mono hb4.size)))
      have hin5w := hin5'.below hbd
      have M0' := heap_below hbd (Nat.lt_of_lt_of_le (Array.getElem?_eq_some_iff.1 M0).1 hb5.size) (heap_below hb5 (Array.getElem?_eq_some_iff.1 M0).1 M0)
      obtain ⟨N5, N6⟩ := blocks2 w4 (.cells #[.slice A5 a.ids.length c5, .bool a.root.cell, .int .i64 a.root.n, .bool a.jumps] 26) (.cells #[.slice A6 l.length c6, .bool false, .int .i64 0, .bool false] 26)
      have hb2w : Below w4.heap.size w4 ((w4.alloc (.cells #[.slice A5 a.ids.length c5, .bool a.root.cell, .int .i64 a.root.n, .bool a.jumps] 26)).alloc (.cells #[.slice A6 l.length c6, .bool false, .int .i64 0, .bool false] 26)) := below_two
      have N0 := heap_below hb2w (Array.getElem?_eq_some_iff.1 M0').1 M0'
      have hbe := hbc.trans (hbd.mono hbc.size)
      have hbX := hbe.trans (hb2w.mono hbe.size)
      have hin5X := hin5w.below hb2w
      have hin6X := hin6'.below hb2w
      clear c0 c1 c2 c3 M0 M0' hb5 hbd hbe hb2w hin5 hin5' hin5w hin6 hin6' HC HC2 hl0 hbc hb4
      generalize (w4.alloc (.cells #[.slice A5 a.ids.length c5, .bool a.root.cell, .int .i64 a.root.n, .bool a.jumps] 26)).alloc (.cells #[.slice A6 l.length c6, .bool false, .int .i64 0, .bool false] 26) = X at N0 N5 N6 hbX hin5X hin6X ⊢
      generalize w4.heap.size = G5 at *
      obtain ⟨hxl, hxs⟩ := addR_len a l ⟨hl, hls⟩ ⟨hl2, hls2⟩
      have hI1 := apAdd_any _ _ a l X hin5X hin6X.sl hl hls hl2 hls2
      have hI2 := fun V (hb : Below w.heap.size w V) => refAdd_any _ _ a l V (HIN.out.below hb) (HIL.out.below hb).sl hl hls hl2 hls2
      generalize addR a l = xe at hxl hxs hI1 hI2
      obtain ⟨x, ex⟩ := xe
      dsimp only at hxl hxs hI1 hI2
      unfold arV at hI1 hI2
      have HI1 := Lib.hid hI1
      have HI2 := Lib.hid hI2
      clear hI1 hI2
      obtain ⟨⟨d0, d1, d2, d3⟩, -, hl5⟩ := four_c N5
      obtain ⟨⟨g0, g1, g2, g3⟩, -, hl6⟩ := four_c N6
      go_upto_region 5 with (go_at_call 39; refine HI1.out.mono ?_; rintro r w5 ⟨v7, rfl, hin7, hb7⟩; have hin7' := hin7; obtain ⟨A7, c7, rfl, -⟩ := hin7.sl)
      have Q0 : (w5.alloc (.cells #[.slice A7 x.ids.length c7, .bool x.root.cell, .int .i64 x.root.n, .bool x.jumps] 26)).heap[w.heap.size]? = _ := row_next hb7 N0
      have Q5 : (w5.alloc (.cells #[.slice A7 x.ids.length c7, .bool x.root.cell, .int .i64 x.root.n, .bool x.jumps] 26)).heap[G5]? = _ := row_next hb7 N5
      have Q6 : (w5.alloc (.cells #[.slice A7 x.ids.length c7, .bool x.root.cell, .int .i64 x.root.n, .bool x.jumps] 26)).heap[G5 + 1]? = _ := row_next hb7 N6
      have Q7 := heap_alloc_new w5 (.cells #[.slice A7 x.ids.length c7, .bool x.root.cell, .int .i64 x.root.n, .bool x.jumps] 26)
      have hbY := below_next hbX hb7 (.cells #[.slice A7 x.ids.length c7, .bool x.root.cell, .int .i64 x.root.n, .bool x.jumps] 26)
      have hin5Y : ArIn (w5.alloc (.cells #[.slice A7 x.ids.length c7, .bool x.root.cell, .int .i64 x.root.n, .bool x.jumps] 26)) _ a := hin5X.next hb7
      have hin6Y : ArIn (w5.alloc (.cells #[.slice A7 x.ids.length c7, .bool x.root.cell, .int .i64 x.root.n, .bool x.jumps] 26)) _ (arL l) := hin6X.next hb7
      have hin7Y : ArIn (w5.alloc (.cells #[.slice A7 x.ids.length c7, .bool x.root.cell, .int .i64 x.root.n, .bool x.jumps] 26)) (.slice A7 x.ids.length c7) x := hin7'.below ((Below.refl _ _).alloc (Nat.le_refl _) _)
      clear d0 d1 d2 d3 g0 g1 g2 g3 N0 N5 N6 hb7 hbX hin5X hin6X HI1 hl5 hl6 hin7 hin7'
      generalize w5.alloc (.cells #[.slice A7 x.ids.length c7, .bool x.root.cell, .int .i64 x.root.n, .bool x.jumps] 26) = Y at Q0 Q5 Q6 Q7 hbY hin5Y hin6Y hin7Y ⊢
      generalize w5.heap.size = G7 at *
      obtain ⟨⟨c0, c1, c2, c3⟩, -, hl0⟩ := four_c Q0
      go_upto_region 6 with (go_at_call 40; refine (HI2.out _ hbY).mono ?_; rintro r w6 ⟨v9, rfl, hin9, hb8⟩; have hin9' := hin9; obtain ⟨A9, c9, rfl, -⟩ := hin9.sl)
      have N0 : (w6.alloc (.cells #[.slice A9 x.ids.length c9, .bool x.root.cell, .int .i64 x.root.n, .bool x.jumps] 26)).heap[w.heap.size]? = _ := row_next hb8 Q0
      have N5 : (w6.alloc (.cells #[.slice A9 x.ids.length c9, .bool x.root.cell, .int .i64 x.root.n, .bool x.jumps] 26)).heap[G5]? = _ := row_next hb8 Q5
      have N6 : (w6.alloc (.cells #[.slice A9 x.ids.length c9, .bool x.root.cell, .int .i64 x.root.n, .bool x.jumps] 26)).heap[G5 + 1]? = _ := row_next hb8 Q6
      have N7 : (w6.alloc (.cells #[.slice A9 x.ids.length c9, .bool x.root.cell, .int .i64 x.root.n, .bool x.jumps] 26)).heap[G7]? = _ := row_next hb8 Q7
      have N9 := heap_alloc_new w6 (.cells #[.slice A9 x.ids.length c9, .bool x.root.cell, .int .i64 x.root.n, .bool x.jumps] 26)
      have hbX := below_next hbY hb8 (.cells #[.slice A9 x.ids.length c9, .bool x.root.cell, .int .i64 x.root.n, .bool x.jumps] 26)
      have hin5X : ArIn (w6.alloc (.cells #[.slice A9 x.ids.length c9, .bool x.root.cell, .int .i64 x.root.n, .bool x.jumps] 26)) _ a := hin5Y.next hb8
      have hin6X : ArIn (w6.alloc (.cells #[.slice A9 x.ids.length c9, .bool x.root.cell, .int .i64 x.root.n, .bool x.jumps] 26)) _ (arL l) := hin6Y.next hb8
      have hin7X : ArIn (w6.alloc (.cells #[.slice A9 x.ids.length c9, .bool x.root.cell, .int .i64 x.root.n, .bool x.jumps] 26)) (.slice A7 x.ids.length c7) x := hin7Y.next hb8
      have hin9X : ArIn (w6.alloc (.cells #[.slice A9 x.ids.length c9, .bool x.root.cell, .int .i64 x.root.n, .bool x.jumps] 26)) (.slice A9 x.ids.length c9) x := hin9'.below ((Below.refl _ _).alloc (Nat.le_refl _) _)
      clear c0 c1 c2 c3 Q0 Q5 Q6 Q7 hb8 hbY hin5Y hin6Y hin7Y HI2 hl0 hin9 hin9'
      generalize w6.alloc (.cells #[.slice A9 x.ids.length c9, .bool x.root.cell, .int .i64 x.root.n, .bool x.jumps] 26) = X at N0 N5 N6 N7 N9 hbX hin5X hin6X hin7X hin9X ⊢
      generalize w6.heap.size = G9 at *
      obtain ⟨⟨e0, e1, e2, e3⟩, -, -⟩ := four_c N7
      obtain ⟨⟨f0, f1, f2, f3⟩, -, -⟩ := four_c N9
      have hS1 := same_eq x _ _ X hin7X hin9X hxl hxs
      have HX := Lib.hid (fun V (hb : Below X.heap.size X V) => same_eq a _ _ V ((HIN.out.below hbX).below hb) (hin5X.below hb) (by omega) hls)
      have hS3 : ∀ V, Below X.heap.size X V → Calls Tryz.prog 26 #[.agg #[.slice A6 l.length c6, .bool false, .int .i64 0, .bool false], .agg #[.slice A1 l.length cap1, .bool false, .int .i64 0, .bool false]] V fun e w' => e = .returned (.bool true) ∧ Below V.heap.size V w' :=
        fun V hb => same_eq (arL l) _ _ V (hin6X.below hb) ((HIL.out.below hbX).below hb) (by show l.length ≤ 1000; omega) hls2
      have HS3 := Lib.hid hS3
      unfold arV at hS1 HX
      have HS1 := Lib.hid hS1
      have HN0 := Lib.hid N0
      have HN5 := Lib.hid N5
      have HN6 := Lib.hid N6
      clear hS1 hS3 N0 N5 N6 N7 N9 hin7X hin9X hin5X hin6X
      go_wp2_with (first
        | (go_at_call 17; refine (HA.out _ hbz).mono ?_; rintro r w12 ⟨rfl, hb12⟩)
        | (have hq := hb10; go_at_call 26; refine (HS3.out _ hb10).mono ?_; rintro r w11 ⟨rfl, hb11⟩; have hbz := hbX.trans ((hb10.trans (hb11.mono hb10.size)).mono hbX.size))
        | (have hq := hb8; go_at_call 26; refine (HX.out _ hb8).mono ?_; rintro r w9 ⟨rfl, hb9⟩; have hb10 := hb8.trans (hb9.mono hb8.size); obtain ⟨⟨g0, g1, g2, g3⟩, -, -⟩ := four_c (heap_below hb10 (Array.getElem?_eq_some_iff.1 HN6.out).1 HN6.out))
        | (go_at_call 26; refine HS1.out.mono ?_; rintro r w8 ⟨rfl, hb8⟩; obtain ⟨⟨c0, c1, c2, c3⟩, -, -⟩ := four_c (heap_below hb8 (Array.getElem?_eq_some_iff.1 HN0.out).1 HN0.out); obtain ⟨⟨d0, d1, d2, d3⟩, -, -⟩ := four_c (heap_below hb8 (Array.getElem?_eq_some_iff.1 HN5.out).1 HN5.out)))
      go_ret
      exact ⟨rfl, hbz.trans (hb12.mono hbz.size)⟩

end Go.Proofs.YtoncdnelacolaaaGreatDoor.Ar
