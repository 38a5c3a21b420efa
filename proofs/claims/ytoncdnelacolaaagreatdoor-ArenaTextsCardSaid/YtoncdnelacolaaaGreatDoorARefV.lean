/- The reference: Parse. -/
import Derived.Test.YtoncdnelacolaaaGreatDoorARefU
import Derived.Test.YtoncdnelacolaaaGreatDoorAChain
import Derived.Laws.Strings3
namespace Go.Proofs.YtoncdnelacolaaaGreatDoor.Ar
open Go Go.Proofs Go.RowKit Go.Sort Lx Ps

theorem slice_from {s : List UInt8} {k : Nat} (h : k ≤ s.length) (W : World) : (Instr.slice 9 (.string (strB s)) (some (.int .i64 (k : Int))) none none).run Tryz.prog W = .ok (.string (strB (s.drop k))) W := by
  have e : (strB s).extract (k : Int).toNat (strB s).size = strB (s.drop k) := by
    unfold strB
    rw [ByteArray.extract_mk, Int.toNat_natCast]
    congr 2
    rw [List.take_of_length_le]
    rw [List.length_drop]
    exact Nat.le_refl _
  have := run_slice_string_from_if W 9 (strB s) .i64 (k : Int) Tryz.underlying9
  rw [this, if_pos ⟨by omega, by rw [strB_size]; omega⟩, e]
/-- What Parse of the reference keeps in memory: its result, and the move that it reads. -/
def PSt (w X : World) (a b : Int) (k : Nat) (n : Int) : Prop :=
  X.heap[w.heap.size]? = some (.cells #[.int .i64 0, .int .i64 0, .int .u8 0, .int .i64 0] 40 (0, 0)) ∧
  X.heap[w.heap.size + 1]? = some (.cells #[.int .i64 a, .int .i64 b, .int .u8 (k : Int), .int .i64 n] 40 (0, 0)) ∧ Below w.heap.size w X
theorem PSt.call {w X X' : World} {a b : Int} {k : Nat} {n : Int} (h : PSt w X a b k n) (hb : Below X.heap.size X X') : PSt w X' a b k n := by
  obtain ⟨h1, h2, h3⟩ := h
  exact ⟨heap_below hb (Array.getElem?_eq_some_iff.1 h1).1 h1, heap_below hb (Array.getElem?_eq_some_iff.1 h2).1 h2, h3.trans (hb.mono h3.size)⟩
theorem PSt.start (w : World) : PSt w ((w.alloc (.cells #[.int .i64 0, .int .i64 0, .int .u8 0, .int .i64 0] 40)).alloc (.cells #[.int .i64 0, .int .i64 0, .int .u8 0, .int .i64 0] 40)) 0 0 0 0 := by
  obtain ⟨k0, k1⟩ := blocks2 w (.cells #[.int .i64 0, .int .i64 0, .int .u8 0, .int .i64 0] 40) (.cells #[.int .i64 0, .int .i64 0, .int .u8 0, .int .i64 0] 40)
  exact ⟨k0, k1, below_two⟩
theorem PSt.setA {w X : World} {a b : Int} {k : Nat} {n : Int} (h : PSt w X a b k n) (x : Int) : PSt w (X.setCell ⟨w.heap.size + 1, 0, none⟩ (.int .i64 x)) x b k n := by
  obtain ⟨h1, h2, h3⟩ := h
  exact ⟨(heap_setCell_other X ⟨w.heap.size + 1, 0, none⟩ w.heap.size _ (by show w.heap.size ≠ w.heap.size + 1; omega)).trans h1, heap_setCell_same X _ 0 _ _ _ h2, h3.setCell (by show w.heap.size ≤ w.heap.size + 1; omega) _⟩
theorem PSt.setB {w X : World} {a b : Int} {k : Nat} {n : Int} (h : PSt w X a b k n) (x : Int) : PSt w (X.setCell ⟨w.heap.size + 1, 1, none⟩ (.int .i64 x)) a x k n := by
  obtain ⟨h1, h2, h3⟩ := h
  exact ⟨(heap_setCell_other X ⟨w.heap.size + 1, 1, none⟩ w.heap.size _ (by show w.heap.size ≠ w.heap.size + 1; omega)).trans h1, heap_setCell_same X _ 1 _ _ _ h2, h3.setCell (by show w.heap.size ≤ w.heap.size + 1; omega) _⟩
theorem PSt.setK {w X : World} {a b : Int} {k : Nat} {n : Int} (h : PSt w X a b k n) (x : Nat) : PSt w (X.setCell ⟨w.heap.size + 1, 2, none⟩ (.int .u8 (x : Int))) a b x n := by
  obtain ⟨h1, h2, h3⟩ := h
  exact ⟨(heap_setCell_other X ⟨w.heap.size + 1, 2, none⟩ w.heap.size _ (by show w.heap.size ≠ w.heap.size + 1; omega)).trans h1, heap_setCell_same X _ 2 _ _ _ h2, h3.setCell (by show w.heap.size ≤ w.heap.size + 1; omega) _⟩
theorem PSt.setN {w X : World} {a b : Int} {k : Nat} {n : Int} (h : PSt w X a b k n) (x : Int) : PSt w (X.setCell ⟨w.heap.size + 1, 3, none⟩ (.int .i64 x)) a b k x := by
  obtain ⟨h1, h2, h3⟩ := h
  exact ⟨(heap_setCell_other X ⟨w.heap.size + 1, 3, none⟩ w.heap.size _ (by show w.heap.size ≠ w.heap.size + 1; omega)).trans h1, heap_setCell_same X _ 3 _ _ _ h2, h3.setCell (by show w.heap.size ≤ w.heap.size + 1; omega) _⟩
theorem PSt.draw {w X : World} {a b : Int} {k : Nat} {n : Int} (h : PSt w X a b k n) (j : Nat) : PSt w (X.drewN j) a b k n := h.call ⟨rfl, rfl, rfl, Nat.le_refl _, fun _ _ => rfl⟩

set_option maxRecDepth 100000 in
set_option maxHeartbeats 4000000 in
theorem refParse_nodot (s : List UInt8) (w : World) (hdot : ¬ (s.drop (digL s).length).head? = some 46) :
    Calls Tryz.prog 44 #[.string (strB s)] w fun e w' => e = .returned (refR s) ∧ Below w.heap.size w w' := by
  have HD := Lib.hid (fun (l : List UInt8) V => digits_any l V)
  have HT := Lib.hid (fun (m : Mv) V (h : MvOk m) => refText_any m V h)
  have hP := PSt.start w
  have HSL := Lib.hid (fun (l : List UInt8) (k : Nat) (h : k ≤ l.length) => slice_from h)
  have HIX := Lib.hid (fun (l : List UInt8) (k : Nat) (c : UInt8) (h : l[k]? = some c) => index_at h)
  have hd1 := digL_le s
  have hRO : refO s = match (refQ s).2 with
    | [] => none
    | c :: t => some ⟨valD (digL s), (refQ s).1, kindB c, if (refQ s).2 = [33, 42] then -1 else valD (digL t)⟩ := rfl
  have hQ : refQ s = if (s.drop (digL s).length).head? = some 46 then (valD (digL ((s.drop (digL s).length).drop 1)), (s.drop (digL s).length).drop (1 + (digL ((s.drop (digL s).length).drop 1)).length)) else (0, s.drop (digL s).length) := rfl
  have HRO := Lib.hid hRO
  have HQ := Lib.hid hQ
  have hD1 := HD.out s
  have hs1 := HSL.out s (digL s).length hd1
  clear hRO hQ hd1
  generalize digL s = D at *
  generalize s.drop D.length = r1 at *
  go_enter Tryz.func44, Tryz.ntmps44
  go_upto_region 2 with (fail)
  generalize (w.alloc (.cells #[.int .i64 0, .int .i64 0, .int .u8 0, .int .i64 0] 40)).alloc (.cells #[.int .i64 0, .int .i64 0, .int .u8 0, .int .i64 0] 40) = X0 at hP ⊢
  go_upto_region 4 with (go_at_call 100; refine (hD1 _).mono ?_; rintro e X1 ⟨rfl, hb1⟩)
  have hP1 := hP.call hb1
  clear hP hb1 hD1
  obtain ⟨h1, h2, h3⟩ := hP1
  have HP1 := Lib.hid (show PSt w X1 0 0 0 0 from ⟨h1, h2, h3⟩)
  obtain ⟨⟨c0, c1, c2, c3⟩, ⟨f0, f1, f2, f3⟩, hl⟩ := four_c h2
  clear h1 h2 h3
  refine wp_region_chain (fun _ => True) [(true, 0), (true, 1), (true, 2), (true, 3), (true, 4), (false, 5), (true, 6)] (by kernel_rfl) (by kernel_rfl) (by kernel_rfl) (by kernel_rfl) (by intro d v c a w h; cases d <;> exact h) trivial ?_
  simp only [chainOps, List.filterMap_cons, List.filterMap_nil, List.getElem?_toArray, List.getElem?_cons_zero, List.getElem?_cons_succ, Option.map_some]
  repeat (first
    | (refine chain_skip (by rfl) ?_
       try simp only [Act.put, List.setIfInBounds_toArray, List.set_cons_zero, List.set_cons_succ])
    | (apply chain_take (by rfl)
       · (intro w' hSw; (try dsimp only at hSw); go_simp; try with_reducible rfl)
       try simp only [Act.put, List.setIfInBounds_toArray, List.set_cons_zero, List.set_cons_succ]))
  refine chain_act (fun KK hKK => ?_)
  go_simp
  refine hKK.out _ _ trivial ?_
  clear hKK KK
  try simp only [Act.put, List.setIfInBounds_toArray, List.set_cons_zero, List.set_cons_succ]
  repeat (first
    | (refine chain_skip (by rfl) ?_
       try simp only [Act.put, List.setIfInBounds_toArray, List.set_cons_zero, List.set_cons_succ])
    | (apply chain_take (by rfl)
       · (intro w' hSw; (try dsimp only at hSw); go_simp; try with_reducible rfl)
       try simp only [Act.put, List.setIfInBounds_toArray, List.set_cons_zero, List.set_cons_succ]))
  refine chain_nil ?_
  have hP2 := (HP1.out.setA (valD D)).call (X' := (X1.setCell ⟨w.heap.size + 1, 0, none⟩ (.int .i64 (valD D))).drew) ⟨rfl, rfl, rfl, Nat.le_refl _, fun _ _ => rfl⟩
  generalize (X1.setCell ⟨w.heap.size + 1, 0, none⟩ (.int .i64 (valD D))).drew = X2 at *
  have HP2 := Lib.hid hP2
  clear hP2 c0 c1 c2 c3 f0 f1 f2 f3 hl HP1 hs1
  have hsz := strB_size r1
  have hq : refQ s = (0, r1) := by rw [HQ.out, if_neg hdot]
  have hRQ := HRO.out
  rw [hq] at hRQ
  dsimp only at hRQ
  obtain ⟨b, hbb⟩ : ∃ b : Int, b = 0 := ⟨0, rfl⟩
  rw [← hbb] at hRQ
  have hPS := HP2.out
  have hPS' : PSt w X2 (valD D) b 0 0 := by rw [hbb]; exact hPS
  have HPS := Lib.hid hPS'
  have HRQ := Lib.hid hRQ
  clear hPS hPS' HP2 hq hRQ hbb HRO HQ
  generalize X2 = X3 at *
  cases r1 with
  | nil =>
    have hs0 : (strB ([] : List UInt8)).size = 0 := rfl
    have HR := Lib.hid (show refR s = .tuple #[.agg #[.int .i64 0, .int .i64 0, .int .u8 0, .int .i64 0], .int .i64 4] by unfold refR; rw [HRQ.out]; rfl)
    have he : ((strB ([] : List UInt8)).toList == []) = true := by rw [ByteArray.toList_eq]; rfl
    have he1 : strB ([] : List UInt8) = ⟨#[]⟩ := rfl
    rw [he1] at *
    go_upto_region 8 with (fail)
    obtain ⟨h1, h2, h3⟩ := HPS.out
    obtain ⟨⟨q0, q1, q2, q3⟩, ⟨f0, f1, f2, f3⟩, -⟩ := four_c h1
    clear h1 h2
    go_wp2
    refine bodyPost_ret (v := .tuple #[.agg #[.int .i64 0, .int .i64 0, .int .u8 0, .int .i64 0], .int .i64 4]) (by simp [results, Tryz.results44, go_sem, q0, q1, q2, q3]) rfl ⟨by rw [HR.out], ?_⟩
    exact below4s h3 (Nat.le_refl _)
  | cons cq tq =>
    have hc46 : cq ≠ 46 := fun e => hdot (by rw [e]; rfl)
    have y0 : ((cq.toNat : Int) == 46) = false := by rw [beq_eq_false_iff_ne]; intro e; exact hc46 (UInt8.toNat_inj.1 (by have e9 : (46 : UInt8).toNat = 46 := rfl; omega))
    have hix0 : ∀ W, (Instr.index 9 (.string (strB (cq :: tq))) (.int .i64 0)).run Tryz.prog W = .ok (.int .u8 (cq.toNat : Int)) W := HIX.out (cq :: tq) 0 cq rfl
    have hs1 : (strB (cq :: tq)).size = tq.length + 1 := by rw [strB_size]; rfl
    go_upto_region 8 with (fail)
    clear hix0 y0 hc46 hdot
    have hix := HIX.out (cq :: tq) 0 cq rfl
    have hix' : ∀ W, (Instr.index 9 (.string (strB (cq :: tq))) (.int .i64 0)).run Tryz.prog W = .ok (.int .u8 (cq.toNat : Int)) W := hix
    have hsl' : ∀ W, (Instr.slice 9 (.string (strB (cq :: tq))) (some (.int .i64 1)) none none).run Tryz.prog W = .ok (.string (strB tq)) W := HSL.out (cq :: tq) 1 (by simp)
    have HDT := Lib.hid (HD.out tq)
    have he2 : ((strB (cq :: tq)).toList == []) = false := by rw [ByteArray.toList_eq, strB_toList]; rfl
    have he3 : ((strB (cq :: tq)).toList == [33, 42]) = decide (cq :: tq = [33, 42]) := by rw [ByteArray.toList_eq, strB_toList, Bool.eq_iff_iff]; simp
    have he4 : (strB (cq :: tq)).isEmpty = false := by rw [ByteArray.isEmpty, strB_size]; simp
    have hkk : (cq = 63 ∧ kindB cq = 1) ∨ (cq = 61 ∧ kindB cq = 2) ∨ (cq = 33 ∧ kindB cq = 3) ∨ (cq ≠ 63 ∧ cq ≠ 61 ∧ cq ≠ 33 ∧ kindB cq = 0) := by
      unfold kindB
      by_cases g1 : cq = 63
      · exact .inl ⟨g1, by rw [if_pos g1]⟩
      · by_cases g2 : cq = 61
        · exact .inr (.inl ⟨g2, by rw [if_neg g1, if_pos g2]⟩)
        · by_cases g3 : cq = 33
          · exact .inr (.inr (.inl ⟨g3, by rw [if_neg g1, if_neg g2, if_pos g3]⟩))
          · exact .inr (.inr (.inr ⟨g1, g2, g3, by rw [if_neg g1, if_neg g2, if_neg g3]⟩))
    have hRQ := HRQ.out
    dsimp only at hRQ
    clear hix HRQ
    rcases hkk with ⟨g, hk⟩ | ⟨g, hk⟩ | ⟨g, hk⟩ | ⟨g1, g2, g3, hk⟩
    · have hst : ¬ cq :: tq = [33, 42] := by intro e; rw [g] at e; cases e
      rw [hk, if_neg hst] at hRQ
      have HO := Lib.hid hRQ
      rw [decide_eq_false hst] at he3
      have hy : (cq.toNat : Int) = 63 := by rw [g]; rfl
      rw [hy] at hix'
      clear hst hk g hy hRQ
      generalize strB (cq :: tq) = Q at *
      obtain ⟨h1, h2, h3⟩ := HPS.out
      obtain ⟨⟨c0, c1, c2, c3⟩, ⟨f0, f1, f2, f3⟩, hl⟩ := four_c h2
      clear h1 h2 h3
      go_upto_region 17 with (fail)
      have HPK := Lib.hid (HPS.out.setK 1)
      generalize X3.setCell ⟨w.heap.size + 1, 2, none⟩ (.int .u8 1) = X4 at *
      clear c0 c1 c2 c3 f0 f1 f2 f3 hl
      go_upto_region 18 with (go_at_call 100; refine (HDT.out _).mono ?_; rintro e X5 ⟨rfl, hb5⟩; have HP5 := Lib.hid (HPK.out.call hb5); obtain ⟨h1, h2, h3⟩ := HP5.out; obtain ⟨⟨c0, c1, c2, c3⟩, ⟨f0, f1, f2, f3⟩, hl⟩ := four_c h2; clear h1 h2 h3)
      have HPN := Lib.hid (HP5.out.setN (valD (digL tq)))
      generalize X5.setCell ⟨w.heap.size + 1, 3, none⟩ (.int .i64 (valD (digL tq))) = X6 at *
      clear c0 c1 c2 c3 f0 f1 f2 f3 hl hb5 HP5 HPK HPS HDT
      go_upto_region 20 with (fail)
      have HPZ := HPN
      have hmk := refO_ok HO.out
      have hTm := fun V => HT.out (⟨valD D, b, 1, valD (digL tq)⟩ : Mv) V hmk
      clear hmk
      by_cases hok : okText (⟨valD D, b, 1, valD (digL tq)⟩ : Mv) = true
      · by_cases hts : textL (⟨valD D, b, 1, valD (digL tq)⟩ : Mv) = s
        · have HR := Lib.hid (show refR s = .tuple #[.agg #[.int .i64 (valD D), .int .i64 b, .int .u8 1, .int .i64 (valD (digL tq))], .int .i64 0] by unfold refR; rw [HO.out]; simp only; rw [if_pos ⟨hok, hts⟩]; rfl)
          have hr : textR (⟨valD D, b, 1, valD (digL tq)⟩ : Mv) = .tuple #[.string (strB s), .int .i64 0] := by unfold textR; rw [if_pos hok, hts]
          rw [hr] at hTm
          have HTM := Lib.hid hTm
          clear hTm hr hts hok HO
          unfold mvV at HTM
          obtain ⟨h1, h2, h3⟩ := HPZ.out
          obtain ⟨⟨c0, c1, c2, c3⟩, -, -⟩ := four_c h2
          clear h1 h2 h3
          go_upto_region 21 with (go_at_call 43; refine (HTM.out _).mono ?_; rintro e X9 ⟨rfl, hb9⟩)
          obtain ⟨h1, h2, h3⟩ := HPZ.out.call hb9
          obtain ⟨⟨q0, q1, q2, q3⟩, ⟨f0, f1, f2, f3⟩, -⟩ := four_c h1
          obtain ⟨⟨d0, d1, d2, d3⟩, -, -⟩ := four_c h2
          clear h1 h2 c0 c1 c2 c3 hb9
          go_wp2
          refine bodyPost_ret (v := .tuple #[.agg #[.int .i64 (valD D), .int .i64 b, .int .u8 1, .int .i64 (valD (digL tq))], .int .i64 0]) (by simp [results, Tryz.results44, go_sem, q0, q1, q2, q3]) rfl ⟨by rw [HR.out], ?_⟩
          exact below4s h3 (Nat.le_refl _)
        · have HR := Lib.hid (show refR s = .tuple #[.agg #[.int .i64 0, .int .i64 0, .int .u8 0, .int .i64 0], .int .i64 4] by unfold refR; rw [HO.out]; simp only; rw [if_neg (fun h => hts h.2)]; rfl)
          have hr : textR (⟨valD D, b, 1, valD (digL tq)⟩ : Mv) = .tuple #[.string (strB (textL (⟨valD D, b, 1, valD (digL tq)⟩ : Mv))), .int .i64 0] := by unfold textR; rw [if_pos hok]
          rw [hr] at hTm
          have he2 : ((strB (textL (⟨valD D, b, 1, valD (digL tq)⟩ : Mv))).toList == (strB s).toList) = false := by
            rw [ByteArray.toList_eq, ByteArray.toList_eq, strB_toList, strB_toList]
            simpa using hts
          have HTM := Lib.hid hTm
          clear hTm hr hts hok HO
          generalize strB (textL (⟨valD D, b, 1, valD (digL tq)⟩ : Mv)) = st at *
          unfold mvV at HTM
          obtain ⟨h1, h2, h3⟩ := HPZ.out
          obtain ⟨⟨c0, c1, c2, c3⟩, -, -⟩ := four_c h2
          clear h1 h2 h3
          go_upto_region 21 with (go_at_call 43; refine (HTM.out _).mono ?_; rintro e X9 ⟨rfl, hb9⟩)
          clear c0 c1 c2 c3
          obtain ⟨h1, h2, h3⟩ := HPZ.out.call hb9
          obtain ⟨⟨q0, q1, q2, q3⟩, ⟨f0, f1, f2, f3⟩, -⟩ := four_c h1
          clear h1 h2
          go_wp2
          refine bodyPost_ret (v := .tuple #[.agg #[.int .i64 0, .int .i64 0, .int .u8 0, .int .i64 0], .int .i64 4]) (by simp [results, Tryz.results44, go_sem, q0, q1, q2, q3]) rfl ⟨by rw [HR.out], ?_⟩
          exact below4s h3 (Nat.le_refl _)
      · have HR := Lib.hid (show refR s = .tuple #[.agg #[.int .i64 0, .int .i64 0, .int .u8 0, .int .i64 0], .int .i64 4] by unfold refR; rw [HO.out]; simp only; rw [if_neg (fun h => hok h.1)]; rfl)
        have hr : textR (⟨valD D, b, 1, valD (digL tq)⟩ : Mv) = .tuple #[.string ⟨#[]⟩, .int .i64 4] := by unfold textR; rw [if_neg hok]
        rw [hr] at hTm
        have HTM := Lib.hid hTm
        clear hTm hr hok HO
        unfold mvV at HTM
        obtain ⟨h1, h2, h3⟩ := HPZ.out
        obtain ⟨⟨c0, c1, c2, c3⟩, -, -⟩ := four_c h2
        clear h1 h2 h3
        go_upto_region 21 with (go_at_call 43; refine (HTM.out _).mono ?_; rintro e X9 ⟨rfl, hb9⟩)
        clear c0 c1 c2 c3
        obtain ⟨h1, h2, h3⟩ := HPZ.out.call hb9
        obtain ⟨⟨q0, q1, q2, q3⟩, ⟨f0, f1, f2, f3⟩, -⟩ := four_c h1
        clear h1 h2
        go_wp2
        refine bodyPost_ret (v := .tuple #[.agg #[.int .i64 0, .int .i64 0, .int .u8 0, .int .i64 0], .int .i64 4]) (by simp [results, Tryz.results44, go_sem, q0, q1, q2, q3]) rfl ⟨by rw [HR.out], ?_⟩
        exact below4s h3 (Nat.le_refl _)
    · have hst : ¬ cq :: tq = [33, 42] := by intro e; rw [g] at e; cases e
      rw [hk, if_neg hst] at hRQ
      have HO := Lib.hid hRQ
      rw [decide_eq_false hst] at he3
      have hy : (cq.toNat : Int) = 61 := by rw [g]; rfl
      rw [hy] at hix'
      clear hst hk g hy hRQ
      generalize strB (cq :: tq) = Q at *
      obtain ⟨h1, h2, h3⟩ := HPS.out
      obtain ⟨⟨c0, c1, c2, c3⟩, ⟨f0, f1, f2, f3⟩, hl⟩ := four_c h2
      clear h1 h2 h3
      go_upto_region 17 with (fail)
      have HPK := Lib.hid (HPS.out.setK 2)
      generalize X3.setCell ⟨w.heap.size + 1, 2, none⟩ (.int .u8 2) = X4 at *
      clear c0 c1 c2 c3 f0 f1 f2 f3 hl
      go_upto_region 18 with (go_at_call 100; refine (HDT.out _).mono ?_; rintro e X5 ⟨rfl, hb5⟩; have HP5 := Lib.hid (HPK.out.call hb5); obtain ⟨h1, h2, h3⟩ := HP5.out; obtain ⟨⟨c0, c1, c2, c3⟩, ⟨f0, f1, f2, f3⟩, hl⟩ := four_c h2; clear h1 h2 h3)
      have HPN := Lib.hid (HP5.out.setN (valD (digL tq)))
      generalize X5.setCell ⟨w.heap.size + 1, 3, none⟩ (.int .i64 (valD (digL tq))) = X6 at *
      clear c0 c1 c2 c3 f0 f1 f2 f3 hl hb5 HP5 HPK HPS HDT
      go_upto_region 20 with (fail)
      have HPZ := HPN
      have hmk := refO_ok HO.out
      have hTm := fun V => HT.out (⟨valD D, b, 2, valD (digL tq)⟩ : Mv) V hmk
      clear hmk
      by_cases hok : okText (⟨valD D, b, 2, valD (digL tq)⟩ : Mv) = true
      · by_cases hts : textL (⟨valD D, b, 2, valD (digL tq)⟩ : Mv) = s
        · have HR := Lib.hid (show refR s = .tuple #[.agg #[.int .i64 (valD D), .int .i64 b, .int .u8 2, .int .i64 (valD (digL tq))], .int .i64 0] by unfold refR; rw [HO.out]; simp only; rw [if_pos ⟨hok, hts⟩]; rfl)
          have hr : textR (⟨valD D, b, 2, valD (digL tq)⟩ : Mv) = .tuple #[.string (strB s), .int .i64 0] := by unfold textR; rw [if_pos hok, hts]
          rw [hr] at hTm
          have HTM := Lib.hid hTm
          clear hTm hr hts hok HO
          unfold mvV at HTM
          obtain ⟨h1, h2, h3⟩ := HPZ.out
          obtain ⟨⟨c0, c1, c2, c3⟩, -, -⟩ := four_c h2
          clear h1 h2 h3
          go_upto_region 21 with (go_at_call 43; refine (HTM.out _).mono ?_; rintro e X9 ⟨rfl, hb9⟩)
          obtain ⟨h1, h2, h3⟩ := HPZ.out.call hb9
          obtain ⟨⟨q0, q1, q2, q3⟩, ⟨f0, f1, f2, f3⟩, -⟩ := four_c h1
          obtain ⟨⟨d0, d1, d2, d3⟩, -, -⟩ := four_c h2
          clear h1 h2 c0 c1 c2 c3 hb9
          go_wp2
          refine bodyPost_ret (v := .tuple #[.agg #[.int .i64 (valD D), .int .i64 b, .int .u8 2, .int .i64 (valD (digL tq))], .int .i64 0]) (by simp [results, Tryz.results44, go_sem, q0, q1, q2, q3]) rfl ⟨by rw [HR.out], ?_⟩
          exact below4s h3 (Nat.le_refl _)
        · have HR := Lib.hid (show refR s = .tuple #[.agg #[.int .i64 0, .int .i64 0, .int .u8 0, .int .i64 0], .int .i64 4] by unfold refR; rw [HO.out]; simp only; rw [if_neg (fun h => hts h.2)]; rfl)
          have hr : textR (⟨valD D, b, 2, valD (digL tq)⟩ : Mv) = .tuple #[.string (strB (textL (⟨valD D, b, 2, valD (digL tq)⟩ : Mv))), .int .i64 0] := by unfold textR; rw [if_pos hok]
          rw [hr] at hTm
          have he2 : ((strB (textL (⟨valD D, b, 2, valD (digL tq)⟩ : Mv))).toList == (strB s).toList) = false := by
            rw [ByteArray.toList_eq, ByteArray.toList_eq, strB_toList, strB_toList]
            simpa using hts
          have HTM := Lib.hid hTm
          clear hTm hr hts hok HO
          generalize strB (textL (⟨valD D, b, 2, valD (digL tq)⟩ : Mv)) = st at *
          unfold mvV at HTM
          obtain ⟨h1, h2, h3⟩ := HPZ.out
          obtain ⟨⟨c0, c1, c2, c3⟩, -, -⟩ := four_c h2
          clear h1 h2 h3
          go_upto_region 21 with (go_at_call 43; refine (HTM.out _).mono ?_; rintro e X9 ⟨rfl, hb9⟩)
          clear c0 c1 c2 c3
          obtain ⟨h1, h2, h3⟩ := HPZ.out.call hb9
          obtain ⟨⟨q0, q1, q2, q3⟩, ⟨f0, f1, f2, f3⟩, -⟩ := four_c h1
          clear h1 h2
          go_wp2
          refine bodyPost_ret (v := .tuple #[.agg #[.int .i64 0, .int .i64 0, .int .u8 0, .int .i64 0], .int .i64 4]) (by simp [results, Tryz.results44, go_sem, q0, q1, q2, q3]) rfl ⟨by rw [HR.out], ?_⟩
          exact below4s h3 (Nat.le_refl _)
      · have HR := Lib.hid (show refR s = .tuple #[.agg #[.int .i64 0, .int .i64 0, .int .u8 0, .int .i64 0], .int .i64 4] by unfold refR; rw [HO.out]; simp only; rw [if_neg (fun h => hok h.1)]; rfl)
        have hr : textR (⟨valD D, b, 2, valD (digL tq)⟩ : Mv) = .tuple #[.string ⟨#[]⟩, .int .i64 4] := by unfold textR; rw [if_neg hok]
        rw [hr] at hTm
        have HTM := Lib.hid hTm
        clear hTm hr hok HO
        unfold mvV at HTM
        obtain ⟨h1, h2, h3⟩ := HPZ.out
        obtain ⟨⟨c0, c1, c2, c3⟩, -, -⟩ := four_c h2
        clear h1 h2 h3
        go_upto_region 21 with (go_at_call 43; refine (HTM.out _).mono ?_; rintro e X9 ⟨rfl, hb9⟩)
        clear c0 c1 c2 c3
        obtain ⟨h1, h2, h3⟩ := HPZ.out.call hb9
        obtain ⟨⟨q0, q1, q2, q3⟩, ⟨f0, f1, f2, f3⟩, -⟩ := four_c h1
        clear h1 h2
        go_wp2
        refine bodyPost_ret (v := .tuple #[.agg #[.int .i64 0, .int .i64 0, .int .u8 0, .int .i64 0], .int .i64 4]) (by simp [results, Tryz.results44, go_sem, q0, q1, q2, q3]) rfl ⟨by rw [HR.out], ?_⟩
        exact below4s h3 (Nat.le_refl _)
    · have hy : (cq.toNat : Int) = 33 := by rw [g]; rfl
      rw [hy] at hix'
      rw [hk] at hRQ
      clear hk g hy
      by_cases hst : cq :: tq = [33, 42]
      · rw [if_pos hst] at hRQ
        have HO := Lib.hid hRQ
        rw [decide_eq_true hst] at he3
        clear hst hRQ
        generalize strB (cq :: tq) = Q at *
        obtain ⟨h1, h2, h3⟩ := HPS.out
        obtain ⟨⟨c0, c1, c2, c3⟩, ⟨f0, f1, f2, f3⟩, hl⟩ := four_c h2
        clear h1 h2 h3
        go_upto_region 17 with (fail)
        have HPK := Lib.hid (HPS.out.setK 3)
        generalize X3.setCell ⟨w.heap.size + 1, 2, none⟩ (.int .u8 3) = X4 at *
        clear c0 c1 c2 c3 f0 f1 f2 f3 hl
        go_upto_region 18 with (go_at_call 100; refine (HDT.out _).mono ?_; rintro e X5 ⟨rfl, hb5⟩; have HP5 := Lib.hid (HPK.out.call hb5); obtain ⟨h1, h2, h3⟩ := HP5.out; obtain ⟨⟨c0, c1, c2, c3⟩, ⟨f0, f1, f2, f3⟩, hl⟩ := four_c h2; clear h1 h2 h3)
        have HPN := Lib.hid (HP5.out.setN (valD (digL tq)))
        generalize X5.setCell ⟨w.heap.size + 1, 3, none⟩ (.int .i64 (valD (digL tq))) = X6 at *
        clear c0 c1 c2 c3 f0 f1 f2 f3 hl hb5 HP5 HPK HPS HDT
        obtain ⟨h1, h2, h3⟩ := HPN.out
        obtain ⟨⟨c0, c1, c2, c3⟩, ⟨f0, f1, f2, f3⟩, hl⟩ := four_c h2
        clear h1 h2 h3
        go_upto_region 20 with (fail)
        have HPZ := Lib.hid (HPN.out.setN (-1))
        generalize X6.setCell ⟨w.heap.size + 1, 3, none⟩ (.int .i64 (-1)) = X7 at *
        clear c0 c1 c2 c3 f0 f1 f2 f3 hl
        have hmk := refO_ok HO.out
        have hTm := fun V => HT.out (⟨valD D, b, 3, -1⟩ : Mv) V hmk
        clear hmk
        by_cases hok : okText (⟨valD D, b, 3, -1⟩ : Mv) = true
        · by_cases hts : textL (⟨valD D, b, 3, -1⟩ : Mv) = s
          · have HR := Lib.hid (show refR s = .tuple #[.agg #[.int .i64 (valD D), .int .i64 b, .int .u8 3, .int .i64 (-1)], .int .i64 0] by unfold refR; rw [HO.out]; simp only; rw [if_pos ⟨hok, hts⟩]; rfl)
            have hr : textR (⟨valD D, b, 3, -1⟩ : Mv) = .tuple #[.string (strB s), .int .i64 0] := by unfold textR; rw [if_pos hok, hts]
            rw [hr] at hTm
            have HTM := Lib.hid hTm
            clear hTm hr hts hok HO
            unfold mvV at HTM
            obtain ⟨h1, h2, h3⟩ := HPZ.out
            obtain ⟨⟨c0, c1, c2, c3⟩, -, -⟩ := four_c h2
            clear h1 h2 h3
            go_upto_region 21 with (go_at_call 43; refine (HTM.out _).mono ?_; rintro e X9 ⟨rfl, hb9⟩)
            obtain ⟨h1, h2, h3⟩ := HPZ.out.call hb9
            obtain ⟨⟨q0, q1, q2, q3⟩, ⟨f0, f1, f2, f3⟩, -⟩ := four_c h1
            obtain ⟨⟨d0, d1, d2, d3⟩, -, -⟩ := four_c h2
            clear h1 h2 c0 c1 c2 c3 hb9
            go_wp2
            refine bodyPost_ret (v := .tuple #[.agg #[.int .i64 (valD D), .int .i64 b, .int .u8 3, .int .i64 (-1)], .int .i64 0]) (by simp [results, Tryz.results44, go_sem, q0, q1, q2, q3]) rfl ⟨by rw [HR.out], ?_⟩
            exact below4s h3 (Nat.le_refl _)
          · have HR := Lib.hid (show refR s = .tuple #[.agg #[.int .i64 0, .int .i64 0, .int .u8 0, .int .i64 0], .int .i64 4] by unfold refR; rw [HO.out]; simp only; rw [if_neg (fun h => hts h.2)]; rfl)
            have hr : textR (⟨valD D, b, 3, -1⟩ : Mv) = .tuple #[.string (strB (textL (⟨valD D, b, 3, -1⟩ : Mv))), .int .i64 0] := by unfold textR; rw [if_pos hok]
            rw [hr] at hTm
            have he2 : ((strB (textL (⟨valD D, b, 3, -1⟩ : Mv))).toList == (strB s).toList) = false := by
              rw [ByteArray.toList_eq, ByteArray.toList_eq, strB_toList, strB_toList]
              simpa using hts
            have HTM := Lib.hid hTm
            clear hTm hr hts hok HO
            generalize strB (textL (⟨valD D, b, 3, -1⟩ : Mv)) = st at *
            unfold mvV at HTM
            obtain ⟨h1, h2, h3⟩ := HPZ.out
            obtain ⟨⟨c0, c1, c2, c3⟩, -, -⟩ := four_c h2
            clear h1 h2 h3
            go_upto_region 21 with (go_at_call 43; refine (HTM.out _).mono ?_; rintro e X9 ⟨rfl, hb9⟩)
            clear c0 c1 c2 c3
            obtain ⟨h1, h2, h3⟩ := HPZ.out.call hb9
            obtain ⟨⟨q0, q1, q2, q3⟩, ⟨f0, f1, f2, f3⟩, -⟩ := four_c h1
            clear h1 h2
            go_wp2
            refine bodyPost_ret (v := .tuple #[.agg #[.int .i64 0, .int .i64 0, .int .u8 0, .int .i64 0], .int .i64 4]) (by simp [results, Tryz.results44, go_sem, q0, q1, q2, q3]) rfl ⟨by rw [HR.out], ?_⟩
            exact below4s h3 (Nat.le_refl _)
        · have HR := Lib.hid (show refR s = .tuple #[.agg #[.int .i64 0, .int .i64 0, .int .u8 0, .int .i64 0], .int .i64 4] by unfold refR; rw [HO.out]; simp only; rw [if_neg (fun h => hok h.1)]; rfl)
          have hr : textR (⟨valD D, b, 3, -1⟩ : Mv) = .tuple #[.string ⟨#[]⟩, .int .i64 4] := by unfold textR; rw [if_neg hok]
          rw [hr] at hTm
          have HTM := Lib.hid hTm
          clear hTm hr hok HO
          unfold mvV at HTM
          obtain ⟨h1, h2, h3⟩ := HPZ.out
          obtain ⟨⟨c0, c1, c2, c3⟩, -, -⟩ := four_c h2
          clear h1 h2 h3
          go_upto_region 21 with (go_at_call 43; refine (HTM.out _).mono ?_; rintro e X9 ⟨rfl, hb9⟩)
          clear c0 c1 c2 c3
          obtain ⟨h1, h2, h3⟩ := HPZ.out.call hb9
          obtain ⟨⟨q0, q1, q2, q3⟩, ⟨f0, f1, f2, f3⟩, -⟩ := four_c h1
          clear h1 h2
          go_wp2
          refine bodyPost_ret (v := .tuple #[.agg #[.int .i64 0, .int .i64 0, .int .u8 0, .int .i64 0], .int .i64 4]) (by simp [results, Tryz.results44, go_sem, q0, q1, q2, q3]) rfl ⟨by rw [HR.out], ?_⟩
          exact below4s h3 (Nat.le_refl _)
      · rw [if_neg hst] at hRQ
        have HO := Lib.hid hRQ
        rw [decide_eq_false hst] at he3
        clear hst hRQ
        generalize strB (cq :: tq) = Q at *
        obtain ⟨h1, h2, h3⟩ := HPS.out
        obtain ⟨⟨c0, c1, c2, c3⟩, ⟨f0, f1, f2, f3⟩, hl⟩ := four_c h2
        clear h1 h2 h3
        go_upto_region 17 with (fail)
        have HPK := Lib.hid (HPS.out.setK 3)
        generalize X3.setCell ⟨w.heap.size + 1, 2, none⟩ (.int .u8 3) = X4 at *
        clear c0 c1 c2 c3 f0 f1 f2 f3 hl
        go_upto_region 18 with (go_at_call 100; refine (HDT.out _).mono ?_; rintro e X5 ⟨rfl, hb5⟩; have HP5 := Lib.hid (HPK.out.call hb5); obtain ⟨h1, h2, h3⟩ := HP5.out; obtain ⟨⟨c0, c1, c2, c3⟩, ⟨f0, f1, f2, f3⟩, hl⟩ := four_c h2; clear h1 h2 h3)
        have HPN := Lib.hid (HP5.out.setN (valD (digL tq)))
        generalize X5.setCell ⟨w.heap.size + 1, 3, none⟩ (.int .i64 (valD (digL tq))) = X6 at *
        clear c0 c1 c2 c3 f0 f1 f2 f3 hl hb5 HP5 HPK HPS HDT
        go_upto_region 20 with (fail)
        have HPZ := HPN
        have hmk := refO_ok HO.out
        have hTm := fun V => HT.out (⟨valD D, b, 3, valD (digL tq)⟩ : Mv) V hmk
        clear hmk
        by_cases hok : okText (⟨valD D, b, 3, valD (digL tq)⟩ : Mv) = true
        · by_cases hts : textL (⟨valD D, b, 3, valD (digL tq)⟩ : Mv) = s
          · have HR := Lib.hid (show refR s = .tuple #[.agg #[.int .i64 (valD D), .int .i64 b, .int .u8 3, .int .i64 (valD (digL tq))], .int .i64 0] by unfold refR; rw [HO.out]; simp only; rw [if_pos ⟨hok, hts⟩]; rfl)
            have hr : textR (⟨valD D, b, 3, valD (digL tq)⟩ : Mv) = .tuple #[.string (strB s), .int .i64 0] := by unfold textR; rw [if_pos hok, hts]
            rw [hr] at hTm
            have HTM := Lib.hid hTm
            clear hTm hr hts hok HO
            unfold mvV at HTM
            obtain ⟨h1, h2, h3⟩ := HPZ.out
            obtain ⟨⟨c0, c1, c2, c3⟩, -, -⟩ := four_c h2
            clear h1 h2 h3
            go_upto_region 21 with (go_at_call 43; refine (HTM.out _).mono ?_; rintro e X9 ⟨rfl, hb9⟩)
            obtain ⟨h1, h2, h3⟩ := HPZ.out.call hb9
            obtain ⟨⟨q0, q1, q2, q3⟩, ⟨f0, f1, f2, f3⟩, -⟩ := four_c h1
            obtain ⟨⟨d0, d1, d2, d3⟩, -, -⟩ := four_c h2
            clear h1 h2 c0 c1 c2 c3 hb9
            go_wp2
            refine bodyPost_ret (v := .tuple #[.agg #[.int .i64 (valD D), .int .i64 b, .int .u8 3, .int .i64 (valD (digL tq))], .int .i64 0]) (by simp [results, Tryz.results44, go_sem, q0, q1, q2, q3]) rfl ⟨by rw [HR.out], ?_⟩
            exact below4s h3 (Nat.le_refl _)
          · have HR := Lib.hid (show refR s = .tuple #[.agg #[.int .i64 0, .int .i64 0, .int .u8 0, .int .i64 0], .int .i64 4] by unfold refR; rw [HO.out]; simp only; rw [if_neg (fun h => hts h.2)]; rfl)
            have hr : textR (⟨valD D, b, 3, valD (digL tq)⟩ : Mv) = .tuple #[.string (strB (textL (⟨valD D, b, 3, valD (digL tq)⟩ : Mv))), .int .i64 0] := by unfold textR; rw [if_pos hok]
            rw [hr] at hTm
            have he2 : ((strB (textL (⟨valD D, b, 3, valD (digL tq)⟩ : Mv))).toList == (strB s).toList) = false := by
              rw [ByteArray.toList_eq, ByteArray.toList_eq, strB_toList, strB_toList]
              simpa using hts
            have HTM := Lib.hid hTm
            clear hTm hr hts hok HO
            generalize strB (textL (⟨valD D, b, 3, valD (digL tq)⟩ : Mv)) = st at *
            unfold mvV at HTM
            obtain ⟨h1, h2, h3⟩ := HPZ.out
            obtain ⟨⟨c0, c1, c2, c3⟩, -, -⟩ := four_c h2
            clear h1 h2 h3
            go_upto_region 21 with (go_at_call 43; refine (HTM.out _).mono ?_; rintro e X9 ⟨rfl, hb9⟩)
            clear c0 c1 c2 c3
            obtain ⟨h1, h2, h3⟩ := HPZ.out.call hb9
            obtain ⟨⟨q0, q1, q2, q3⟩, ⟨f0, f1, f2, f3⟩, -⟩ := four_c h1
            clear h1 h2
            go_wp2
            refine bodyPost_ret (v := .tuple #[.agg #[.int .i64 0, .int .i64 0, .int .u8 0, .int .i64 0], .int .i64 4]) (by simp [results, Tryz.results44, go_sem, q0, q1, q2, q3]) rfl ⟨by rw [HR.out], ?_⟩
            exact below4s h3 (Nat.le_refl _)
        · have HR := Lib.hid (show refR s = .tuple #[.agg #[.int .i64 0, .int .i64 0, .int .u8 0, .int .i64 0], .int .i64 4] by unfold refR; rw [HO.out]; simp only; rw [if_neg (fun h => hok h.1)]; rfl)
          have hr : textR (⟨valD D, b, 3, valD (digL tq)⟩ : Mv) = .tuple #[.string ⟨#[]⟩, .int .i64 4] := by unfold textR; rw [if_neg hok]
          rw [hr] at hTm
          have HTM := Lib.hid hTm
          clear hTm hr hok HO
          unfold mvV at HTM
          obtain ⟨h1, h2, h3⟩ := HPZ.out
          obtain ⟨⟨c0, c1, c2, c3⟩, -, -⟩ := four_c h2
          clear h1 h2 h3
          go_upto_region 21 with (go_at_call 43; refine (HTM.out _).mono ?_; rintro e X9 ⟨rfl, hb9⟩)
          clear c0 c1 c2 c3
          obtain ⟨h1, h2, h3⟩ := HPZ.out.call hb9
          obtain ⟨⟨q0, q1, q2, q3⟩, ⟨f0, f1, f2, f3⟩, -⟩ := four_c h1
          clear h1 h2
          go_wp2
          refine bodyPost_ret (v := .tuple #[.agg #[.int .i64 0, .int .i64 0, .int .u8 0, .int .i64 0], .int .i64 4]) (by simp [results, Tryz.results44, go_sem, q0, q1, q2, q3]) rfl ⟨by rw [HR.out], ?_⟩
          exact below4s h3 (Nat.le_refl _)
    · have hst : ¬ cq :: tq = [33, 42] := by intro e; injection e with e1 e2; exact g3 e1
      rw [hk, if_neg hst] at hRQ
      have HO := Lib.hid hRQ
      rw [decide_eq_false hst] at he3
      have y1 : ((cq.toNat : Int) == 63) = false := by rw [beq_eq_false_iff_ne]; intro e; exact g1 (UInt8.toNat_inj.1 (by have e9 : (63 : UInt8).toNat = 63 := rfl; omega))
      have y2 : ((cq.toNat : Int) == 61) = false := by rw [beq_eq_false_iff_ne]; intro e; exact g2 (UInt8.toNat_inj.1 (by have e9 : (61 : UInt8).toNat = 61 := rfl; omega))
      have y3 : ((cq.toNat : Int) == 33) = false := by rw [beq_eq_false_iff_ne]; intro e; exact g3 (UInt8.toNat_inj.1 (by have e9 : (33 : UInt8).toNat = 33 := rfl; omega))
      clear hst hk g1 g2 g3 hRQ
      generalize (cq.toNat : Int) = y at *
      generalize strB (cq :: tq) = Q at *
      have HPK := HPS
      go_upto_region 17 with (fail)
      generalize X3 = X4 at *
      go_upto_region 18 with (go_at_call 100; refine (HDT.out _).mono ?_; rintro e X5 ⟨rfl, hb5⟩; have HP5 := Lib.hid (HPK.out.call hb5); obtain ⟨h1, h2, h3⟩ := HP5.out; obtain ⟨⟨c0, c1, c2, c3⟩, ⟨f0, f1, f2, f3⟩, hl⟩ := four_c h2; clear h1 h2 h3)
      have HPN := Lib.hid (HP5.out.setN (valD (digL tq)))
      generalize X5.setCell ⟨w.heap.size + 1, 3, none⟩ (.int .i64 (valD (digL tq))) = X6 at *
      clear c0 c1 c2 c3 f0 f1 f2 f3 hl hb5 HP5 HPK HPS HDT
      go_upto_region 20 with (fail)
      have HPZ := HPN
      have hmk := refO_ok HO.out
      have hTm := fun V => HT.out (⟨valD D, b, 0, valD (digL tq)⟩ : Mv) V hmk
      clear hmk
      by_cases hok : okText (⟨valD D, b, 0, valD (digL tq)⟩ : Mv) = true
      · by_cases hts : textL (⟨valD D, b, 0, valD (digL tq)⟩ : Mv) = s
        · have HR := Lib.hid (show refR s = .tuple #[.agg #[.int .i64 (valD D), .int .i64 b, .int .u8 0, .int .i64 (valD (digL tq))], .int .i64 0] by unfold refR; rw [HO.out]; simp only; rw [if_pos ⟨hok, hts⟩]; rfl)
          have hr : textR (⟨valD D, b, 0, valD (digL tq)⟩ : Mv) = .tuple #[.string (strB s), .int .i64 0] := by unfold textR; rw [if_pos hok, hts]
          rw [hr] at hTm
          have HTM := Lib.hid hTm
          clear hTm hr hts hok HO
          unfold mvV at HTM
          obtain ⟨h1, h2, h3⟩ := HPZ.out
          obtain ⟨⟨c0, c1, c2, c3⟩, -, -⟩ := four_c h2
          clear h1 h2 h3
          go_upto_region 21 with (go_at_call 43; refine (HTM.out _).mono ?_; rintro e X9 ⟨rfl, hb9⟩)
          obtain ⟨h1, h2, h3⟩ := HPZ.out.call hb9
          obtain ⟨⟨q0, q1, q2, q3⟩, ⟨f0, f1, f2, f3⟩, -⟩ := four_c h1
          obtain ⟨⟨d0, d1, d2, d3⟩, -, -⟩ := four_c h2
          clear h1 h2 c0 c1 c2 c3 hb9
          go_wp2
          refine bodyPost_ret (v := .tuple #[.agg #[.int .i64 (valD D), .int .i64 b, .int .u8 0, .int .i64 (valD (digL tq))], .int .i64 0]) (by simp [results, Tryz.results44, go_sem, q0, q1, q2, q3]) rfl ⟨by rw [HR.out], ?_⟩
          exact below4s h3 (Nat.le_refl _)
        · have HR := Lib.hid (show refR s = .tuple #[.agg #[.int .i64 0, .int .i64 0, .int .u8 0, .int .i64 0], .int .i64 4] by unfold refR; rw [HO.out]; simp only; rw [if_neg (fun h => hts h.2)]; rfl)
          have hr : textR (⟨valD D, b, 0, valD (digL tq)⟩ : Mv) = .tuple #[.string (strB (textL (⟨valD D, b, 0, valD (digL tq)⟩ : Mv))), .int .i64 0] := by unfold textR; rw [if_pos hok]
          rw [hr] at hTm
          have he2 : ((strB (textL (⟨valD D, b, 0, valD (digL tq)⟩ : Mv))).toList == (strB s).toList) = false := by
            rw [ByteArray.toList_eq, ByteArray.toList_eq, strB_toList, strB_toList]
            simpa using hts
          have HTM := Lib.hid hTm
          clear hTm hr hts hok HO
          generalize strB (textL (⟨valD D, b, 0, valD (digL tq)⟩ : Mv)) = st at *
          unfold mvV at HTM
          obtain ⟨h1, h2, h3⟩ := HPZ.out
          obtain ⟨⟨c0, c1, c2, c3⟩, -, -⟩ := four_c h2
          clear h1 h2 h3
          go_upto_region 21 with (go_at_call 43; refine (HTM.out _).mono ?_; rintro e X9 ⟨rfl, hb9⟩)
          clear c0 c1 c2 c3
          obtain ⟨h1, h2, h3⟩ := HPZ.out.call hb9
          obtain ⟨⟨q0, q1, q2, q3⟩, ⟨f0, f1, f2, f3⟩, -⟩ := four_c h1
          clear h1 h2
          go_wp2
          refine bodyPost_ret (v := .tuple #[.agg #[.int .i64 0, .int .i64 0, .int .u8 0, .int .i64 0], .int .i64 4]) (by simp [results, Tryz.results44, go_sem, q0, q1, q2, q3]) rfl ⟨by rw [HR.out], ?_⟩
          exact below4s h3 (Nat.le_refl _)
      · have HR := Lib.hid (show refR s = .tuple #[.agg #[.int .i64 0, .int .i64 0, .int .u8 0, .int .i64 0], .int .i64 4] by unfold refR; rw [HO.out]; simp only; rw [if_neg (fun h => hok h.1)]; rfl)
        have hr : textR (⟨valD D, b, 0, valD (digL tq)⟩ : Mv) = .tuple #[.string ⟨#[]⟩, .int .i64 4] := by unfold textR; rw [if_neg hok]
        rw [hr] at hTm
        have HTM := Lib.hid hTm
        clear hTm hr hok HO
        unfold mvV at HTM
        obtain ⟨h1, h2, h3⟩ := HPZ.out
        obtain ⟨⟨c0, c1, c2, c3⟩, -, -⟩ := four_c h2
        clear h1 h2 h3
        go_upto_region 21 with (go_at_call 43; refine (HTM.out _).mono ?_; rintro e X9 ⟨rfl, hb9⟩)
        clear c0 c1 c2 c3
        obtain ⟨h1, h2, h3⟩ := HPZ.out.call hb9
        obtain ⟨⟨q0, q1, q2, q3⟩, ⟨f0, f1, f2, f3⟩, -⟩ := four_c h1
        clear h1 h2
        go_wp2
        refine bodyPost_ret (v := .tuple #[.agg #[.int .i64 0, .int .i64 0, .int .u8 0, .int .i64 0], .int .i64 4]) (by simp [results, Tryz.results44, go_sem, q0, q1, q2, q3]) rfl ⟨by rw [HR.out], ?_⟩
        exact below4s h3 (Nat.le_refl _)

end Go.Proofs.YtoncdnelacolaaaGreatDoor.Ar
