/- The reference: Add. -/
import Derived.Test.YtoncdnelacolaaaGreatDoorARefG
import Derived.OneCell
namespace Go.Proofs.YtoncdnelacolaaaGreatDoor.Ar
open Go Go.Proofs Go.RowKit Go.Sort Lx Ps

/-- An arena with further types, and the error. -/
def addA (a : Ar) (l : List Ty) : Ar := ⟨a.ids ++ l, a.root, a.jumps⟩
def addR (a : Ar) (l : List Ty) : Ar × Nat :=
  if checkE a ≠ 0 then (zeroA, checkE a) else if checkE (addA a l) ≠ 0 then (zeroA, checkE (addA a l)) else (addA a l, 0)
theorem addR_bad {a : Ar} {l : List Ty} (h : checkE a ≠ 0) : addR a l = (zeroA, checkE a) := by unfold addR; rw [if_pos h]
theorem addR_no {a : Ar} {l : List Ty} (h : checkE a = 0) (h1 : checkE (addA a l) ≠ 0) : addR a l = (zeroA, checkE (addA a l)) := by unfold addR; rw [if_neg (by simp [h]), if_pos h1]
theorem addR_ok {a : Ar} {l : List Ty} (h : checkE a = 0) (h1 : checkE (addA a l) = 0) : addR a l = (addA a l, 0) := by unfold addR; rw [if_neg (by simp [h]), if_neg (by simp [h1])]

/-- A row of one type stays where a cell of a block of another type is stored. -/
theorem own_set_ty {W : World} {base n size G o : Nat} {e T : TypeId} {v x : Value} {xs : List Value} {cs : Array Value} {fr : Nat × Nat} (h : W.ownsRow base e size v n xs) (hG : W.heap[G]? = some (.cells cs T fr)) (hne : e ≠ T) :
    (W.setCell ⟨G, o, none⟩ x).ownsRow base e size v n xs := by
  refine ⟨h.1, ?_⟩
  rcases h.2 with h0 | ⟨g, cap, cur, rfl, hb, hg, rest⟩
  · exact .inl h0
  · refine .inr ⟨g, cap, cur, rfl, hb, ?_, rest⟩
    rw [heap_setCell_other W ⟨G, o, none⟩ g x (fun e1 => ?_)]
    · exact hg
    · have e2 : g = G := e1
      subst e2
      rw [hG] at hg
      simp at hg
      exact hne hg.2.1.symm

/-- What a round of Add keeps: what was appended so far. -/
structure AddI (h G B : Nat) (wr : World) (r : Array Value) (L : List Ty) (u : Value) (ps : List Value) : Prop where
  own : wr.ownsRow B 64 3 u L.length (tyRow ps L)
  cps : Cps wr B ps L
  r1 : wr.heap[h + 1]? = some (.cells #[.slice none 0 0, .bool false, .int .i64 0, .bool false] 26 (0, 0))
  rG : wr.heap[G]? = some (.cells (#[u] ++ r) 26 (0, 0))
  lt : h + 1 < B
  size : B ≤ wr.heap.size
  ge : B ≤ G
theorem AddI.step {h G B g1 cap1 : Nat} {wr w1 X w2 : World} {r : Array Value} {L : List Ty} {u u2 : Value} {ps : List Value} {x : Ty} (hi : AddI h G B wr r L u ps)
    (hb3 : Below wr.heap.size wr w1) (hown1 : w1.ownsRow wr.heap.size 24 2 (.slice (some ⟨g1, 0, none⟩) x.params.length cap1) x.params.length (x.params.flatMap bsVals)) (hX : Below w1.heap.size w1 X)
    (hown2 : w2.ownsRow B 64 3 u2 (L.length + 1) (tyRow ps L ++ [.slice (some ⟨g1, 0, none⟩) x.params.length cap1, .bool x.result.cell, .int .i64 x.result.n])) (hgrow : X.grownBy w2 u.ownBlock) :
    AddI h G B (w2.setCell ⟨G, 0, none⟩ u2) r (L ++ [x]) u2 (ps ++ [.slice (some ⟨g1, 0, none⟩) x.params.length cap1]) := by
  have hz1 := hb3.size
  have hzX := hX.size
  have hz2 := hgrow.size
  have hsz := hi.size
  have hlt := hi.lt
  have hlG := (Array.getElem?_eq_some_iff.1 hi.rG).1
  have hbX : Below wr.heap.size wr X := hb3.trans (hX.mono hz1)
  have hownX : X.ownsRow B 64 3 u L.length (tyRow ps L) := own_below hi.own hbX
  have hG2 : w2.heap[G]? = some (.cells (#[u] ++ r) 26 (0, 0)) := by
    have h1 : X.heap[G]? = _ := (hbX.block G hlG).trans hi.rG
    rw [hgrow.block G (by omega) (fun e => by
      obtain ⟨_, _, cur, hc⟩ := own_block hownX e.symm
      rw [h1] at hc
      simp at hc)]
    exact h1
  have hr1 : w2.heap[h + 1]? = some (.cells #[.slice none 0 0, .bool false, .int .i64 0, .bool false] 26 (0, 0)) := by
    have h1 : X.heap[h + 1]? = _ := (hbX.block (h + 1) (by omega)).trans hi.r1
    rw [hgrow.block (h + 1) (by omega) (fun e => by
      have := (own_block hownX e.symm).1
      omega)]
    exact h1
  have hkeep : ∀ (p : Value) (n : Nat) (xs : List Value), X.ownsRow B 24 2 p n xs → (w2.setCell ⟨G, 0, none⟩ u2).ownsRow B 24 2 p n xs := fun p n xs hp =>
    own_set_ty (hp.kept hgrow (own_apart hp hownX (by decide))) hG2 (by decide)
  have hne : h + 1 ≠ G := by have := hi.ge; omega
  refine ⟨?_, ?_, ?_, ?_, hlt, ?_, hi.ge⟩
  · rw [List.length_append, tyRow_push _ _ _ _ hi.cps.len]
    exact own_set_ty hown2 hG2 (by decide)
  · refine Cps.push ?_ ?_
    · exact hi.cps.map fun p n xs hp => hkeep p n xs (own_below hp hbX)
    · exact hkeep _ _ _ (own_below (World.ownsRow.mono hown1 hsz) hX)
  · rw [heap_setCell_other w2 ⟨G, 0, none⟩ (h + 1) u2 hne]
    exact hr1
  · rw [setCell_eq_setRow w2 G 0 _ _ _ u2 hG2]
    rw [setRow_heap w2 _ _ _ _ _ hG2]
    congr 1
    simp
  · rw [World.size_setCell]; omega

set_option maxRecDepth 100000 in
set_option maxHeartbeats 2000000 in
theorem refAdd_any (ids ts : Value) (a : Ar) (l : List Ty) (w : World) (hin : ArIn w ids a) (hts : SlT w ts l) (hl : a.ids.length ≤ 100) (hls : ∀ t ∈ a.ids, t.params.length ≤ 1000) (hl2 : l.length ≤ 100) (hls2 : ∀ t ∈ l, t.params.length ≤ 1000) :
    Calls Tryz.prog 40 #[arV ids a, ts] w fun e w' => ∃ v, e = .returned (.tuple #[arV v (addR a l).1, .int .i64 ((addR a l).2 : Int)]) ∧ ArIn w' v (addR a l).1 ∧ Below w.heap.size w w' := by
  have hC : ∀ W, Below w.heap.size w W → Calls Tryz.prog 24 #[arV ids a] W fun r w' => r = .returned (.int .i64 (checkE a : Int)) ∧ Below W.heap.size W w' := fun W hb => refCheck_any ids a W (hin.below hb)
  have hCo : ∀ W, Below w.heap.size w W → Calls Tryz.prog 18 #[arV ids a] W fun e w' => ∃ v ps, e = .returned (arV v a) ∧ w'.ownsRow W.heap.size 64 3 v a.ids.length (tyRow ps a.ids) ∧ Cps w' W.heap.size ps a.ids ∧ Below W.heap.size W w' := fun W hb => copy_own ids a W (hin.below hb) (by omega) hls
  obtain ⟨A, cap, rfl, -⟩ := hin.sl
  obtain ⟨A1, cap1', rfl, hA1⟩ := hts
  clear hin
  obtain ⟨k0, k1⟩ := blocks2 w (.cells #[.slice A a.ids.length cap, .bool a.root.cell, .int .i64 a.root.n, .bool a.jumps] 26) (.cells #[.slice none 0 0, .bool false, .int .i64 0, .bool false] 26)
  have hb0 : Below w.heap.size w ((w.alloc (.cells #[.slice A a.ids.length cap, .bool a.root.cell, .int .i64 a.root.n, .bool a.jumps] 26)).alloc (.cells #[.slice none 0 0, .bool false, .int .i64 0, .bool false] 26)) := below_two
  unfold arV at *
  go_enter Tryz.func40, Tryz.ntmps40
  go_upto_region 1 with (fail)
  generalize (w.alloc (.cells #[.slice A a.ids.length cap, .bool a.root.cell, .int .i64 a.root.n, .bool a.jumps] 26)).alloc (.cells #[.slice none 0 0, .bool false, .int .i64 0, .bool false] 26) = V at k0 k1 hb0 ⊢
  obtain ⟨⟨c0, c1, c2, c3⟩, -, hl0⟩ := four_c k0
  have HK0 := Lib.hid k0
  have HK1 := Lib.hid k1
  have hl1 := (Array.getElem?_eq_some_iff.1 k1).1
  clear k0 k1
  by_cases he : checkE a = 0
  · rw [he] at hC
    have HC := Lib.hid hC
    have HCo := Lib.hid hCo
    clear hC hCo
    go_upto_region 4 with (go_at_call 24; refine (HC.out _ hb0).mono ?_; rintro r w1 ⟨rfl, hb1⟩)
    have hb2 := hb0.trans (hb1.mono hb0.size)
    have M0 := heap_below hb1 hl0 HK0.out
    have M1 := heap_below hb1 hl1 HK1.out
    obtain ⟨⟨r0, r1, r2, r3⟩, -, x1⟩ := four_c M0
    have x2 := (Array.getElem?_eq_some_iff.1 M1).1
    clear hb1 c0 c1 c2 c3 HC HK0 HK1 hb0 hl0 hl1
    go_upto_region 5 with (go_at_call 18; refine (HCo.out _ hb2).mono ?_; rintro r w2 ⟨v0, ps, rfl, hown, hcps, hb3⟩; obtain ⟨A0, c0', rfl⟩ := own_slice hown)
    have hbX := (Below.refl w2.heap.size w2).alloc (Nat.le_refl _) (.cells #[.slice A0 a.ids.length c0', .bool a.root.cell, .int .i64 a.root.n, .bool a.jumps] 26)
    have hIni : AddI w.heap.size w2.heap.size w1.heap.size (w2.alloc (.cells #[.slice A0 a.ids.length c0', .bool a.root.cell, .int .i64 a.root.n, .bool a.jumps] 26)) #[.bool a.root.cell, .int .i64 a.root.n, .bool a.jumps] a.ids (.slice A0 a.ids.length c0') ps :=
      ⟨own_below hown hbX, hcps.map fun p n xs hp => own_below hp hbX, (Below.heap_alloc w2 _ _ (Nat.lt_of_lt_of_le x2 hb3.size)).trans (heap_below hb3 x2 M1), heap_alloc_new w2 _, x2, Nat.le_trans hb3.size (by simp), hb3.size⟩
    have hbW : Below w.heap.size w (w2.alloc (.cells #[.slice A0 a.ids.length c0', .bool a.root.cell, .int .i64 a.root.n, .bool a.jumps] 26)) := (hb2.trans (hb3.mono hb2.size)).alloc (Nat.le_trans hb2.size hb3.size) _
    have HHB := Lib.hid hb2.size
    clear hown hcps hb3 hbX M0 M1 r0 r1 r2 r3 x1 x2 HCo hb2
    generalize w2.alloc (.cells #[.slice A0 a.ids.length c0', .bool a.root.cell, .int .i64 a.root.n, .bool a.jumps] 26) = X at hIni hbW ⊢
    generalize w2.heap.size = G at *
    generalize w1.heap.size = B at *
    obtain ⟨i0, hi, hz0, hz1, hz2⟩ := info_parts ty_info2
    go_wp2
    go_loopw [8] (fun c wr => ∃ (n : Nat) (u : Value) (ps : List Value), n ≤ l.length ∧ c = .int .i64 (n : Int) ∧ AddI w.heap.size G B wr #[.bool a.root.cell, .int .i64 a.root.n, .bool a.jumps] (a.ids ++ l.take n) u ps ∧ Below w.heap.size w wr) (fun c _ => l.length - (intOf c).toNat)
    case atStart => exact ⟨0, _, ps, Nat.zero_le _, rfl, by rw [List.take_zero, List.append_nil]; exact hIni, hbW⟩
    case round =>
      obtain ⟨n, u, ps2, hn, rfl, hci, hb⟩ := hrel
      clear hIni hbW
      obtain ⟨Ao, co, rfl⟩ := own_slice hci.own
      have HCI := Lib.hid hci
      obtain ⟨⟨u0, u1, u2, u3⟩, ⟨f0, f1, f2, f3⟩, hl2⟩ := four_c (by have := hci.rG; simpa using this : wr.heap[G]? = some (.cells #[.slice Ao (a.ids ++ l.take n).length co, .bool a.root.cell, .int .i64 a.root.n, .bool a.jumps] 26 (0, 0)))
      have hsr := hci.size
      have hkl : (a.ids ++ l.take n).length ≤ 200 := by rw [List.length_append, List.length_take]; omega
      clear hci
      by_cases hlt : n < l.length
      · obtain ⟨b1, o1, rfl, hb1, hc1⟩ := hA1 (by omega)
        obtain ⟨pv, p0, p1, p2, p3⟩ := hc1 n _ (List.getElem?_eq_getElem hlt)
        have p1' := (hb.cell (p := ⟨b1, o1 + n * 3, none⟩) hb1).trans p1
        have p2' := (hb.cell (p := ⟨b1, o1 + n * 3 + 1, none⟩) hb1).trans p2
        have p3' := (hb.cell (p := ⟨b1, o1 + n * 3 + 2, none⟩) hb1).trans p3
        have p0' := p0.below hb
        have htk := List.take_succ_eq_append_getElem hlt
        have hxl := hls2 _ (List.getElem_mem hlt)
        generalize l[n] = x at p0' p1' p2' p3' htk hxl
        have hcal : ∀ W, Below wr.heap.size wr W → Calls Tryz.prog 54 #[tyV pv x] W fun e w' => ∃ g cap, e = .returned (.agg #[.slice (some ⟨g, 0, none⟩) x.params.length cap, .bool x.result.cell, .int .i64 x.result.n]) ∧
          w'.ownsRow W.heap.size 24 2 (.slice (some ⟨g, 0, none⟩) x.params.length cap) x.params.length (x.params.flatMap bsVals) ∧ Below W.heap.size W w' := fun W hW => copyType_any x pv W (p0'.below hW) hxl
        unfold tyV at hcal
        have HC := Lib.hid hcal
        have HT := Lib.hid htk
        obtain ⟨A2, d2, rfl, -⟩ := p0'
        have hb1r : b1 < wr.heap.size := Nat.lt_of_lt_of_le hb1 hb.size
        have HB := Lib.hid hb
        have hBw := HHB.out
        clear hcal p1 p2 p3 p0 hc1 hA1 htk
        generalize hLL : (a.ids ++ l.take n) = L at *
        have HLL := Lib.hid hLL
        clear hLL
        go_upto_region 8 with (fail)
        go_region_law (first
          | (go_simp; go_at_call 54; refine (HC.out _ (by first | exact Below.refl _ _ | exact (Below.refl _ _).drew)).mono ?_; rintro e w1 ⟨g1, cap1, rfl, hown1, hb4⟩; have hb3 : Below wr.heap.size wr w1 := ⟨hb4.os, hb4.tape, hb4.output, hb4.size, hb4.block⟩; have q0 := (hb3.cell (p := ⟨G, 0, none⟩) hl2).trans u0; have q1 := (hb3.frozen (p := ⟨G, 0, none⟩) hl2).trans f0; have hz3 := hb3.size; have hzz : G < w1.heap.size := Nat.lt_of_lt_of_le hl2 hz3)
          | (refine step_append_lies _ (by rfl) _ _ _ (by rfl) B 64 i0 _ 3 40 Tryz.underlying22 hi hz0 hz1 hz2 rfl (by omega) _ _ _ (by rfl) ((own_below HCI.out.own hb3).alloc _) ⟨w1.heap.size, 0, none⟩ 1 1 [.slice (some ⟨g1, 0, none⟩) x.params.length cap1, .bool x.result.cell, .int .i64 x.result.n] (by rfl) (by rfl) (World.news_of_block (cs := #[.slice (some ⟨g1, 0, none⟩) x.params.length cap1, .bool x.result.cell, .int .i64 x.result.n]) (t := 64) (fr := (0, 0)) (heap_alloc_new w1 _)) (fun u hu => by simp at hu; rcases hu with rfl | rfl | rfl <;> rfl) (by omega) (by unfold maxLen; omega) (by omega) (by simp; omega) (w1.heap.size + 1) (by simp) ?_; intro gg cg w2 hown2 hgrow hat hlt2; have hbX := (Below.refl w1.heap.size w1).alloc (Nat.le_refl _) (.cells #[.slice (some ⟨g1, 0, none⟩) x.params.length cap1, .bool x.result.cell, .int .i64 x.result.n] 64); have hne : some G ≠ (Value.slice Ao L.length co).ownBlock := (fun e => by (obtain ⟨_, _, cur, hc⟩ := own_block HCI.out.own e.symm; rw [HCI.out.rG] at hc; simp at hc)); have e0 := (hgrow.cell_far ⟨G, 0, none⟩ (Nat.lt_of_lt_of_le hzz hbX.size) hne).trans ((hbX.cell (p := ⟨G, 0, none⟩) hzz).trans q0); have e1 := (hgrow.frozen_far ⟨G, 0, none⟩ (Nat.lt_of_lt_of_le hzz hbX.size) hne).trans ((hbX.frozen (p := ⟨G, 0, none⟩) hzz).trans q1)))
        all_goals
          go_wp2
          go_roundw
          case rel => exact ⟨n + 1, _, _, by omega, by go_num, by rw [HT.out, ← List.append_assoc, HLL.out]; exact HCI.out.step hb3 hown1 hbX hown2 hgrow, ((HB.out.trans ((hb3.trans (hbX.mono hz3)).mono HB.out.size)).grown hgrow (Nat.le_trans (Nat.le_trans HB.out.size hz3) hbX.size) (fun j e => Nat.le_trans hBw (own_block HCI.out.own e).1)).setCell (Nat.le_trans hBw HCI.out.ge) _⟩
          case measure => simp [intOf]; omega
      · have hkN : n = l.length := by omega
        subst hkN
        have hci := HCI.out
        rw [List.take_length] at hci
        have hcall : Calls Tryz.prog 24 #[.agg #[.slice Ao (a.ids ++ l).length co, .bool a.root.cell, .int .i64 a.root.n, .bool a.jumps]] wr fun r w' => r = .returned (.int .i64 (checkE (addA a l) : Int)) ∧ Below wr.heap.size wr w' :=
          refCheck_any (.slice Ao (a.ids ++ l).length co) (addA a l) wr ⟨SlT.of_rows hci.own hci.cps, by show (a.ids ++ l).length ≤ _; rw [List.length_append]; omega, fun x hx => by
            rcases List.mem_append.1 hx with h | h
            · have := hls _ h; omega
            · have := hls2 _ h; omega⟩
        rw [List.take_length] at u0
        have hin1 : ArIn wr (.slice Ao (a.ids ++ l).length co) (addA a l) := ⟨SlT.of_rows hci.own hci.cps, by show (a.ids ++ l).length ≤ _; rw [List.length_append]; omega, fun x hx => by
            rcases List.mem_append.1 hx with h | h
            · have := hls _ h; omega
            · have := hls2 _ h; omega⟩
        have HIN := Lib.hid hin1
        have HR1 := Lib.hid hci.r1
        have hlr1 := (Array.getElem?_eq_some_iff.1 hci.r1).1
        have HRG := Lib.hid (by have := hci.rG; simpa using this : wr.heap[G]? = some (.cells #[.slice Ao (a.ids ++ l).length co, .bool a.root.cell, .int .i64 a.root.n, .bool a.jumps] 26 (0, 0)))
        have HSL := Lib.hid (fun (W : World) (ho : W.ownsRow B 64 3 (.slice Ao (a.ids ++ l).length co) (a.ids ++ l).length (tyRow ps2 (a.ids ++ l))) (hc : Cps W B ps2 (a.ids ++ l)) => SlT.of_rows ho hc)
        have HO := Lib.hid hci.own
        have HP := Lib.hid hci.cps
        have HLT := Lib.hid hci.lt
        have HIL := Lib.hid hin1.len
        have HILS := Lib.hid hin1.lens
        clear hci hin1 hA1
        generalize (a.ids ++ l).length = N at *
        by_cases he2 : checkE (addA a l) = 0
        · rw [he2] at hcall
          have HR := Lib.hid (addR_ok he he2)
          have HC := Lib.hid hcall
          clear hcall he he2
          go_upto_region 12 with (go_at_call 24; refine HC.out.mono ?_; rintro r w5 ⟨rfl, hb5⟩)
          have hb6 := hb.trans (hb5.mono hb.size)
          obtain ⟨⟨q0, q1, q2, q3⟩, -, -⟩ := four_c (heap_below hb5 hl2 HRG.out)
          obtain ⟨⟨s0, s1, s2, s3⟩, ⟨m0, m1, m2, m3⟩, -⟩ := four_c (heap_below hb5 hlr1 HR1.out)
          clear u0 u1 u2 u3 f0 f1 f2 f3 HC
          go_wp2
          refine bodyPost_ret (v := .tuple #[.agg #[.slice Ao N co, .bool a.root.cell, .int .i64 a.root.n, .bool a.jumps], .int .i64 0]) (by simp [results, Tryz.results40, go_sem, s0, s1, s2, s3]) rfl ⟨.slice Ao N co, by rw [HR.out]; rfl, ?_, below4s hb6 (by omega)⟩
          rw [HR.out]
          exact ⟨HSL.out _ (own4s (own_below HO.out hb5) HLT.out) (HP.out.map fun p n xs hp => own4s (own_below hp hb5) HLT.out), HIL.out, HILS.out⟩
        · have hne : ((checkE (addA a l) : Int) != 0) = true := by simp; omega
          have HR := Lib.hid (addR_no he he2)
          have HC := Lib.hid hcall
          clear hcall he he2
          generalize checkE (addA a l) = e2 at *
          go_upto_region 11 with (go_at_call 24; refine HC.out.mono ?_; rintro r w5 ⟨rfl, hb5⟩)
          have hb6 := hb.trans (hb5.mono hb.size)
          obtain ⟨⟨s0, s1, s2, s3⟩, ⟨m0, m1, m2, m3⟩, -⟩ := four_c (heap_below hb5 hlr1 HR1.out)
          clear u0 u1 u2 u3 f0 f1 f2 f3 HC
          go_wp2
          refine bodyPost_ret (v := .tuple #[.agg #[.slice none 0 0, .bool false, .int .i64 0, .bool false], .int .i64 (e2 : Int)]) (by simp [results, Tryz.results40, go_sem, s0, s1, s2, s3]) rfl ⟨.slice none 0 0, by rw [HR.out]; rfl, by rw [HR.out]; exact zeroA_in _, below4s hb6 (by omega)⟩
  · have HR := Lib.hid (addR_bad (l := l) he)
    generalize checkE a = e at *
    have hne : ((e : Int) != 0) = true := by simp; omega
    have HC := Lib.hid hC
    clear hC he hA1 hCo
    go_upto_region 2 with (go_at_call 24; refine (HC.out _ hb0).mono ?_; rintro r w1 ⟨rfl, hb1⟩)
    have hb2 := hb0.trans (hb1.mono hb0.size)
    obtain ⟨⟨q0, q1, q2, q3⟩, ⟨f0, f1, f2, f3⟩, x2⟩ := four_c (heap_below hb1 hl1 HK1.out)
    clear HC HK0 HK1 c0 c1 c2 c3 hb1
    go_wp2
    refine bodyPost_ret (v := .tuple #[.agg #[.slice none 0 0, .bool false, .int .i64 0, .bool false], .int .i64 (e : Int)]) (by simp [results, Tryz.results40, go_sem, q0, q1, q2, q3]) rfl ⟨.slice none 0 0, by rw [HR.out]; rfl, by rw [HR.out]; exact zeroA_in _, below4s hb2 (by omega)⟩

end Go.Proofs.YtoncdnelacolaaaGreatDoor.Ar
