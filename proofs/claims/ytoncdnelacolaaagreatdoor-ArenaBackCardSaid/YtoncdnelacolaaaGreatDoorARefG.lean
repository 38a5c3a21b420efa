/- The reference: Inner; what both say of it. -/
import Derived.Test.YtoncdnelacolaaaGreatDoorARefF
import Derived.Test.YtoncdnelacolaaaGreatDoorAInner
import Derived.Test.YtoncdnelacolaaaGreatDoorARefC
import Derived.Deep.DeepCutAuto
namespace Go.Proofs.YtoncdnelacolaaaGreatDoor.Ar
open Go Go.Proofs Go.RowKit Go.Sort Lx Ps

def zeroA : Ar := ⟨[], ⟨false, 0⟩, false⟩
/-- The arena of what stands for an identifier, and the error. -/
def innR (a : Ar) (id : Int) : Ar × Nat :=
  if checkE a ≠ 0 then (zeroA, checkE a) else if id < 1 ∨ (a.ids.length : Int) < id then (zeroA, 7) else match a.ids[id.toNat - 1]? with
  | none => (zeroA, 7)
  | some t => (⟨t.params.map fun b => ⟨[], b⟩, t.result, a.jumps || decide (0 < t.params.length)⟩, 0)
theorem innR_bad {a : Ar} {id : Int} (h : checkE a ≠ 0) : innR a id = (zeroA, checkE a) := by unfold innR; rw [if_pos h]
theorem innR_none {a : Ar} {id : Int} (h : checkE a = 0) (h1 : id < 1 ∨ (a.ids.length : Int) < id) : innR a id = (zeroA, 7) := by unfold innR; rw [if_neg (by simp [h]), if_pos h1]
theorem innR_some {a : Ar} {k : Nat} {t : Ty} (h : checkE a = 0) (ht : a.ids[k]? = some t) : innR a ((k : Int) + 1) = (⟨t.params.map fun b => ⟨[], b⟩, t.result, a.jumps || decide (0 < t.params.length)⟩, 0) := by
  have hk := (List.getElem?_eq_some_iff.1 ht).1
  have e : ((k : Int) + 1).toNat - 1 = k := by omega
  unfold innR
  rw [if_neg (by simp [h]), if_neg (by omega), e, ht]
theorem zeroA_in (w : World) : ArIn w (.slice none 0 0) zeroA := ⟨⟨none, 0, rfl, fun h => absurd h (by simp [zeroA])⟩, by simp [zeroA], fun x hx => by cases hx⟩
theorem inn_in {w : World} {v : Value} {t : Ty} {r : Bs} {j : Bool} (h : SlT w v (t.params.map fun b => ⟨[], b⟩)) (hl : t.params.length ≤ 1000) : ArIn w v ⟨t.params.map fun b => ⟨[], b⟩, r, j⟩ :=
  ⟨h, by rw [List.length_map]; omega, fun x hx => by obtain ⟨b, _, rfl⟩ := List.mem_map.1 hx; simp⟩

/-- Inner, whatever it is asked. -/
theorem apInner_any (ids : Value) (a : Ar) (id : Int) (w : World) (hin : ArIn w ids a) (hl : a.ids.length ≤ 1000) (hls : ∀ t ∈ a.ids, t.params.length ≤ 1000) :
    Calls Tryz.prog 36 #[arV ids a, .int .i64 id] w fun e w' => ∃ v, e = .returned (.tuple #[arV v (innR a id).1, .int .i64 ((innR a id).2 : Int)]) ∧ ArIn w' v (innR a id).1 ∧ Below w.heap.size w w' := by
  by_cases h0 : checkE a = 0
  · by_cases h1 : id < 1 ∨ (a.ids.length : Int) < id
    · rw [innR_none h0 h1]
      refine (inner_none ids a id w hin h0 (fun p hp => ?_)).mono fun e w' ⟨he, hb⟩ => ⟨_, he, zeroA_in w', hb⟩
      by_cases hz : id = 0
      · subst hz
        rw [plAt_root] at hp
        simp at hp
        subst hp
        rfl
      · rw [plAt_none_id (fun e => hz e.1) h1] at hp
        cases hp
    · obtain ⟨k, rfl⟩ : ∃ k : Nat, id = (k : Int) + 1 := ⟨(id - 1).toNat, by omega⟩
      have hk : k < a.ids.length := by omega
      have ht := List.getElem?_eq_getElem hk
      have hm := hls _ (List.getElem_mem hk)
      generalize a.ids[k] = t at ht hm
      rw [innR_some h0 ht]
      exact (inner_ok ids a k t w hin h0 ht hm (by omega)).mono fun e w' ⟨v, he, ho, hb⟩ => ⟨v, he, inn_in (SlT.of_own ho) hm, hb⟩
  · rw [innR_bad h0]
    exact (inner_bad ids a id w hin h0).mono fun e w' ⟨he, hb⟩ => ⟨_, he, zeroA_in w', hb⟩

/-- What a round of Inner keeps: what was appended so far. -/
structure InnI (h G : Nat) (wr : World) (B : Option Addr) (cb : Nat) (t : Ty) (J : Bool) (n : Nat) (u : Value) : Prop where
  own : wr.ownsRow (G + 2) 64 3 u n ((t.params.take n).flatMap tyCells)
  size : G + 2 ≤ wr.heap.size
  r1 : wr.heap[h + 1]? = some (.cells #[.slice none 0 0, .bool false, .int .i64 0, .bool false] 26 (0, 0))
  r7 : wr.heap[G]? = some (.cells #[.slice B t.params.length cb, .bool t.result.cell, .int .i64 t.result.n] 64 (0, 0))
  r8 : wr.heap[G + 1]? = some (.cells #[u, .bool t.result.cell, .int .i64 t.result.n, .bool J] 26 (0, 0))
theorem InnI.step {h G : Nat} {wr X w2 : World} {B : Option Addr} {cb n : Nat} {t : Ty} {J : Bool} {u u2 : Value} {x : Bs} (hi : InnI h G wr B cb t J n u) (htk : (t.params.take (n + 1)).flatMap tyCells = (t.params.take n).flatMap tyCells ++ tyCells x)
    (hX : Below wr.heap.size wr X) (hown2 : w2.ownsRow (G + 2) 64 3 u2 (n + 1) ((t.params.take n).flatMap tyCells ++ tyCells x)) (hgrow : X.grownBy w2 u.ownBlock) (hG : h + 1 < G) :
    InnI h G (w2.setCell ⟨G + 1, 0, none⟩ u2) B cb t J (n + 1) u2 := by
  have hz := hi.size
  have hzX := hX.size
  have hz2 := hgrow.size
  have hfar : ∀ b, b < G + 2 → ∀ o, wr.heap[b]? = some o → w2.heap[b]? = some o := fun b hb o ho => by
    have h1 : X.heap[b]? = some o := (hX.block b (by omega)).trans ho
    rw [hgrow.block b (by omega) (fun e => by
      have := (own_block hi.own e.symm).1
      omega)]
    exact h1
  have hset : ∀ b o, b ≠ G + 1 → w2.heap[b]? = some o → (w2.setCell ⟨G + 1, 0, none⟩ u2).heap[b]? = some o := fun b o hne ho => by
    rw [← ho]
    exact heap_setCell_other w2 ⟨G + 1, 0, none⟩ b u2 hne
  have r8 := hfar _ (by omega) _ hi.r8
  refine ⟨?_, ?_, ?_, ?_, ?_⟩
  · rw [htk]
    exact ownsRow_setCell_below hown2 (by show G + 1 < _; omega) _
  · rw [World.size_setCell]; omega
  · exact hset _ _ (by omega) (hfar _ (by omega) _ hi.r1)
  · exact hset _ _ (by omega) (hfar _ (by omega) _ hi.r7)
  · rw [setCell_eq_setRow w2 (G + 1) 0 _ _ _ u2 r8]
    exact setRow_heap w2 _ _ _ _ _ r8

set_option maxRecDepth 100000 in
set_option maxHeartbeats 2000000 in
theorem refInner_any (ids : Value) (a : Ar) (id : Int) (w : World) (hin : ArIn w ids a) (hl : a.ids.length ≤ 1000) (hls : ∀ t ∈ a.ids, t.params.length ≤ 1000) :
    Calls Tryz.prog 38 #[arV ids a, .int .i64 id] w fun e w' => ∃ v, e = .returned (.tuple #[arV v (innR a id).1, .int .i64 ((innR a id).2 : Int)]) ∧ ArIn w' v (innR a id).1 ∧ Below w.heap.size w w' := by
  have hC : ∀ W, Below w.heap.size w W → Calls Tryz.prog 24 #[arV ids a] W fun r w' => r = .returned (.int .i64 (checkE a : Int)) ∧ Below W.heap.size W w' := fun W hb => refCheck_any ids a W (hin.below hb)
  obtain ⟨A, cap, rfl, hA⟩ := hin.sl
  have hlen := hin.len
  clear hin
  obtain ⟨k0, k1⟩ := blocks2 w (.cells #[.slice A a.ids.length cap, .bool a.root.cell, .int .i64 a.root.n, .bool a.jumps] 26) (.cells #[.slice none 0 0, .bool false, .int .i64 0, .bool false] 26)
  have hb0 : Below w.heap.size w ((w.alloc (.cells #[.slice A a.ids.length cap, .bool a.root.cell, .int .i64 a.root.n, .bool a.jumps] 26)).alloc (.cells #[.slice none 0 0, .bool false, .int .i64 0, .bool false] 26)) := below_two
  unfold arV at *
  go_enter Tryz.func38, Tryz.ntmps38
  go_upto_region 1 with (fail)
  generalize (w.alloc (.cells #[.slice A a.ids.length cap, .bool a.root.cell, .int .i64 a.root.n, .bool a.jumps] 26)).alloc (.cells #[.slice none 0 0, .bool false, .int .i64 0, .bool false] 26) = V at k0 k1 hb0 ⊢
  obtain ⟨⟨c0, c1, c2, c3⟩, -, hl0⟩ := four_c k0
  have HK0 := Lib.hid k0
  have HK1 := Lib.hid k1
  have hl1 := (Array.getElem?_eq_some_iff.1 k1).1
  clear k0 k1
  by_cases he : checkE a = 0
  · rw [he] at hC
    have HC := Lib.hid hC
    clear hC
    go_upto_region 4 with (go_at_call 24; refine (HC.out _ hb0).mono ?_; rintro r w1 ⟨rfl, hb1⟩)
    have hb2 := hb0.trans (hb1.mono hb0.size)
    have M0 := heap_below hb1 hl0 HK0.out
    have M1 := heap_below hb1 hl1 HK1.out
    obtain ⟨⟨r0, r1, r2, r3⟩, -, x1⟩ := four_c M0
    clear hb1 c0 c1 c2 c3 HC HK0 HK1 hb0 hl0 hl1
    by_cases h1 : id < 1 ∨ (a.ids.length : Int) < id
    · have HI := Lib.hid (fun V => refIn_false (n := id) (l := 1) (m := (a.ids.length : Int)) (by omega) V)
      have HR := Lib.hid (innR_none he h1)
      obtain ⟨⟨q0, q1, q2, q3⟩, ⟨f0, f1, f2, f3⟩, x2⟩ := four_c M1
      clear he h1 hA
      go_wp2_with (go_at_call 90; refine (HI.out _).mono ?_; rintro e _ ⟨rfl, rfl⟩)
      refine bodyPost_ret (v := .tuple #[.agg #[.slice none 0 0, .bool false, .int .i64 0, .bool false], .int .i64 7]) (by simp [results, Tryz.results38, go_sem, q0, q1, q2, q3]) rfl ⟨.slice none 0 0, by rw [HR.out]; rfl, by rw [HR.out]; exact zeroA_in _, below4s hb2 (by omega)⟩
    · obtain ⟨k, rfl⟩ : ∃ k : Nat, id = (k : Int) + 1 := ⟨(id - 1).toNat, by omega⟩
      have hk : k < a.ids.length := by omega
      obtain ⟨b1, o1, rfl, hb1, hc1⟩ := hA (by omega)
      have ht := List.getElem?_eq_getElem hk
      obtain ⟨pv, p0, p1, p2, p3⟩ := hc1 k _ ht
      have hm := hls _ (List.getElem_mem hk)
      generalize a.ids[k] = t at ht p0 p1 p2 p3 hm
      have HR := Lib.hid (innR_some he ht)
      have p1' := (hb2.cell (p := ⟨b1, o1 + k * 3, none⟩) hb1).trans p1
      have p2' := (hb2.cell (p := ⟨b1, o1 + k * 3 + 1, none⟩) hb1).trans p2
      have p3' := (hb2.cell (p := ⟨b1, o1 + k * 3 + 2, none⟩) hb1).trans p3
      have e1 : IntKind.i64.wrap (((k : Int) + 1) - 1) = (k : Int) := by rw [IntWalk.i64_in _ (by omega)]; omega
      have HI := Lib.hid (fun V => refIn_true (n := (k : Int) + 1) (l := 1) (m := (a.ids.length : Int)) (by omega) V)
      have hp0 := p0.below hb2
      obtain ⟨B, cb, rfl, hB⟩ := p0
      have Hb1 := Lib.hid hb1
      clear hc1 hA p1 p2 p3 he h1 ht hls hp0
      go_upto_region 7 with (go_at_call 90; refine (HI.out _).mono ?_; rintro e w9 ⟨rfl, hw9⟩; subst w9)
      clear M0
      generalize hJ : a.jumps = j at r3 ⊢
      have HJ := Lib.hid hJ
      clear hJ
      have hlz : decide ((0 : Int) < (t.params.length : Int)) = decide (0 < t.params.length) := by rw [Bool.eq_iff_iff]; simp
      go_cut [8] (fun u wx => u = .pointer (some ⟨w1.heap.size + 1, 0, none⟩) ∧ wx = (w1.alloc (.cells #[.slice B t.params.length cb, .bool t.result.cell, .int .i64 t.result.n] 64)).alloc (.cells #[.slice none 0 0, .bool t.result.cell, .int .i64 t.result.n, .bool (j || decide (0 < t.params.length))] 26))
      case first =>
        cases j
        · go_wp2
          go_meet
          exact ⟨rfl, by simp⟩
        · go_wp2
          go_meet
          exact ⟨rfl, by simp⟩
      case rest =>
        obtain ⟨rfl, rfl⟩ := hcut
        obtain ⟨N7, N8⟩ := blocks2 w1 (.cells #[.slice B t.params.length cb, .bool t.result.cell, .int .i64 t.result.n] 64) (.cells #[.slice none 0 0, .bool t.result.cell, .int .i64 t.result.n, .bool (j || decide (0 < t.params.length))] 26)
        have m1 := (Array.getElem?_eq_some_iff.1 M1).1
        have N1 := (Below.heap_alloc (w1.alloc (.cells #[.slice B t.params.length cb, .bool t.result.cell, .int .i64 t.result.n] 64)) (.cells #[.slice none 0 0, .bool t.result.cell, .int .i64 t.result.n, .bool (j || decide (0 < t.params.length))] 26) _ (by simp; omega)).trans ((Below.heap_alloc w1 (.cells #[.slice B t.params.length cb, .bool t.result.cell, .int .i64 t.result.n] 64) _ m1).trans M1)
        have hbW := Below.alloc (hb2.alloc hb2.size (.cells #[.slice B t.params.length cb, .bool t.result.cell, .int .i64 t.result.n] 64)) (by simp; exact Nat.le_trans hb2.size (Nat.le_succ _)) (.cells #[.slice none 0 0, .bool t.result.cell, .int .i64 t.result.n, .bool (j || decide (0 < t.params.length))] 26)
        have hsz : ((w1.alloc (.cells #[.slice B t.params.length cb, .bool t.result.cell, .int .i64 t.result.n] 64)).alloc (.cells #[.slice none 0 0, .bool t.result.cell, .int .i64 t.result.n, .bool (j || decide (0 < t.params.length))] 26)).heap.size = w1.heap.size + 2 := by simp
        generalize (w1.alloc (.cells #[.slice B t.params.length cb, .bool t.result.cell, .int .i64 t.result.n] 64)).alloc (.cells #[.slice none 0 0, .bool t.result.cell, .int .i64 t.result.n, .bool (j || decide (0 < t.params.length))] 26) = X at N1 N7 N8 hbW hsz ⊢
        generalize hG : w1.heap.size = G at *
        generalize hJJ : (j || decide (0 < t.params.length)) = J at *
        have hGG : w.heap.size + 1 < G := by omega
        clear M1 hb2 r0 r1 r2 r3 x1 p1' p2' p3' hlz HI
        obtain ⟨i0, hi, hz0, hz1, hz2⟩ := info_parts ty_info
        go_wp2
        go_loopw [9] (fun c wr => ∃ (n : Nat) (u : Value), n ≤ t.params.length ∧ c = .int .i64 (n : Int) ∧ InnI w.heap.size G wr B cb t J n u ∧ Below w.heap.size w wr) (fun c _ => t.params.length - (intOf c).toNat)
        case atStart => exact ⟨0, .slice none 0 0, Nat.zero_le _, rfl, ⟨World.ownsRow_nil _ _ _ _, by omega, N1, N7, N8⟩, hbW⟩
        case round =>
          obtain ⟨n, u, hn, rfl, hci, hb⟩ := hrel
          obtain ⟨Ao, co, rfl⟩ := own_slice hci.own
          have HCI := Lib.hid hci
          have hsr := hci.size
          obtain ⟨⟨u0, u1, u2, u3⟩, ⟨f0, f1, f2, f3⟩, hl2⟩ := four_c hci.r8
          have r0 := cell_of_row _ _ 0 _ _ _ hci.r7
          have hl7 := (Array.getElem?_eq_some_iff.1 hci.r7).1
          clear hci N1 N7 N8
          by_cases hlt : n < t.params.length
          · obtain ⟨b2, o2, rfl, hb2, hc2⟩ := hB (by omega)
            obtain ⟨q1, q2⟩ := hc2 n _ (List.getElem?_eq_getElem hlt)
            have q1' := (hb.cell (p := ⟨b2, o2 + n * 2, none⟩) hb2).trans q1
            have q2' := (hb.cell (p := ⟨b2, o2 + n * 2 + 1, none⟩) hb2).trans q2
            have htk := take_flat tyCells hlt
            generalize t.params[n] = x at q1' q2' htk
            have HT := Lib.hid htk
            clear q1 q2 hc2 hB htk
            have hfar0 : ∀ b, b < G + 2 → some b ≠ (Value.slice Ao n co).ownBlock := fun b hb e => by have := (World.ownsRow.lt HCI.out.own b e.symm).1; omega
            have HFAR := Lib.hid hfar0
            clear hfar0
            go_upto_region 11 with (fail)
            go_region_law (refine step_append_lies _ (by rfl) _ _ _ (by rfl) (G + 2) 64 i0 _ 3 40 Tryz.underlying22 hi hz0 hz1 hz2 rfl (by omega) _ _ _ (by rfl) (HCI.out.own.alloc _) ⟨wr.heap.size, 0, none⟩ 1 1 (tyCells x) (by rfl) (by rfl) (World.news_of_block (cs := #[.slice none 0 0, .bool x.cell, .int .i64 x.n]) (t := 64) (fr := (0, 0)) (heap_alloc_new wr _)) (fun u hu => by simp [tyCells] at hu; rcases hu with rfl | rfl | rfl <;> rfl) (by omega) (by unfold maxLen; omega) (by omega) (by simp; omega) (wr.heap.size + 1) (by simp) ?_; intro gg cg w2 hown2 hgrow hat hlt2; have hbX := ((Below.refl wr.heap.size wr).alloc (Nat.le_refl _) (.cells #[.slice none 0 0, .bool x.cell, .int .i64 x.n] 64)).drew; have e0 := (hgrow.cell_far ⟨G + 1, 0, none⟩ (Nat.lt_of_lt_of_le hl2 hbX.size) (HFAR.out (G + 1) (by omega))).trans ((hbX.cell (p := ⟨G + 1, 0, none⟩) hl2).trans u0); have e1 := (hgrow.frozen_far ⟨G + 1, 0, none⟩ (Nat.lt_of_lt_of_le hl2 hbX.size) (HFAR.out (G + 1) (by omega))).trans ((hbX.frozen (p := ⟨G + 1, 0, none⟩) hl2).trans f0))
            all_goals
              go_wp2
              go_roundw
              case rel => exact ⟨n + 1, _, by omega, by go_num, HCI.out.step HT.out hbX hown2 hgrow (by omega), ((hb.trans (hbX.mono hb.size)).grown hgrow (Nat.le_trans hb.size hbX.size) (fun j e => by have := (own_block HCI.out.own e).1; omega)).setCell (by show w.heap.size ≤ G + 1; omega) _⟩
              case measure => simp [intOf]; omega
          · have hkN : n = t.params.length := by omega
            subst hkN
            obtain ⟨⟨g0, g1, g2, g3⟩, ⟨m0, m1, m2, m3⟩, -⟩ := four_c HCI.out.r1
            have hown := HCI.out.own
            rw [List.take_length] at hown
            have HO := Lib.hid hown
            clear hown hB
            go_wp2
            refine bodyPost_ret (v := .tuple #[.agg #[.slice Ao t.params.length co, .bool t.result.cell, .int .i64 t.result.n, .bool J], .int .i64 0]) (by simp [results, Tryz.results38, go_sem, g0, g1, g2, g3]) rfl ⟨.slice Ao t.params.length co, by rw [HR.out]; show _ = Ending.returned (Value.tuple #[Value.agg #[_, _, _, Value.bool (a.jumps || decide (0 < t.params.length))], _]); rw [HJ.out, hJJ]; rfl, by rw [HR.out]; exact inn_in (SlT.of_own (own4s HO.out (by omega))) hm, below4s hb (by omega)⟩
  · have HR := Lib.hid (innR_bad (id := id) he)
    generalize checkE a = e at *
    have hne : ((e : Int) != 0) = true := by simp; omega
    have HC := Lib.hid hC
    clear hC he hA
    go_upto_region 2 with (go_at_call 24; refine (HC.out _ hb0).mono ?_; rintro r w1 ⟨rfl, hb1⟩)
    have hb2 := hb0.trans (hb1.mono hb0.size)
    obtain ⟨⟨q0, q1, q2, q3⟩, ⟨f0, f1, f2, f3⟩, x2⟩ := four_c (heap_below hb1 hl1 HK1.out)
    clear HC HK0 HK1 c0 c1 c2 c3 hb1
    go_wp2
    refine bodyPost_ret (v := .tuple #[.agg #[.slice none 0 0, .bool false, .int .i64 0, .bool false], .int .i64 (e : Int)]) (by simp [results, Tryz.results38, go_sem, q0, q1, q2, q3]) rfl ⟨.slice none 0 0, by rw [HR.out]; rfl, by rw [HR.out]; exact zeroA_in _, below4s hb2 (by omega)⟩

end Go.Proofs.YtoncdnelacolaaaGreatDoor.Ar
