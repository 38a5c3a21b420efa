/- ArenaBack: texts lead back; without its last byte a text is that of another one, or of none. -/
import Derived.Test.YtoncdnelacolaaaGreatDoorARefW
import Derived.Test.YtoncdnelacolaaaGreatDoorAAwake
import Derived.Test.YtoncdnelacolaaaGreatDoorASame
import Derived.Test.YtoncdnelacolaaaGreatDoorAReadE
import Derived.Test.YtoncdnelacolaaaGreatDoorALawC
namespace Go.Proofs.YtoncdnelacolaaaGreatDoor.Ar
open Go Go.Proofs Go.RowKit Go.Sort Lx Ps

theorem refR_form (s : List UInt8) : ∃ (x : Mv) (e : Nat), refR s = .tuple #[mvV x, .int .i64 (e : Int)] := by
  unfold refR
  split
  · exact ⟨_, 4, rfl⟩
  · split
    · exact ⟨_, 0, rfl⟩
    · exact ⟨_, 4, rfl⟩
theorem textR_form (m : Mv) : ∃ (x : ByteArray) (e : Nat), textR m = .tuple #[.string x, .int .i64 (e : Int)] := by
  unfold textR
  split
  · exact ⟨_, 0, rfl⟩
  · exact ⟨_, 4, rfl⟩

set_option maxRecDepth 100000 in
set_option maxHeartbeats 4000000 in
theorem arenaTexts_any (m : Mv) (sb : ByteArray) (w : World) (hm : MvOk m) (hG : Ga w) :
    Calls Tryz.prog 7 #[mvV m, .string sb] w fun e w' => e = .returned (.bool true) ∧ Below w.heap.size w w' := by
  obtain ⟨s, rfl⟩ : ∃ s, sb = strB s := ⟨sb.data.toList, (strB_eta sb).symm⟩
  have HA := Lib.hid (fun V (hb : Below w.heap.size w V) => awake_any V (hG.next hb))
  have hT := fun V (hb : Below w.heap.size w V) => text_any m V hm (hG.next hb)
  have hRT := fun V => refText_any m V hm
  have hRP := fun V => refParse_any s V
  have hP : s.length ≤ 200 → ∀ V, Below w.heap.size w V → Calls Tryz.prog 42 #[.string (strB s)] V fun e w' => e = .returned (refR s) ∧ Below V.heap.size V w' := fun hl V hb =>
    (parse_any s V (by omega) (hG.next hb)).mono fun e w' ⟨v, h1, h2, h3⟩ => ⟨by rw [h1, parseP_ref h2], h3⟩
  obtain ⟨x, ex, hx⟩ := refR_form s
  obtain ⟨tx, et, ht⟩ := textR_form m
  rw [hx] at hRP
  simp only [hx] at hP
  rw [ht] at hT hRT
  have hsz := strB_size s
  have k0 := heap_alloc_new w (.cells #[.int .i64 m.id, .int .i64 m.arg, .int .u8 (m.kind : Int), .int .i64 m.n] 40)
  have hb0 : Below w.heap.size w (w.alloc (.cells #[.int .i64 m.id, .int .i64 m.arg, .int .u8 (m.kind : Int), .int .i64 m.n] 40)) := (Below.refl _ _).alloc (Nat.le_refl _) _
  have hE : ∀ U : World, (Op.equalIn 10000 40 (.agg #[.int .i64 x.id, .int .i64 x.arg, .int .u8 (x.kind : Int), .int .i64 x.n]) (.agg #[.int .i64 x.id, .int .i64 x.arg, .int .u8 (x.kind : Int), .int .i64 x.n])).run Tryz.prog U = .ok true U := fun U => by rw [mv_equal x x U, (sameMv_iff x x).2 rfl]
  unfold mvV at *
  by_cases hl : s.length ≤ 200
  · have hl1 : ¬ (200 : Int) < (s.length : Int) := by omega
    have hP := hP hl
    have HT := Lib.hid hT
    have HRT := Lib.hid hRT
    have HRP := Lib.hid hRP
    have HP := Lib.hid hP
    clear hT hRT hRP hP hl hG hm hx ht
    generalize strB s = S at *
    go_enter Tryz.func7, Tryz.ntmps7
    go_upto_region 1 with (fail)
    generalize w.alloc (.cells #[.int .i64 m.id, .int .i64 m.arg, .int .u8 (m.kind : Int), .int .i64 m.n] 40) = V at k0 hb0 ⊢
    obtain ⟨⟨c0, c1, c2, c3⟩, -, hl0⟩ := four_c k0
    have HK := Lib.hid k0
    clear k0
    go_upto_region 5 with (first
      | (go_at_call 41; refine (HT.out _ hb0).mono ?_; rintro r w1 ⟨rfl, hb1⟩; have hb2 := hb0.trans (hb1.mono hb0.size))
      | (go_at_call 42; refine (HP.out _ hb2).mono ?_; rintro r w2 ⟨rfl, hb3⟩))
    have hv3 := hb1.trans (hb3.mono hb1.size)
    have hX : Below w2.heap.size w2 (w2.alloc (.cells #[.int .i64 x.id, .int .i64 x.arg, .int .u8 (x.kind : Int), .int .i64 x.n] 40)) := (Below.refl _ _).alloc (Nat.le_refl _) _
    have hvX := hv3.trans (hX.mono hv3.size)
    have NX := heap_alloc_new w2 (.cells #[.int .i64 x.id, .int .i64 x.arg, .int .u8 (x.kind : Int), .int .i64 x.n] 40)
    obtain ⟨⟨e0, e1, e2, e3⟩, -, -⟩ := four_c (heap_below hvX hl0 HK.out)
    clear c0 c1 c2 c3 hb1 hb2 hb3 hv3 hX HT HP
    generalize w2.alloc (.cells #[.int .i64 x.id, .int .i64 x.arg, .int .u8 (x.kind : Int), .int .i64 x.n] 40) = X at *
    generalize w2.heap.size = B2 at *
    have HNX := Lib.hid NX
    have hlX := (Array.getElem?_eq_some_iff.1 NX).1
    clear NX
    go_upto_region 7 with (first
      | (go_at_call 43; refine (HRT.out _).mono ?_; rintro r w4 ⟨rfl, hb4⟩)
      | (go_at_call 44; refine (HRP.out _).mono ?_; rintro r w5 ⟨rfl, hb5⟩))
    have hx5 := hb4.trans (hb5.mono hb4.size)
    have hY : Below w5.heap.size w5 (w5.alloc (.cells #[.int .i64 x.id, .int .i64 x.arg, .int .u8 (x.kind : Int), .int .i64 x.n] 40)) := (Below.refl _ _).alloc (Nat.le_refl _) _
    have hxY := hx5.trans (hY.mono hx5.size)
    have NY := heap_alloc_new w5 (.cells #[.int .i64 x.id, .int .i64 x.arg, .int .u8 (x.kind : Int), .int .i64 x.n] 40)
    have MY := heap_below hxY hlX HNX.out
    have hbY := hb0.trans ((hvX.trans (hxY.mono hvX.size)).mono hb0.size)
    clear e0 e1 e2 e3 hb4 hb5 hx5 hY hxY hvX HRT HRP HNX hlX hl0 HK hb0
    generalize w5.alloc (.cells #[.int .i64 x.id, .int .i64 x.arg, .int .u8 (x.kind : Int), .int .i64 x.n] 40) = Y at *
    generalize w5.heap.size = B5 at *
    obtain ⟨⟨c0, c1, c2, c3⟩, -, -⟩ := four_c NY
    obtain ⟨⟨e0, e1, e2, e3⟩, -, -⟩ := four_c MY
    clear NY MY
    go_wp2_with (go_at_call 17; refine (HA.out _ hbY).mono ?_; rintro r w9 ⟨rfl, hb9⟩)
    go_ret
    exact ⟨rfl, hbY.trans (hb9.mono hbY.size)⟩
  · have hl1 : (200 : Int) < (s.length : Int) := by omega
    clear hT hRT hRP hP hl hG hm hE hx ht
    generalize strB s = S at *
    go_enter Tryz.func7, Tryz.ntmps7
    go_wp2_with (go_at_call 17; refine (HA.out _ hb0).mono ?_; rintro r w9 ⟨rfl, hb9⟩)
    go_ret
    exact ⟨rfl, hb0.trans (hb9.mono hb0.size)⟩

end Go.Proofs.YtoncdnelacolaaaGreatDoor.Ar

namespace Go.Proofs.YtoncdnelacolaaaGreatDoor.Ar
open Go Go.Proofs Go.RowKit Go.Sort Lx Ps

theorem slice_to {s : List UInt8} (h : 1 ≤ s.length) (W : World) : (Instr.slice 9 (.string (strB s)) none (some (.int .i64 ((s.length : Int) - 1))) none).run Tryz.prog W = .ok (.string (strB (s.take (s.length - 1)))) W := by
  have e : (strB s).extract 0 ((s.length : Int) - 1).toNat = strB (s.take (s.length - 1)) := by
    unfold strB
    rw [ByteArray.extract_mk, show ((s.length : Int) - 1).toNat = s.length - 1 by omega]
    rfl
  have := run_slice_string_to_if W 9 (strB s) .i64 ((s.length : Int) - 1) Tryz.underlying9
  rw [this, if_pos ⟨by omega, by rw [strB_size]; omega⟩, e]
theorem refR_short {m : Mv} : ∃ (x : Mv) (e : Nat), refR ((textL m).take ((textL m).length - 1)) = .tuple #[mvV x, .int .i64 (e : Int)] ∧ (e = 4 ∨ (e = 0 ∧ sameMv x m = false)) := by
  have hpos : 1 ≤ (textL m).length := by rw [textL_form]; simp; omega
  unfold refR
  split
  · exact ⟨_, 4, rfl, .inl rfl⟩
  · rename_i x hx
    split
    · rename_i h
      refine ⟨x, 0, rfl, .inr ⟨rfl, ?_⟩⟩
      cases hs : sameMv x m
      · rfl
      · have e := (sameMv_iff x m).1 hs
        have h2 := congrArg List.length h.2
        rw [e, List.length_take] at h2
        omega
    · exact ⟨_, 4, rfl, .inl rfl⟩
theorem refR_whole {m : Mv} (hm : MvOk m) (ho : okText m = true) : refR (textL m) = .tuple #[mvV m, .int .i64 0] := by
  unfold refR
  rw [refO_text hm ho]
  simp only
  rw [if_pos ⟨ho, trivial⟩]
theorem arenaT_pos (a : Ar) : 1 ≤ (arenaT a).length := by
  rw [arW_all]
  have : ∀ k, 1 ≤ (arW a k).length := fun k => by
    unfold arW
    rw [List.singleton_append, Lib.join_cons, List.length_append]
    have : 1 ≤ (baseT a.root).length := by unfold baseT; split <;> simp <;> omega
    omega
  have h := this a.ids.length
  rw [List.length_append]
  omega
theorem readP_whole {a : Ar} (h0 : checkE a = 0) : readP (arenaT a) = (a, 0) := by
  unfold readP
  rw [arenaL_text (right_of h0), if_pos ⟨h0, rfl⟩]
theorem readP_short {a : Ar} : ((readP ((arenaT a).take ((arenaT a).length - 1))).2 = 4 ∧ (readP ((arenaT a).take ((arenaT a).length - 1))).1 = zA) ∨ ((readP ((arenaT a).take ((arenaT a).length - 1))).2 = 0 ∧ checkE (readP ((arenaT a).take ((arenaT a).length - 1))).1 = 0 ∧ sameAr a (readP ((arenaT a).take ((arenaT a).length - 1))).1 = false) := by
  have hpos := arenaT_pos a
  unfold readP
  split
  · rename_i h
    refine .inr ⟨rfl, h.1, ?_⟩
    cases hs : sameAr a (arenaL ((arenaT a).take ((arenaT a).length - 1)))
    · rfl
    · have e := sameAr_eq hs
      have h2 := congrArg List.length h.2
      rw [← e, List.length_take] at h2
      omega
  · exact .inl ⟨rfl, rfl⟩

set_option maxRecDepth 100000 in
set_option maxHeartbeats 8000000 in
theorem arenaBack_any (ids : Value) (a : Ar) (m : Mv) (w : World) (hin : ArIn w ids a) (hm : MvOk m) (hG : Ga w) :
    Calls Tryz.prog 15 #[arV ids a, mvV m] w fun e w' => e = .returned (.bool true) ∧ Below w.heap.size w w' := by
  have HA := Lib.hid (fun V (hb : Below w.heap.size w V) => awake_any V (hG.next hb))
  have HTX := Lib.hid (fun V (hb : Below w.heap.size w V) => text_any m V hm (hG.next hb))
  have HPA := Lib.hid (fun (s : List UInt8) (hs : s.length ≤ 4294967000) V (hb : Below w.heap.size w V) => (show Calls Tryz.prog 42 #[.string (strB s)] V fun e w' => e = .returned (refR s) ∧ Below V.heap.size V w' from (parse_any s V hs (hG.next hb)).mono fun e w' ⟨v, h1, h2, h3⟩ => ⟨by rw [h1, parseP_ref h2], h3⟩))
  have HRD := Lib.hid (fun (s : List UInt8) (hs : s.length ≤ 1000000) V (hb : Below w.heap.size w V) => read_any s V hs (hG.next hb))
  have HSH := Lib.hid (fun (A5 : Option Addr) (c5 : Nat) V (h : ArIn V (.slice A5 a.ids.length c5) a) (hb : Below w.heap.size w V) => show_any _ a V h (hG.next hb))
  have HTH := Lib.hid (fun V (hb : Below w.heap.size w V) => thin_any ids a V (hin.below hb))
  have HCK := Lib.hid (fun V (hb : Below w.heap.size w V) => refCheck_any ids a V (hin.below hb))
  have HIN := Lib.hid hin
  have HMV := Lib.hid hm
  have hsl := slice_to (s := textL m) (by rw [textL_form]; simp; omega)
  have hTl : (textL m).length ≤ 100 := by
    rw [textL_form, List.length_append, List.length_cons]
    have := placeT_len m hm
    have := valueT_len m hm
    omega
  have hTp : 1 ≤ (textL m).length := by rw [textL_form]; simp; omega
  obtain ⟨A, cap, rfl, -⟩ := hin.sl
  obtain ⟨k0, k1⟩ := blocks2 w (.cells #[.slice A a.ids.length cap, .bool a.root.cell, .int .i64 a.root.n, .bool a.jumps] 26) (.cells #[.int .i64 m.id, .int .i64 m.arg, .int .u8 (m.kind : Int), .int .i64 m.n] 40)
  have hb0 : Below w.heap.size w ((w.alloc (.cells #[.slice A a.ids.length cap, .bool a.root.cell, .int .i64 a.root.n, .bool a.jumps] 26)).alloc (.cells #[.int .i64 m.id, .int .i64 m.arg, .int .u8 (m.kind : Int), .int .i64 m.n] 40)) := below_two
  clear hG hin hm
  unfold arV mvV at *
  cases hok : okText m
  · have ht : textR m = .tuple #[.string ⟨#[]⟩, .int .i64 4] := by unfold textR; rw [hok]; rfl
    have hTX := HTX.out
    rw [ht] at hTX
    have HTX2 := Lib.hid hTX
    clear ht hTX hok hsl hTl hTp
    go_enter Tryz.func15, Tryz.ntmps15
    go_upto_region 1 with (fail)
    generalize (w.alloc (.cells #[.slice A a.ids.length cap, .bool a.root.cell, .int .i64 a.root.n, .bool a.jumps] 26)).alloc (.cells #[.int .i64 m.id, .int .i64 m.arg, .int .u8 (m.kind : Int), .int .i64 m.n] 40) = V at k0 k1 hb0 ⊢
    obtain ⟨⟨c0, c1, c2, c3⟩, -, hl0⟩ := four_c k0
    obtain ⟨⟨e0, e1, e2, e3⟩, -, hl1⟩ := four_c k1
    have HK0 := Lib.hid k0
    have HK1 := Lib.hid k1
    clear k0 k1
    go_upto_region 9 with (go_at_call 41; refine (HTX2.out _ hb0).mono ?_; rintro r w1 ⟨rfl, hb1⟩)
    have hbZ := hb0.trans (hb1.mono hb0.size)
    have h0 := heap_below hb1 hl0 HK0.out
    clear c0 c1 c2 c3 e0 e1 e2 e3 hb1 hl0 hl1 HK0 HK1 HTX2 hb0
    generalize w1 = Z at *
    obtain ⟨⟨c0, c1, c2, c3⟩, -, hlz⟩ := four_c h0
    have H0 := Lib.hid h0
    clear h0
    have hTH := HTH.out
    have hCK := HCK.out
    cases hth : thinB a
    · have HQ9 := trivial
      rw [hth] at hTH
      go_wp2_with (first
        | (go_at_call 16; refine (hTH _ hbZ).mono ?_; rintro r w1 ⟨rfl, hb1⟩)
        | (go_at_call 17; refine (HA.out _ (hbZ.trans (hb1.mono hbZ.size))).mono ?_; rintro r w9 ⟨rfl, hb9⟩))
      go_ret
      exact ⟨rfl, (hbZ.trans (hb1.mono hbZ.size)).trans (hb9.mono (hbZ.trans (hb1.mono hbZ.size)).size)⟩
    · by_cases hc0 : checkE a = 0
      · have HQ9 := trivial
        obtain ⟨hl, hls⟩ := thin_len hth
        have hCp := fun V (hb : Below w.heap.size w V) => copy_any _ a V (HIN.out.below hb) hl hls
        have hR := right_of hc0
        have hTL := arenaT_len hR
        have hshow : showR a = .tuple #[.string (strB (arenaT a)), .int .i64 0] := by unfold showR; rw [if_pos hc0]
        have hSH := HSH.out
        simp only [hshow] at hSH
        have hRD := HRD.out (arenaT a) (by omega)
        rw [readP_whole hc0] at hRD
        dsimp only at hRD
        have hRS := HRD.out ((arenaT a).take ((arenaT a).length - 1)) (by rw [List.length_take]; omega)
        have hsl2 := slice_to (arenaT_pos a)
        have hw2 : IntKind.i64.wrap (((arenaT a).length : Int) - 1) = ((arenaT a).length : Int) - 1 := IntWalk.i64_in _ (by omega)
        have hsz2 := strB_size (arenaT a)
        have hep : ((strB (arenaT a)).toList == []) = false := by
          rw [ByteArray.toList_eq, strB_toList]
          cases hq : arenaT a with
          | nil => have := arenaT_pos a; rw [hq] at this; simp at this
          | cons x r => rfl
        have hep2 : (strB (arenaT a)).isEmpty = false := by
          have := arenaT_pos a
          rw [ByteArray.isEmpty, strB_size, beq_eq_false_iff_ne]; omega
        have hshort := readP_short (a := a)
        obtain ⟨cA, eC, hce⟩ : ∃ cA eC, readP ((arenaT a).take ((arenaT a).length - 1)) = (cA, eC) := ⟨_, _, rfl⟩
        rw [hce] at hRS hshort
        dsimp only at hRS hshort
        have hSE := fun (A5 : Option Addr) (c5 : Nat) V (h : ArIn V (.slice A5 a.ids.length c5) a) (hb : Below w.heap.size w V) => same_eq a _ _ V (HIN.out.below hb) h hl hls
        have hSC := fun (hc9 : checkE cA = 0) v V (h : ArIn V v cA) (hb : Below w.heap.size w V) => same_any a cA _ v V (HIN.out.below hb) h hl hls (fun t ht => by have := (right_of hc9).params t ht; omega)
        unfold arV at hCp hSE hSC
        have HCP := Lib.hid hCp
        have HSH2 := Lib.hid hSH
        have HRD2 := Lib.hid hRD
        have HRS := Lib.hid hRS
        have HSE := Lib.hid hSE
        rw [hth] at hTH
        rw [hc0] at hCK
        clear hCp hSH hRD hRS hSE hl hls hR hTL hshow hce hth
        generalize strB ((arenaT a).take ((arenaT a).length - 1)) = S2 at *
        generalize (arenaT a).length = NT at *
        generalize strB (arenaT a) = S1 at *
        go_upto_region 13 with (first
          | (go_at_call 16; refine (hTH _ hbZ).mono ?_; rintro r w1 ⟨rfl, hb1⟩; have hz1 : Below Z.heap.size Z w1 := ⟨hb1.os, hb1.tape, hb1.output, hb1.size, hb1.block⟩; obtain ⟨⟨q0, q1, q2, q3⟩, -, -⟩ := four_c (heap_below hz1 hlz H0.out))
          | (go_at_call 24; refine (hCK _ (hbZ.trans (hz1.mono hbZ.size))).mono ?_; rintro r w2 ⟨rfl, hb2⟩; have hz2 := hz1.trans (hb2.mono hz1.size); obtain ⟨⟨t0, t1, t2, t3⟩, -, -⟩ := four_c (heap_below hz2 hlz H0.out))
          | (go_at_call 18; refine (HCP.out _ (hbZ.trans (hz2.mono hbZ.size))).mono ?_; rintro r w3 ⟨v5, rfl, hin5, hb3⟩; have hz3 := hz2.trans ((⟨hb3.os, hb3.tape, hb3.output, hb3.size, hb3.block⟩ : Below w2.heap.size w2 w3).mono hz2.size); have hin5' := hin5; obtain ⟨A5, c5, rfl, -⟩ := hin5'.sl)
          | (go_at_call 21; refine (HSH2.out _ _ _ hin5 (hbZ.trans (hz3.mono hbZ.size))).mono ?_; rintro r w4 ⟨rfl, hb4⟩; have hz4 := hz3.trans ((⟨hb4.os, hb4.tape, hb4.output, hb4.size, hb4.block⟩ : Below w3.heap.size w3 w4).mono hz3.size)))
        clear c0 c1 c2 c3 q0 q1 q2 q3 t0 t1 t2 t3 hin5 hin5' hb1 hb2 hb3 hb4 hz1 hz2 hz3 HCP HSH HSH2 hTH hCK HTH HCK HTX HPA
        have hb4 := hbZ.trans (hz4.mono hbZ.size)
        have h04 := Lib.hid (heap_below hz4 hlz H0.out)
        clear hz4 hbZ H0 hlz
        generalize w4 = Y at *
        go_upto_region 14 with (go_at_call 45; refine (HRD2.out _ hb4).mono ?_; rintro r w5 ⟨v6, rfl, hin6, hb5⟩; have hin6' := hin6; obtain ⟨A6, c6, rfl, -⟩ := hin6'.sl)
        have hy5 : Below Y.heap.size Y w5 := ⟨hb5.os, hb5.tape, hb5.output, hb5.size, hb5.block⟩
        have hX : Below w5.heap.size w5 (w5.alloc (.cells #[.slice A6 a.ids.length c6, .bool a.root.cell, .int .i64 a.root.n, .bool a.jumps] 26)) := (Below.refl _ _).alloc (Nat.le_refl _) _
        have hyX := hy5.trans (hX.mono hy5.size)
        have NX := Lib.hid (heap_alloc_new w5 (.cells #[.slice A6 a.ids.length c6, .bool a.root.cell, .int .i64 a.root.n, .bool a.jumps] 26))
        have hin6X := Lib.hid (hin6.below hX)
        have h0X := Lib.hid (heap_below hyX (Array.getElem?_eq_some_iff.1 h04.out).1 h04.out)
        have hbX := hb4.trans (hyX.mono hb4.size)
        clear hin6 hin6' hb5 hy5 hX hyX h04 hb4 HRD2 HRD
        generalize w5.alloc (.cells #[.slice A6 a.ids.length c6, .bool a.root.cell, .int .i64 a.root.n, .bool a.jumps] 26) = X at *
        generalize w5.heap.size = B5 at *
        go_upto_region 15 with (go_at_call 45; refine (HRS.out _ hbX).mono ?_; rintro r w6 ⟨v7, rfl, hin7, hb6⟩; have hin7' := hin7; obtain ⟨A7, c7, rfl, -⟩ := hin7'.sl)
        have hx6 : Below X.heap.size X w6 := ⟨hb6.os, hb6.tape, hb6.output, hb6.size, hb6.block⟩
        have hY : Below w6.heap.size w6 (w6.alloc (.cells #[.slice A7 cA.ids.length c7, .bool cA.root.cell, .int .i64 cA.root.n, .bool cA.jumps] 26)) := (Below.refl _ _).alloc (Nat.le_refl _) _
        have hxY := hx6.trans (hY.mono hx6.size)
        have NY := Lib.hid (heap_alloc_new w6 (.cells #[.slice A7 cA.ids.length c7, .bool cA.root.cell, .int .i64 cA.root.n, .bool cA.jumps] 26))
        have hin7Y := Lib.hid (hin7.below hY)
        have hin6Y := Lib.hid (hin6X.out.below hxY)
        have NXY := Lib.hid (heap_below hxY (Array.getElem?_eq_some_iff.1 NX.out).1 NX.out)
        have h0Y := Lib.hid (heap_below hxY (Array.getElem?_eq_some_iff.1 h0X.out).1 h0X.out)
        have hbY := hbX.trans (hxY.mono hbX.size)
        clear hin7 hin7' hb6 hx6 hY hxY h0X hbX NX hin6X HRS
        generalize w6.alloc (.cells #[.slice A7 cA.ids.length c7, .bool cA.root.cell, .int .i64 cA.root.n, .bool cA.jumps] 26) = Y2 at *
        generalize w6.heap.size = B6 at *
        obtain ⟨⟨q0, q1, q2, q3⟩, -, hly⟩ := four_c h0Y.out
        obtain ⟨⟨t0, t1, t2, t3⟩, -, -⟩ := four_c NXY.out
        have hly6 := (Array.getElem?_eq_some_iff.1 NY.out).1
        rcases hshort with ⟨rfl, -⟩ | ⟨rfl, hcc, hss⟩
        · go_wp2_with (first
            | (go_at_call 26; refine (HSE.out _ _ _ hin6Y.out hbY).mono ?_; rintro r w7 ⟨rfl, hb7⟩; have hb8 := hbY.trans (hb7.mono hbY.size))
            | (go_at_call 17; refine (HA.out _ hb8).mono ?_; rintro r w9 ⟨rfl, hb9⟩))
          go_ret
          exact ⟨rfl, hb8.trans (hb9.mono hb8.size)⟩
        · have hSC2 := hSC hcc
          rw [hss] at hSC2
          have HSC := Lib.hid hSC2
          clear hSC hSC2 hss hcc
          go_wp2_with (first
            | (have hq8 := hb8; go_at_call 26; refine (HSC.out _ _ (hin7Y.out.below hy7) hb8).mono ?_; rintro r w8 ⟨rfl, hb88⟩; have hb9 := hb8.trans (hb88.mono hb8.size))
            | (go_at_call 26; refine (HSE.out _ _ _ hin6Y.out hbY).mono ?_; rintro r w7 ⟨rfl, hb7⟩; have hb8 := hbY.trans (hb7.mono hbY.size); have hy7 : Below Y2.heap.size Y2 w7 := ⟨hb7.os, hb7.tape, hb7.output, hb7.size, hb7.block⟩; obtain ⟨⟨u0, u1, u2, u3⟩, -, -⟩ := four_c (heap_below hy7 hly h0Y.out); obtain ⟨⟨x0, x1, x2, x3⟩, -, -⟩ := four_c (heap_below hy7 hly6 NY.out))
            | (go_at_call 17; refine (HA.out _ hb9).mono ?_; rintro r w9 ⟨rfl, hb99⟩))
          go_ret
          exact ⟨rfl, hb9.trans (hb99.mono hb9.size)⟩
      · rw [hth] at hTH
        have hce : ((checkE a : Int) == 0) = false := by rw [beq_eq_false_iff_ne]; omega
        generalize checkE a = ec at *
        go_wp2_with (first
          | (go_at_call 16; refine (hTH _ hbZ).mono ?_; rintro r w1 ⟨rfl, hb1⟩; have hz1 : Below Z.heap.size Z w1 := ⟨hb1.os, hb1.tape, hb1.output, hb1.size, hb1.block⟩; obtain ⟨⟨q0, q1, q2, q3⟩, -, -⟩ := four_c (heap_below hz1 hlz H0.out))
          | (go_at_call 24; refine (hCK _ (hbZ.trans (hz1.mono hbZ.size))).mono ?_; rintro r w2 ⟨rfl, hb2⟩; have hz2 := hz1.trans (hb2.mono hz1.size))
          | (go_at_call 17; refine (HA.out _ (hbZ.trans (hz2.mono hbZ.size))).mono ?_; rintro r w9 ⟨rfl, hb9⟩))
        go_ret
        exact ⟨rfl, (hbZ.trans (hz2.mono hbZ.size)).trans (hb9.mono (hbZ.trans (hz2.mono hbZ.size)).size)⟩
  · have ht : textR m = .tuple #[.string (strB (textL m)), .int .i64 0] := by unfold textR; rw [hok]; rfl
    have hTX := HTX.out
    rw [ht] at hTX
    have hP1 := HPA.out (textL m) (by omega)
    rw [refR_whole HMV.out hok] at hP1
    obtain ⟨x, ex, hx, hxe⟩ := refR_short (m := m)
    have hP2 := HPA.out ((textL m).take ((textL m).length - 1)) (by rw [List.length_take]; omega)
    rw [hx] at hP2
    unfold mvV at hP1 hP2
    have HTX2 := Lib.hid hTX
    have HP1 := Lib.hid hP1
    have HP2 := Lib.hid hP2
    have hw1 : IntKind.i64.wrap (((textL m).length : Int) - 1) = ((textL m).length : Int) - 1 := IntWalk.i64_in _ (by omega)
    have hsz1 := strB_size (textL m)
    have hee : ((strB (textL m)).toList == []) = false := by
      rw [ByteArray.toList_eq, strB_toList]
      cases hq : textL m with
      | nil => rw [hq] at hTp; simp at hTp
      | cons y r => rfl
    have hee2 : (strB (textL m)).isEmpty = false := by
      rw [ByteArray.isEmpty, strB_size, beq_eq_false_iff_ne]; omega
    have hEm : ∀ U : World, (Op.equalIn 10000 40 (.agg #[.int .i64 m.id, .int .i64 m.arg, .int .u8 (m.kind : Int), .int .i64 m.n]) (.agg #[.int .i64 m.id, .int .i64 m.arg, .int .u8 (m.kind : Int), .int .i64 m.n])).run Tryz.prog U = .ok true U := fun U => by rw [mv_equal m m U, (sameMv_iff m m).2 rfl]
    have hEx := fun U : World => mv_equal x m U
    clear ht hTX hP1 hP2 hx hok hTl hTp
    generalize strB ((textL m).take ((textL m).length - 1)) = T2 at *
    generalize (textL m).length = NL at *
    generalize strB (textL m) = T1 at *
    go_enter Tryz.func15, Tryz.ntmps15
    go_upto_region 1 with (fail)
    generalize (w.alloc (.cells #[.slice A a.ids.length cap, .bool a.root.cell, .int .i64 a.root.n, .bool a.jumps] 26)).alloc (.cells #[.int .i64 m.id, .int .i64 m.arg, .int .u8 (m.kind : Int), .int .i64 m.n] 40) = V at k0 k1 hb0 ⊢
    obtain ⟨⟨c0, c1, c2, c3⟩, -, hl0⟩ := four_c k0
    obtain ⟨⟨e0, e1, e2, e3⟩, -, hl1⟩ := four_c k1
    have HK0 := Lib.hid k0
    have HK1 := Lib.hid k1
    clear k0 k1
    go_upto_region 6 with (first
      | (go_at_call 41; refine (HTX2.out _ hb0).mono ?_; rintro r w1 ⟨rfl, hb1⟩; have hb2 := hb0.trans (hb1.mono hb0.size))
      | (go_at_call 42; refine (HP1.out _ hb2).mono ?_; rintro r w2 ⟨rfl, hb3⟩))
    have hv2 := hb1.trans (hb3.mono hb1.size)
    have hX : Below w2.heap.size w2 (w2.alloc (.cells #[.int .i64 m.id, .int .i64 m.arg, .int .u8 (m.kind : Int), .int .i64 m.n] 40)) := (Below.refl _ _).alloc (Nat.le_refl _) _
    have hvX := hv2.trans (hX.mono hv2.size)
    have NX := Lib.hid (heap_alloc_new w2 (.cells #[.int .i64 m.id, .int .i64 m.arg, .int .u8 (m.kind : Int), .int .i64 m.n] 40))
    have hbX := hb0.trans (hvX.mono hb0.size)
    clear c0 c1 c2 c3 e0 e1 e2 e3 hb1 hb2 hb3 hv2 hX HTX2 HP1
    generalize w2.alloc (.cells #[.int .i64 m.id, .int .i64 m.arg, .int .u8 (m.kind : Int), .int .i64 m.n] 40) = X at *
    generalize w2.heap.size = B2 at *
    go_upto_region 7 with (go_at_call 42; refine (HP2.out _ hbX).mono ?_; rintro r w3 ⟨rfl, hb3⟩)
    have hx3 : Below X.heap.size X w3 := ⟨hb3.os, hb3.tape, hb3.output, hb3.size, hb3.block⟩
    have hY : Below w3.heap.size w3 (w3.alloc (.cells #[.int .i64 x.id, .int .i64 x.arg, .int .u8 (x.kind : Int), .int .i64 x.n] 40)) := (Below.refl _ _).alloc (Nat.le_refl _) _
    have hxY := hx3.trans (hY.mono hx3.size)
    have hvY := hvX.trans (hxY.mono hvX.size)
    have NY := heap_alloc_new w3 (.cells #[.int .i64 x.id, .int .i64 x.arg, .int .u8 (x.kind : Int), .int .i64 x.n] 40)
    have NXY := heap_below hxY (Array.getElem?_eq_some_iff.1 NX.out).1 NX.out
    have hbZ := hb0.trans (hvY.mono hb0.size)
    have h0 := heap_below hvY hl0 HK0.out
    have h1 := heap_below hvY hl1 HK1.out
    clear hb3 hx3 hY hxY hvY hvX hbX hb0 NX HP2 hl0 hl1 HK0 HK1
    generalize w3.alloc (.cells #[.int .i64 x.id, .int .i64 x.arg, .int .u8 (x.kind : Int), .int .i64 x.n] 40) = Z at *
    generalize w3.heap.size = B3 at *
    obtain ⟨⟨c0, c1, c2, c3⟩, -, hlz⟩ := four_c h0
    obtain ⟨⟨e0, e1, e2, e3⟩, -, -⟩ := four_c h1
    obtain ⟨⟨f0, f1, f2, f3⟩, -, -⟩ := four_c NY
    obtain ⟨⟨g0, g1, g2, g3⟩, -, -⟩ := four_c NXY
    have H0 := Lib.hid h0
    clear h0 h1 NY NXY
    rcases hxe with rfl | ⟨rfl, hxs⟩
    all_goals
      (try rw [hxs] at hEx)
      (try clear hxs)
      go_upto_region 9 with (fail)
      clear e0 e1 e2 e3 f0 f1 f2 f3 g0 g1 g2 g3 hEx hEm
      have hTH := HTH.out
      have hCK := HCK.out
      cases hth : thinB a
      · have HQ9 := trivial
        rw [hth] at hTH
        go_wp2_with (first
          | (go_at_call 16; refine (hTH _ hbZ).mono ?_; rintro r w1 ⟨rfl, hb1⟩)
          | (go_at_call 17; refine (HA.out _ (hbZ.trans (hb1.mono hbZ.size))).mono ?_; rintro r w9 ⟨rfl, hb9⟩))
        go_ret
        exact ⟨rfl, (hbZ.trans (hb1.mono hbZ.size)).trans (hb9.mono (hbZ.trans (hb1.mono hbZ.size)).size)⟩
      · by_cases hc0 : checkE a = 0
        · have HQ9 := trivial
          obtain ⟨hl, hls⟩ := thin_len hth
          have hCp := fun V (hb : Below w.heap.size w V) => copy_any _ a V (HIN.out.below hb) hl hls
          have hR := right_of hc0
          have hTL := arenaT_len hR
          have hshow : showR a = .tuple #[.string (strB (arenaT a)), .int .i64 0] := by unfold showR; rw [if_pos hc0]
          have hSH := HSH.out
          simp only [hshow] at hSH
          have hRD := HRD.out (arenaT a) (by omega)
          rw [readP_whole hc0] at hRD
          dsimp only at hRD
          have hRS := HRD.out ((arenaT a).take ((arenaT a).length - 1)) (by rw [List.length_take]; omega)
          have hsl2 := slice_to (arenaT_pos a)
          have hw2 : IntKind.i64.wrap (((arenaT a).length : Int) - 1) = ((arenaT a).length : Int) - 1 := IntWalk.i64_in _ (by omega)
          have hsz2 := strB_size (arenaT a)
          have hep : ((strB (arenaT a)).toList == []) = false := by
            rw [ByteArray.toList_eq, strB_toList]
            cases hq : arenaT a with
            | nil => have := arenaT_pos a; rw [hq] at this; simp at this
            | cons x r => rfl
          have hep2 : (strB (arenaT a)).isEmpty = false := by
            have := arenaT_pos a
            rw [ByteArray.isEmpty, strB_size, beq_eq_false_iff_ne]; omega
          have hshort := readP_short (a := a)
          obtain ⟨cA, eC, hce⟩ : ∃ cA eC, readP ((arenaT a).take ((arenaT a).length - 1)) = (cA, eC) := ⟨_, _, rfl⟩
          rw [hce] at hRS hshort
          dsimp only at hRS hshort
          have hSE := fun (A5 : Option Addr) (c5 : Nat) V (h : ArIn V (.slice A5 a.ids.length c5) a) (hb : Below w.heap.size w V) => same_eq a _ _ V (HIN.out.below hb) h hl hls
          have hSC := fun (hc9 : checkE cA = 0) v V (h : ArIn V v cA) (hb : Below w.heap.size w V) => same_any a cA _ v V (HIN.out.below hb) h hl hls (fun t ht => by have := (right_of hc9).params t ht; omega)
          unfold arV at hCp hSE hSC
          have HCP := Lib.hid hCp
          have HSH2 := Lib.hid hSH
          have HRD2 := Lib.hid hRD
          have HRS := Lib.hid hRS
          have HSE := Lib.hid hSE
          rw [hth] at hTH
          rw [hc0] at hCK
          clear hCp hSH hRD hRS hSE hl hls hR hTL hshow hce hth
          generalize strB ((arenaT a).take ((arenaT a).length - 1)) = S2 at *
          generalize (arenaT a).length = NT at *
          generalize strB (arenaT a) = S1 at *
          go_upto_region 13 with (first
            | (go_at_call 16; refine (hTH _ hbZ).mono ?_; rintro r w1 ⟨rfl, hb1⟩; have hz1 : Below Z.heap.size Z w1 := ⟨hb1.os, hb1.tape, hb1.output, hb1.size, hb1.block⟩; obtain ⟨⟨q0, q1, q2, q3⟩, -, -⟩ := four_c (heap_below hz1 hlz H0.out))
            | (go_at_call 24; refine (hCK _ (hbZ.trans (hz1.mono hbZ.size))).mono ?_; rintro r w2 ⟨rfl, hb2⟩; have hz2 := hz1.trans (hb2.mono hz1.size); obtain ⟨⟨t0, t1, t2, t3⟩, -, -⟩ := four_c (heap_below hz2 hlz H0.out))
            | (go_at_call 18; refine (HCP.out _ (hbZ.trans (hz2.mono hbZ.size))).mono ?_; rintro r w3 ⟨v5, rfl, hin5, hb3⟩; have hz3 := hz2.trans ((⟨hb3.os, hb3.tape, hb3.output, hb3.size, hb3.block⟩ : Below w2.heap.size w2 w3).mono hz2.size); have hin5' := hin5; obtain ⟨A5, c5, rfl, -⟩ := hin5'.sl)
            | (go_at_call 21; refine (HSH2.out _ _ _ hin5 (hbZ.trans (hz3.mono hbZ.size))).mono ?_; rintro r w4 ⟨rfl, hb4⟩; have hz4 := hz3.trans ((⟨hb4.os, hb4.tape, hb4.output, hb4.size, hb4.block⟩ : Below w3.heap.size w3 w4).mono hz3.size)))
          clear c0 c1 c2 c3 q0 q1 q2 q3 t0 t1 t2 t3 hin5 hin5' hb1 hb2 hb3 hb4 hz1 hz2 hz3 HCP HSH HSH2 hTH hCK HTH HCK HTX HPA
          have hb4 := hbZ.trans (hz4.mono hbZ.size)
          have h04 := Lib.hid (heap_below hz4 hlz H0.out)
          clear hz4 hbZ H0 hlz
          generalize w4 = Y at *
          go_upto_region 14 with (go_at_call 45; refine (HRD2.out _ hb4).mono ?_; rintro r w5 ⟨v6, rfl, hin6, hb5⟩; have hin6' := hin6; obtain ⟨A6, c6, rfl, -⟩ := hin6'.sl)
          have hy5 : Below Y.heap.size Y w5 := ⟨hb5.os, hb5.tape, hb5.output, hb5.size, hb5.block⟩
          have hX : Below w5.heap.size w5 (w5.alloc (.cells #[.slice A6 a.ids.length c6, .bool a.root.cell, .int .i64 a.root.n, .bool a.jumps] 26)) := (Below.refl _ _).alloc (Nat.le_refl _) _
          have hyX := hy5.trans (hX.mono hy5.size)
          have NX := Lib.hid (heap_alloc_new w5 (.cells #[.slice A6 a.ids.length c6, .bool a.root.cell, .int .i64 a.root.n, .bool a.jumps] 26))
          have hin6X := Lib.hid (hin6.below hX)
          have h0X := Lib.hid (heap_below hyX (Array.getElem?_eq_some_iff.1 h04.out).1 h04.out)
          have hbX := hb4.trans (hyX.mono hb4.size)
          clear hin6 hin6' hb5 hy5 hX hyX h04 hb4 HRD2 HRD
          generalize w5.alloc (.cells #[.slice A6 a.ids.length c6, .bool a.root.cell, .int .i64 a.root.n, .bool a.jumps] 26) = X at *
          generalize w5.heap.size = B5 at *
          go_upto_region 15 with (go_at_call 45; refine (HRS.out _ hbX).mono ?_; rintro r w6 ⟨v7, rfl, hin7, hb6⟩; have hin7' := hin7; obtain ⟨A7, c7, rfl, -⟩ := hin7'.sl)
          have hx6 : Below X.heap.size X w6 := ⟨hb6.os, hb6.tape, hb6.output, hb6.size, hb6.block⟩
          have hY : Below w6.heap.size w6 (w6.alloc (.cells #[.slice A7 cA.ids.length c7, .bool cA.root.cell, .int .i64 cA.root.n, .bool cA.jumps] 26)) := (Below.refl _ _).alloc (Nat.le_refl _) _
          have hxY := hx6.trans (hY.mono hx6.size)
          have NY := Lib.hid (heap_alloc_new w6 (.cells #[.slice A7 cA.ids.length c7, .bool cA.root.cell, .int .i64 cA.root.n, .bool cA.jumps] 26))
          have hin7Y := Lib.hid (hin7.below hY)
          have hin6Y := Lib.hid (hin6X.out.below hxY)
          have NXY := Lib.hid (heap_below hxY (Array.getElem?_eq_some_iff.1 NX.out).1 NX.out)
          have h0Y := Lib.hid (heap_below hxY (Array.getElem?_eq_some_iff.1 h0X.out).1 h0X.out)
          have hbY := hbX.trans (hxY.mono hbX.size)
          clear hin7 hin7' hb6 hx6 hY hxY h0X hbX NX hin6X HRS
          generalize w6.alloc (.cells #[.slice A7 cA.ids.length c7, .bool cA.root.cell, .int .i64 cA.root.n, .bool cA.jumps] 26) = Y2 at *
          generalize w6.heap.size = B6 at *
          obtain ⟨⟨q0, q1, q2, q3⟩, -, hly⟩ := four_c h0Y.out
          obtain ⟨⟨t0, t1, t2, t3⟩, -, -⟩ := four_c NXY.out
          have hly6 := (Array.getElem?_eq_some_iff.1 NY.out).1
          rcases hshort with ⟨rfl, -⟩ | ⟨rfl, hcc, hss⟩
          · go_wp2_with (first
              | (go_at_call 26; refine (HSE.out _ _ _ hin6Y.out hbY).mono ?_; rintro r w7 ⟨rfl, hb7⟩; have hb8 := hbY.trans (hb7.mono hbY.size))
              | (go_at_call 17; refine (HA.out _ hb8).mono ?_; rintro r w9 ⟨rfl, hb9⟩))
            go_ret
            exact ⟨rfl, hb8.trans (hb9.mono hb8.size)⟩
          · have hSC2 := hSC hcc
            rw [hss] at hSC2
            have HSC := Lib.hid hSC2
            clear hSC hSC2 hss hcc
            go_wp2_with (first
              | (have hq8 := hb8; go_at_call 26; refine (HSC.out _ _ (hin7Y.out.below hy7) hb8).mono ?_; rintro r w8 ⟨rfl, hb88⟩; have hb9 := hb8.trans (hb88.mono hb8.size))
              | (go_at_call 26; refine (HSE.out _ _ _ hin6Y.out hbY).mono ?_; rintro r w7 ⟨rfl, hb7⟩; have hb8 := hbY.trans (hb7.mono hbY.size); have hy7 : Below Y2.heap.size Y2 w7 := ⟨hb7.os, hb7.tape, hb7.output, hb7.size, hb7.block⟩; obtain ⟨⟨u0, u1, u2, u3⟩, -, -⟩ := four_c (heap_below hy7 hly h0Y.out); obtain ⟨⟨x0, x1, x2, x3⟩, -, -⟩ := four_c (heap_below hy7 hly6 NY.out))
              | (go_at_call 17; refine (HA.out _ hb9).mono ?_; rintro r w9 ⟨rfl, hb99⟩))
            go_ret
            exact ⟨rfl, hb9.trans (hb99.mono hb9.size)⟩
        · rw [hth] at hTH
          have hce : ((checkE a : Int) == 0) = false := by rw [beq_eq_false_iff_ne]; omega
          generalize checkE a = ec at *
          go_wp2_with (first
            | (go_at_call 16; refine (hTH _ hbZ).mono ?_; rintro r w1 ⟨rfl, hb1⟩; have hz1 : Below Z.heap.size Z w1 := ⟨hb1.os, hb1.tape, hb1.output, hb1.size, hb1.block⟩; obtain ⟨⟨q0, q1, q2, q3⟩, -, -⟩ := four_c (heap_below hz1 hlz H0.out))
            | (go_at_call 24; refine (hCK _ (hbZ.trans (hz1.mono hbZ.size))).mono ?_; rintro r w2 ⟨rfl, hb2⟩; have hz2 := hz1.trans (hb2.mono hz1.size))
            | (go_at_call 17; refine (HA.out _ (hbZ.trans (hz2.mono hbZ.size))).mono ?_; rintro r w9 ⟨rfl, hb9⟩))
          go_ret
          exact ⟨rfl, (hbZ.trans (hz2.mono hbZ.size)).trans (hb9.mono (hbZ.trans (hz2.mono hbZ.size)).size)⟩

end Go.Proofs.YtoncdnelacolaaaGreatDoor.Ar
