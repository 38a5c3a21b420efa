/- ArenaAll: each move is a question, or an answer of one of the same place; answers and questions of places are all among the moves. -/
import Derived.Test.YtoncdnelacolaaaGreatDoorARefR
import Derived.Test.YtoncdnelacolaaaGreatDoorARefS
import Derived.Test.YtoncdnelacolaaaGreatDoorASpecI
import Derived.BigQuiet
import Derived.Test.YtoncdnelacolaaaGreatDoorAChain
namespace Go.Proofs.YtoncdnelacolaaaGreatDoor.Ar
open Go Go.Proofs Go.RowKit Go.Sort Lx Ps

theorem find_in {L : List Mv} {x : Mv} {q : Int} (h : x ∈ L) (hq : (q = -1 ∧ L.any (sameMv · x) = false) ∨ ∃ (k : Nat) (y : Mv), q = (k : Int) ∧ L[k]? = some y ∧ sameMv y x = true) : ¬ q < 0 ∧ decide (q < 0) = false := by
  rcases hq with ⟨_, h1⟩ | ⟨k, y, h1, _, _⟩
  · have h9 : L.any (sameMv · x) = true := List.any_eq_true.2 ⟨x, h, (sameMv_iff x x).2 rfl⟩
    rw [h1] at h9; cases h9
  · exact ⟨by omega, by rw [decide_eq_false_iff_not]; omega⟩
theorem find_iff {L : List Mv} {x : Mv} {q : Int} {b : Bool} (h : x ∈ L ↔ b = true) (hq : (q = -1 ∧ L.any (sameMv · x) = false) ∨ ∃ (k : Nat) (y : Mv), q = (k : Int) ∧ L[k]? = some y ∧ sameMv y x = true) : decide (0 ≤ q) = b := by
  rcases hq with ⟨h0, h1⟩ | ⟨k, y, h1, h2, h3⟩
  · cases b
    · rw [decide_eq_false_iff_not]; omega
    · have h9 : L.any (sameMv · x) = true := List.any_eq_true.2 ⟨x, h.2 rfl, (sameMv_iff x x).2 rfl⟩
      rw [h1] at h9; cases h9
  · rw [(sameMv_iff y x).1 h3] at h2
    rw [h.1 (List.mem_of_getElem? h2), decide_eq_true_eq]; omega

set_option maxRecDepth 100000 in
set_option maxHeartbeats 4000000 in
theorem arenaAll_any (ids : Value) (a : Ar) (w : World) (hin : ArIn w ids a) (hG : Ga w) :
    Calls Tryz.prog 12 #[arV ids a] w fun e w' => e = .returned (.bool true) ∧ Below w.heap.size w w' := by
  have hS := fun V (hb : Below w.heap.size w V) => small_any ids a V (hin.below hb)
  have HA := Lib.hid (fun V (hb : Below w.heap.size w V) => awake_any V (hG.next hb))
  have HIN := Lib.hid hin
  obtain ⟨A, cap, rfl, -⟩ := hin.sl
  clear hG hin
  have k0 := heap_alloc_new w (.cells #[.slice A a.ids.length cap, .bool a.root.cell, .int .i64 a.root.n, .bool a.jumps] 26)
  have hb0 : Below w.heap.size w (w.alloc (.cells #[.slice A a.ids.length cap, .bool a.root.cell, .int .i64 a.root.n, .bool a.jumps] 26)) := (Below.refl _ _).alloc (Nat.le_refl _) _
  cases hsm : smallB a
  · rw [hsm] at hS
    unfold arV at *
    have HS := Lib.hid hS
    clear hS hsm HIN
    go_enter Tryz.func12, Tryz.ntmps12
    go_wp2_with (first
      | (go_at_call 50; refine (HS.out _ hb0).mono ?_; rintro r w1 ⟨rfl, hb1⟩; have hb2 := hb0.trans (hb1.mono hb0.size))
      | (go_at_call 17; refine (HA.out _ hb2).mono ?_; rintro r w2 ⟨rfl, hb3⟩))
    go_ret
    exact ⟨rfl, hb2.trans (hb3.mono hb2.size)⟩
  · rw [hsm] at hS
    obtain ⟨hth, he, hlen⟩ := smallB_parts hsm
    obtain ⟨hl, hls⟩ := thin_len hth
    have hM := fun V (hb : Below w.heap.size w V) => lawMoves_any _ a V (HIN.out.below hb) he hlen hl hls
    have hC := fun V (hb : Below w.heap.size w V) => copy_any _ a V (HIN.out.below hb) hl hls
    have xA := fun m (A5 : Option Addr) (c5 : Nat) V (h : ArIn V (.slice A5 a.ids.length c5) a) => apAnswers_own _ a m V h
    have xP := fun (id arg : Int) (A5 : Option Addr) (c5 : Nat) V (h : ArIn V (.slice A5 a.ids.length c5) a) => apPlace_any _ a id arg V h
    have hF := fun (v : Value) (x : Mv) V (h : SlM V v (allM a)) => refFind_any v (allM a) x V h (by omega)
    have hans := fun m (hm : m ∈ allM a) => answers_all he hm
    have hskip := fun T i m (h : Told a T i) (hm : (allM a)[i]? = some m) (hk : askB m = false) => h.skip hm hk
    have hbeg := fun T i m (h : Told a T i) (hm : (allM a)[i]? = some m) (l : List Mv) => h.begin hm l
    have hstep := fun T (i n k : Nat) (l : List Mv) x (h : ToldIn a T i n l) (hx : l[n]? = some x) (hk : (allM a)[k]? = some x) => h.step hx hk
    have hdone := fun T i m (l : List Mv) (h : ToldIn a T i l.length l) (hm : (allM a)[i]? = some m) (hl : (ansR a m).1 = l) => h.done hm hl
    have hallT := fun T (h : Told a T (allM a).length) (j : Nat) (hj : j < T.length) => h.all he hj
    have hTl := fun T i (h : Told a T i) => h.1
    have hT0 := Told.zero a
    have hpl := fun id arg p (hp : plAt a id arg = some p) => place_all he hp
    have hfo := fun id arg => show foR a id arg = match plAt a id arg with | none => .tuple #[.agg #[.bool false, .int .i64 0], .int .i64 7] | some p => .tuple #[.agg #[.bool p.base.cell, .int .i64 p.base.n], .int .i64 0] by
      cases hp : plAt a id arg with
      | none => exact foR_none he hp
      | some p => exact foR_some he hp
    unfold arV mvV at *
    have HS := Lib.hid hS
    have HM := Lib.hid hM
    have HC := Lib.hid hC
    have XA := Lib.hid xA
    have XP := Lib.hid xP
    have HF := Lib.hid hF
    have HANS := Lib.hid hans
    have HSKIP := Lib.hid hskip
    have HBEG := Lib.hid hbeg
    have HSTEP := Lib.hid hstep
    have HDONE := Lib.hid hdone
    have HALLT := Lib.hid hallT
    have HTL := Lib.hid hTl
    have HT0 := Lib.hid hT0
    have HPL := Lib.hid hpl
    have HFO := Lib.hid hfo
    clear hS hM hC xA xP hF hans hskip hbeg hstep hdone hallT hTl hT0 hpl hfo hsm hth he hls HIN
    generalize allM a = L at *
    have HMK := Lib.hid (make_bools L.length (by omega))
    go_enter Tryz.func12, Tryz.ntmps12
    go_upto_region 1 with (fail)
    generalize w.alloc (.cells #[.slice A a.ids.length cap, .bool a.root.cell, .int .i64 a.root.n, .bool a.jumps] 26) = V at k0 hb0 ⊢
    obtain ⟨⟨c0, c1, c2, c3⟩, -, hl0⟩ := four_c k0
    have HK0 := Lib.hid k0
    clear k0
    go_upto_region 6 with (first
      | (have hq := hbS; go_at_call 51; refine (HM.out _ hbS).mono ?_; rintro r w2 ⟨v6, rfl, hsl, hb2⟩; have hbU := hbS.trans (hb2.mono hbS.size); obtain ⟨A6, c6, hA6, hA⟩ := hsl; subst hA6)
      | (go_at_call 50; refine (HS.out _ hb0).mono ?_; rintro r w1 ⟨rfl, hb1⟩; have hbS := hb0.trans (hb1.mono hb0.size); obtain ⟨⟨p0, p1, p2, p3⟩, -, -⟩ := four_c (heap_below hb1 hl0 HK0.out)))
    have M0 := heap_below (hb1.trans (hb2.mono hb1.size)) hl0 HK0.out
    clear c0 c1 c2 c3 p0 p1 p2 p3 hl0 HK0 hb0 hb1 hb2 hbS HM HS
    generalize w2 = U at *
    have HM0 := Lib.hid M0
    have HLA := Lib.hid hA
    have HSL := Lib.hid (show SlM U (.slice A6 L.length c6) L from ⟨A6, c6, rfl, hA⟩)
    clear M0 hA
    obtain ⟨wT, hrun, hrowT, hbT⟩ := HMK.out U
    have HRT := Lib.hid hrowT
    have hbT' := hbT
    clear HMK hrowT
    go_wp2
    clear hrun
    go_loopw [6] (fun c wr => ∃ (k : Nat) (T : List Bool), c = .int .i64 (k : Int) ∧ k ≤ L.length ∧ Told a T k ∧ RowT U.heap.size L.length T wr ∧ Below U.heap.size U wr) (fun c _ => L.length + 1 - (intOf c).toNat)
    case atStart => exact ⟨0, _, rfl, Nat.zero_le _, HT0.out, HRT.out, hbT'⟩
    case round =>
      clear HRT hbT hbT'
      obtain ⟨k, T, rfl, hk, htold, hrow, hb⟩ := hrel
      have hbR := hbU.trans (hb.mono hbU.size)
      have HTOLD := Lib.hid htold
      have HROW := Lib.hid hrow
      clear htold hrow
      by_cases hlt : k < L.length
      · have hlt' : (k : Int) < (L.length : Int) := by omega
        have hx := List.getElem?_eq_getElem hlt
        have hmem := List.getElem_mem hlt
        obtain ⟨b, off, hAb, hbl0, hc⟩ := HLA.out (by omega)
        subst hAb
        obtain ⟨y0, y1, y2, y3⟩ := hc k _ hx
        generalize L[k] = m at *
        have HX := Lib.hid hx
        have hXA := XA.out m
        have j0 : (0 : Int) ≤ (k : Int) := by omega
        have j4 : ¬ ((k : Int) < 0) := by omega
        have j6 : ¬ ((L.length : Int) ≤ (k : Int)) := by omega
        have d0 := (hb.cell (p := ⟨b, off + k * 4, none⟩) hbl0).trans y0
        have d1 := (hb.cell (p := ⟨b, off + k * 4 + 1, none⟩) hbl0).trans y1
        have d2 := (hb.cell (p := ⟨b, off + k * 4 + 2, none⟩) hbl0).trans y2
        have d3 := (hb.cell (p := ⟨b, off + k * 4 + 3, none⟩) hbl0).trans y3
        have hbl : b < wr.heap.size := Nat.lt_of_lt_of_le hbl0 hb.size
        obtain ⟨⟨c0, c1, c2, c3⟩, -, hl0⟩ := four_c (heap_below hb (Array.getElem?_eq_some_iff.1 HM0.out).1 HM0.out)
        have HSLM := Lib.hid (show SlM U (.slice (some ⟨b, off, none⟩) L.length c6) L from ⟨_, _, rfl, fun _ => ⟨b, off, rfl, hbl0, hc⟩⟩)
        have HY := Lib.hid (And.intro y0 (And.intro y1 (And.intro y2 y3)))
        clear hx hc y0 y1 y2 y3
        rcases HANS.out m hmem with ⟨hk0, hm0⟩ | ⟨hk1, l, hm1, hle, hsub⟩
        · rw [hm0] at hXA
          dsimp only at hXA
          have XAM := Lib.hid hXA
          have HNX := Lib.hid (HSKIP.out T k m HTOLD.out HX.out hk0)
          clear hXA hm0 hk0 hmem
          go_upto_region 10 with (fail)
          go_region_held3 (fun w' => w'.cell? ⟨w.heap.size, 0, none⟩ = some (.slice A a.ids.length cap) ∧ w'.cell? ⟨w.heap.size, 1, none⟩ = some (.bool a.root.cell) ∧ w'.cell? ⟨w.heap.size, 2, none⟩ = some (.int .i64 a.root.n) ∧ w'.cell? ⟨w.heap.size, 3, none⟩ = some (.bool a.jumps) ∧ w'.cell? ⟨b, off + k * 4, none⟩ = some (.int .i64 m.id) ∧ w'.cell? ⟨b, off + k * 4 + 1, none⟩ = some (.int .i64 m.arg) ∧ w'.cell? ⟨b, off + k * 4 + 2, none⟩ = some (.int .u8 (m.kind : Int)) ∧ w'.cell? ⟨b, off + k * 4 + 3, none⟩ = some (.int .i64 m.n))
            (first
              | (go_split_ands; all_goals (first | assumption))
              | go_keep)
            ((first
              | (go_at_call 29; refine (XAM.out _ _ _ hin5).mono ?_; rintro r w4 ⟨vA, rfl, hownA, hb7⟩; have hb5 : Below wr.heap.size wr w4 := hb3.trans ((⟨hb7.os, hb7.tape, hb7.output, hb7.size, hb7.block⟩ : Below w3.heap.size w3 w4).mono hb3.size); have q0 := (hb5.cell (p := ⟨w.heap.size, 0, none⟩) hl0).trans c0; have q1 := (hb5.cell (p := ⟨w.heap.size, 1, none⟩) hl0).trans c1; have q2 := (hb5.cell (p := ⟨w.heap.size, 2, none⟩) hl0).trans c2; have q3 := (hb5.cell (p := ⟨w.heap.size, 3, none⟩) hl0).trans c3; have q4 := (hb5.cell (p := ⟨b, off + k * 4, none⟩) hbl).trans d0; have q5 := (hb5.cell (p := ⟨b, off + k * 4 + 1, none⟩) hbl).trans d1; have q6 := (hb5.cell (p := ⟨b, off + k * 4 + 2, none⟩) hbl).trans d2; have q7 := (hb5.cell (p := ⟨b, off + k * 4 + 3, none⟩) hbl).trans d3; obtain ⟨AA, cA, rfl⟩ := own_slice hownA; have hbaseA : wr.heap.size ≤ w3.heap.size := hb3.size)
              | (go_at_call 18; refine (HC.out _ (by first | exact hbR | exact hbR.drew)).mono ?_; rintro r w3 ⟨v5, rfl, hin5, hb8⟩; have hb3 : Below wr.heap.size wr w3 := ⟨hb8.os, hb8.tape, hb8.output, hb8.size, hb8.block⟩; have r0 := (hb3.cell (p := ⟨w.heap.size, 0, none⟩) hl0).trans c0; have r1 := (hb3.cell (p := ⟨w.heap.size, 1, none⟩) hl0).trans c1; have r2 := (hb3.cell (p := ⟨w.heap.size, 2, none⟩) hl0).trans c2; have r3 := (hb3.cell (p := ⟨w.heap.size, 3, none⟩) hl0).trans c3; have r4 := (hb3.cell (p := ⟨b, off + k * 4, none⟩) hbl).trans d0; have r5 := (hb3.cell (p := ⟨b, off + k * 4 + 1, none⟩) hbl).trans d1; have r6 := (hb3.cell (p := ⟨b, off + k * 4 + 2, none⟩) hbl).trans d2; have r7 := (hb3.cell (p := ⟨b, off + k * 4 + 3, none⟩) hbl).trans d3; have hin5' := hin5; obtain ⟨A5, c5, rfl, -⟩ := hin5'.sl)))
          clear r0 r1 r2 r3 r4 r5 r6 r7 hin5 hin5' c0 c1 c2 c3 d0 d1 d2 d3
          have hbE := hb.trans (hb5.mono hb.size)
          have hrowE := HROW.out.below hb5
          go_wp2
          go_roundw
          case rel => exact ⟨k + 1, T, by go_num, by omega, HNX.out, hrowE, hbE⟩
          case measure => simp [intOf]; omega
        · have HDN := Lib.hid (fun T' (h : ToldIn a T' k l.length l) => HDONE.out T' k m l h HX.out (by rw [hm1]))
          have HSUB := Lib.hid hsub
          rw [hm1] at hXA
          dsimp only at hXA
          have XAM := Lib.hid hXA
          have HBG := Lib.hid (HBEG.out T k m HTOLD.out HX.out l)
          clear hXA hm1 hk1 hmem hsub
          go_upto_region 10 with (fail)
          go_region_held3 (fun w' => w'.cell? ⟨w.heap.size, 0, none⟩ = some (.slice A a.ids.length cap) ∧ w'.cell? ⟨w.heap.size, 1, none⟩ = some (.bool a.root.cell) ∧ w'.cell? ⟨w.heap.size, 2, none⟩ = some (.int .i64 a.root.n) ∧ w'.cell? ⟨w.heap.size, 3, none⟩ = some (.bool a.jumps) ∧ w'.cell? ⟨b, off + k * 4, none⟩ = some (.int .i64 m.id) ∧ w'.cell? ⟨b, off + k * 4 + 1, none⟩ = some (.int .i64 m.arg) ∧ w'.cell? ⟨b, off + k * 4 + 2, none⟩ = some (.int .u8 (m.kind : Int)) ∧ w'.cell? ⟨b, off + k * 4 + 3, none⟩ = some (.int .i64 m.n))
            (first
              | (go_split_ands; all_goals (first | assumption))
              | go_keep)
            ((first
              | (go_at_call 29; refine (XAM.out _ _ _ hin5).mono ?_; rintro r w4 ⟨vA, rfl, hownA, hb7⟩; have hb5 : Below wr.heap.size wr w4 := hb3.trans ((⟨hb7.os, hb7.tape, hb7.output, hb7.size, hb7.block⟩ : Below w3.heap.size w3 w4).mono hb3.size); have q0 := (hb5.cell (p := ⟨w.heap.size, 0, none⟩) hl0).trans c0; have q1 := (hb5.cell (p := ⟨w.heap.size, 1, none⟩) hl0).trans c1; have q2 := (hb5.cell (p := ⟨w.heap.size, 2, none⟩) hl0).trans c2; have q3 := (hb5.cell (p := ⟨w.heap.size, 3, none⟩) hl0).trans c3; have q4 := (hb5.cell (p := ⟨b, off + k * 4, none⟩) hbl).trans d0; have q5 := (hb5.cell (p := ⟨b, off + k * 4 + 1, none⟩) hbl).trans d1; have q6 := (hb5.cell (p := ⟨b, off + k * 4 + 2, none⟩) hbl).trans d2; have q7 := (hb5.cell (p := ⟨b, off + k * 4 + 3, none⟩) hbl).trans d3; obtain ⟨AA, cA, rfl⟩ := own_slice hownA; have hbaseA : wr.heap.size ≤ w3.heap.size := hb3.size)
              | (go_at_call 18; refine (HC.out _ (by first | exact hbR | exact hbR.drew)).mono ?_; rintro r w3 ⟨v5, rfl, hin5, hb8⟩; have hb3 : Below wr.heap.size wr w3 := ⟨hb8.os, hb8.tape, hb8.output, hb8.size, hb8.block⟩; have r0 := (hb3.cell (p := ⟨w.heap.size, 0, none⟩) hl0).trans c0; have r1 := (hb3.cell (p := ⟨w.heap.size, 1, none⟩) hl0).trans c1; have r2 := (hb3.cell (p := ⟨w.heap.size, 2, none⟩) hl0).trans c2; have r3 := (hb3.cell (p := ⟨w.heap.size, 3, none⟩) hl0).trans c3; have r4 := (hb3.cell (p := ⟨b, off + k * 4, none⟩) hbl).trans d0; have r5 := (hb3.cell (p := ⟨b, off + k * 4 + 1, none⟩) hbl).trans d1; have r6 := (hb3.cell (p := ⟨b, off + k * 4 + 2, none⟩) hbl).trans d2; have r7 := (hb3.cell (p := ⟨b, off + k * 4 + 3, none⟩) hbl).trans d3; have hin5' := hin5; obtain ⟨A5, c5, rfl, -⟩ := hin5'.sl)))
          clear r0 r1 r2 r3 r4 r5 r6 r7 hin5 hin5' c0 c1 c2 c3 d0 d1 d2 d3
          have hbE := hb.trans (hb5.mono hb.size)
          have hrowE := HROW.out.below hb5
          have hTlen := HTL.out T k HTOLD.out
          have rk := hrowE.cell hlt (List.getElem?_eq_getElem (by rw [hTlen]; exact hlt))
          have rkf := hrowE.frozen k
          have z3 : ¬ (300 : Int) < (l.length : Int) := by omega
          have hownS := SlM.of_own hownA
          obtain ⟨AA', cA', hAe, hAK⟩ := hownS
          simp only [Value.slice.injEq] at hAe
          obtain ⟨rfl, -, rfl⟩ := hAe
          have hAlt : ∀ bk ok, AA = some ⟨bk, ok, none⟩ → wr.heap.size ≤ bk := fun bk ok e => Nat.le_trans hbaseA (own_block hownA (by rw [e]; rfl)).1
          have HAK := Lib.hid hAK
          have HALT := Lib.hid hAlt
          have HRE := Lib.hid hrowE
          have hRlt := HROW.out.lt
          have hz4 := hb5.size
          clear hAK hAlt hrowE hownA hbaseA hb5 hb3 hb7 hb8 hl0 hbl HROW
          go_upto_region 15 with (fail)
          have HRZ := Lib.hid (HRE.out.set k)
          have hbZ : Below U.heap.size U (w4.setCell ⟨U.heap.size, k, none⟩ (.bool true)) := hbE.setCell (Nat.le_refl _) _
          have hZ : 0 < l.length → ∃ bk ok, AA = some ⟨bk, ok, none⟩ ∧ bk < (w4.setCell ⟨U.heap.size, k, none⟩ (.bool true)).heap.size ∧ bk ≠ U.heap.size ∧ ∀ (i : Nat) (x : Mv), l[i]? = some x →
              (w4.setCell ⟨U.heap.size, k, none⟩ (.bool true)).cell? ⟨bk, ok + i * 4, none⟩ = some (.int .i64 x.id) ∧ (w4.setCell ⟨U.heap.size, k, none⟩ (.bool true)).cell? ⟨bk, ok + i * 4 + 1, none⟩ = some (.int .i64 x.arg) ∧ (w4.setCell ⟨U.heap.size, k, none⟩ (.bool true)).cell? ⟨bk, ok + i * 4 + 2, none⟩ = some (.int .u8 (x.kind : Int)) ∧ (w4.setCell ⟨U.heap.size, k, none⟩ (.bool true)).cell? ⟨bk, ok + i * 4 + 3, none⟩ = some (.int .i64 x.n) := fun h0 => by
            obtain ⟨bk, ok, hAe, hbk, hc⟩ := HAK.out h0
            have hne : bk ≠ U.heap.size := fun e => by have := HALT.out bk ok hAe; omega
            have hK := (Keep.refl U.heap.size w4).set k (.bool true)
            refine ⟨bk, ok, hAe, Nat.lt_of_lt_of_le hbk hK.size, hne, fun i x hx => ?_⟩
            obtain ⟨y0, y1, y2, y3⟩ := hc i x hx
            exact ⟨(hK.cell (p := ⟨bk, ok + i * 4, none⟩) hbk hne).trans y0, (hK.cell (p := ⟨bk, ok + i * 4 + 1, none⟩) hbk hne).trans y1, (hK.cell (p := ⟨bk, ok + i * 4 + 2, none⟩) hbk hne).trans y2, (hK.cell (p := ⟨bk, ok + i * 4 + 3, none⟩) hbk hne).trans y3⟩
          have HAZ := Lib.hid hZ
          clear hZ HAK HALT HRE rk rkf q0 q1 q2 q3 q4 q5 q6 q7 hbE
          generalize w4.setCell ⟨U.heap.size, k, none⟩ (.bool true) = Z at *
          go_wp2
          go_loopw [9] (fun c wi => ∃ (n : Nat) (T' : List Bool), c = .int .i64 (n : Int) ∧ n ≤ l.length ∧ ToldIn a T' k n l ∧ RowT U.heap.size L.length T' wi ∧ Keep U.heap.size Z wi ∧ Below U.heap.size U wi) (fun c _ => l.length + 1 - (intOf c).toNat)
          case atStart => exact ⟨0, _, rfl, Nat.zero_le _, HBG.out, HRZ.out, Keep.refl _ _, hbZ⟩
          case round =>
            clear hbZ HRZ HBG
            obtain ⟨n, T', rfl, hn, hti, hrow, hkp, hbi⟩ := hrel
            have HTI := Lib.hid hti
            have HROW := Lib.hid hrow
            clear hti hrow
            by_cases hnt : n < l.length
            · have hnt' : (n : Int) < (l.length : Int) := by omega
              have hx := List.getElem?_eq_getElem hnt
              have hmem := List.getElem_mem hnt
              obtain ⟨bk, ok, hAb, hbk0, hbkB, hc⟩ := HAZ.out (by omega)
              subst hAb
              obtain ⟨y0, y1, y2, y3⟩ := hc n _ hx
              generalize l[n] = x at *
              have HXN := Lib.hid hx
              obtain ⟨hxL, e1, e2, e3⟩ := HSUB.out x hmem
              have i0 : (0 : Int) ≤ (n : Int) := by omega
              have i4 : ¬ ((n : Int) < 0) := by omega
              have i6 : ¬ ((l.length : Int) ≤ (n : Int)) := by omega
              have d0 := (hkp.cell (p := ⟨bk, ok + n * 4, none⟩) hbk0 hbkB).trans y0
              have d1 := (hkp.cell (p := ⟨bk, ok + n * 4 + 1, none⟩) hbk0 hbkB).trans y1
              have d2 := (hkp.cell (p := ⟨bk, ok + n * 4 + 2, none⟩) hbk0 hbkB).trans y2
              have d3 := (hkp.cell (p := ⟨bk, ok + n * 4 + 3, none⟩) hbk0 hbkB).trans y3
              have hbl : bk < wr.heap.size := Nat.lt_of_lt_of_le hbk0 hkp.size
              have HFX := Lib.hid (HF.out _ x wr (HSLM.out.below hbi))
              have HE := Lib.hid (And.intro e1 (And.intro e2 e3))
              have HXL := Lib.hid hxL
              clear hx hmem hc y0 y1 y2 y3 e1 e2 e3 hxL
              go_upto_region 19 with (go_at_call 53; refine HFX.out.mono ?_; rintro r w5 ⟨⟨q, rfl, hq⟩, hb8⟩)
              obtain ⟨kk, rfl, hkk⟩ : ∃ kk : Nat, q = (kk : Int) ∧ L[kk]? = some x := by
                rcases hq with ⟨_, h⟩ | ⟨kk, x', h1, h2, h3⟩
                · have h9 : L.any (sameMv · x) = true := List.any_eq_true.2 ⟨x, HXL.out, (sameMv_iff x x).2 rfl⟩
                  rw [h] at h9; cases h9
                · rw [(sameMv_iff x' x).1 h3] at h2; exact ⟨kk, h1, h2⟩
              clear hq
              obtain ⟨e1, e2, e3⟩ := HE.out
              have hbU5 := hbi.trans (hb8.mono hbi.size)
              obtain ⟨y0, y1, y2, y3⟩ := HY.out
              have g0 := (hbU5.cell (p := ⟨b, off + k * 4, none⟩) hbl0).trans y0
              have g1 := (hbU5.cell (p := ⟨b, off + k * 4 + 1, none⟩) hbl0).trans y1
              have f0 := (hb8.cell (p := ⟨bk, ok + n * 4, none⟩) hbl).trans d0
              have f1 := (hb8.cell (p := ⟨bk, ok + n * 4 + 1, none⟩) hbl).trans d1
              have f2 : w5.cell? ⟨bk, ok + n * 4 + 2, none⟩ = some (.int .u8 3) := (hb8.cell (p := ⟨bk, ok + n * 4 + 2, none⟩) hbl).trans (d2.trans (by rw [e3]; rfl))
              rw [e1] at f0
              rw [e2] at f1
              have hkl := (List.getElem?_eq_some_iff.1 hkk).1
              have u0 : decide ((kk : Int) < 0) = false := by rw [decide_eq_false_iff_not]; omega
              have u1 : ¬ (kk : Int) < 0 := by omega
              have u2 : (0 : Int) ≤ (kk : Int) := by omega
              have u3 : ¬ ((L.length : Int) ≤ (kk : Int)) := by omega
              have hrow5 := HROW.out.below hb8
              have hTl := HTL.out T' k HTI.out.1
              obtain ⟨bo, rk⟩ : ∃ bo, w5.cell? ⟨U.heap.size, kk, none⟩ = some (.bool bo) := ⟨_, hrow5.cell hkl (List.getElem?_eq_getElem (by rw [hTl]; exact hkl))⟩
              have rkf := hrow5.frozen kk
              have HKK := Lib.hid hkk
              have HR5 := Lib.hid hrow5
              have HKP := Lib.hid (hkp.below hb8)
              clear hkk hrow5 hTl d0 d1 d2 d3 y0 y1 y2 y3 e1 e2 e3 hbi hb8 hkp
              go_quiet (fail)
              go_wp2
              go_roundw
              case rel => exact ⟨n + 1, T'.set kk true, by go_num, by omega, HSTEP.out T' k n kk l x HTI.out HXN.out HKK.out, (HR5.out.drewN _).set kk, (HKP.out.drewN _).set kk _, (below_drewN hbU5 _).setCell (Nat.le_refl _) _⟩
              case measure => simp [intOf]; omega
            · have hnt2 : ¬ (n : Int) < (l.length : Int) := by omega
              have hne : n = l.length := by omega
              have HND := Lib.hid (HDN.out T' (by rw [← hne]; exact HTI.out))
              clear hne
              go_wp2
              go_roundw
              case rel => exact ⟨k + 1, T', by go_num, by omega, HND.out, HROW.out, hbi⟩
              case measure => simp [intOf]; omega
      · have hlt' : ¬ (k : Int) < (L.length : Int) := by omega
        have hkL : k = L.length := by omega
        have hT9 := HTOLD.out
        rw [hkL] at hT9
        have hTl := HTL.out T _ hT9
        have HC3 := Lib.hid (fun (j : Nat) (hj : j < L.length) => HROW.out.cell hj (HALLT.out T hT9 j (by rw [hTl]; exact hj)))
        clear hT9 hTl
        go_wp2
        go_loopw [11] (fun c wi => ∃ j : Nat, c = .int .i64 (j : Int) ∧ j ≤ L.length ∧ wi = wr) (fun c _ => L.length + 1 - (intOf c).toNat)
        case atStart => exact ⟨0, rfl, Nat.zero_le _, rfl⟩
        case round =>
          obtain ⟨j, rfl, hj, rfl⟩ := hrel
          by_cases hjl : j < L.length
          · have hjl' : (j : Int) < (L.length : Int) := by omega
            have rk := HC3.out j hjl
            have i0 : (0 : Int) ≤ (j : Int) := by omega
            have i4 : ¬ ((j : Int) < 0) := by omega
            have i6 : ¬ ((L.length : Int) ≤ (j : Int)) := by omega
            go_wp2
            go_roundw
            case rel => exact ⟨j + 1, by go_num, by omega, by first | rfl | trivial⟩
            case measure => simp [intOf]; omega
          · have hjl' : ¬ (j : Int) < (L.length : Int) := by omega
            clear HC3 HTOLD HROW hkL HSKIP HBEG HSTEP HDONE HALLT HTL HT0 HANS XA
            go_wp2
            go_loopw [12] (fun c wi => ∃ id : Nat, c = .int .i64 (id : Int) ∧ id ≤ a.ids.length + 1 ∧ Below U.heap.size U wi) (fun c _ => a.ids.length + 2 - (intOf c).toNat)
            case atStart => exact ⟨0, rfl, Nat.zero_le _, hb⟩
            case round =>
              clear hb hbR
              obtain ⟨id, rfl, hid, hb⟩ := hrel
              have hbR := hbU.trans (hb.mono hbU.size)
              obtain ⟨⟨c0, c1, c2, c3⟩, -, hl0⟩ := four_c (heap_below hb (Array.getElem?_eq_some_iff.1 HM0.out).1 HM0.out)
              by_cases hil : id < a.ids.length + 1
              · have hil' : (id : Int) ≤ (a.ids.length : Int) := by omega
                go_wp2
                go_loopw [13] (fun c wi => ∃ arg : Nat, c = .int .i64 (arg : Int) ∧ arg ≤ 6 ∧ Below U.heap.size U wi) (fun c _ => 7 - (intOf c).toNat)
                case atStart => exact ⟨0, rfl, Nat.zero_le _, hb⟩
                case round =>
                  clear hb hbR c0 c1 c2 c3 hl0
                  obtain ⟨arg, rfl, harg, hb⟩ := hrel
                  have hbR := hbU.trans (hb.mono hbU.size)
                  obtain ⟨⟨c0, c1, c2, c3⟩, -, hl0⟩ := four_c (heap_below hb (Array.getElem?_eq_some_iff.1 HM0.out).1 HM0.out)
                  by_cases ha6 : arg < 6
                  · have ha6' : (arg : Int) ≤ 5 := by omega
                    have hP := XP.out (id : Int) (arg : Int)
                    rw [HFO.out] at hP
                    cases hp : plAt a (id : Int) (arg : Int) with
                    | none =>
                      rw [hp] at hP
                      dsimp only at hP
                      have HP := Lib.hid hP
                      clear hP hp
                      go_upto_region 34 with (first
                        | (go_at_call 35; refine (HP.out _ _ _ hin5).mono ?_; rintro r w4 ⟨rfl, hb7⟩; have hb5 : Below wr.heap.size wr w4 := hb3.trans ((⟨hb7.os, hb7.tape, hb7.output, hb7.size, hb7.block⟩ : Below w3.heap.size w3 w4).mono hb3.size))
                        | (go_at_call 18; refine (HC.out _ hbR).mono ?_; rintro r w3 ⟨v5, rfl, hin5, hb8⟩; have hb3 : Below wr.heap.size wr w3 := ⟨hb8.os, hb8.tape, hb8.output, hb8.size, hb8.block⟩; have hin5' := hin5; obtain ⟨A5, c5, rfl, -⟩ := hin5'.sl))
                      have hbE := (hb.trans (hb5.mono hb.size)).alloc (Nat.le_trans hb.size hb5.size) (.cells #[.bool false, .int .i64 0] 24)
                      clear hb7 hb5 hb3 hb8 c0 c1 c2 c3 hl0
                      go_quiet (fail)
                      go_wp2
                      go_roundw
                      case rel => exact ⟨arg + 1, by go_num, by omega, below_drewN hbE _⟩
                      case measure => simp [intOf]; omega
                    | some p =>
                      rw [hp] at hP
                      dsimp only at hP
                      have HP := Lib.hid hP
                      obtain ⟨p1, p2, p3⟩ := HPL.out _ _ p hp
                      clear hP hp
                      go_upto_region 34 with (first
                        | (go_at_call 35; refine (HP.out _ _ _ hin5).mono ?_; rintro r w4 ⟨rfl, hb7⟩; have hb5 : Below wr.heap.size wr w4 := hb3.trans ((⟨hb7.os, hb7.tape, hb7.output, hb7.size, hb7.block⟩ : Below w3.heap.size w3 w4).mono hb3.size))
                        | (go_at_call 18; refine (HC.out _ hbR).mono ?_; rintro r w3 ⟨v5, rfl, hin5, hb8⟩; have hb3 : Below wr.heap.size wr w3 := ⟨hb8.os, hb8.tape, hb8.output, hb8.size, hb8.block⟩; have hin5' := hin5; obtain ⟨A5, c5, rfl, -⟩ := hin5'.sl))
                      have HFA := Lib.hid (show ∀ V, SlM V (.slice A6 L.length c6) L → Calls Tryz.prog 53 #[.slice A6 L.length c6, .agg #[.int .i64 (id : Int), .int .i64 (arg : Int), .int .u8 1, .int .i64 0]] V fun e w' => (∃ q : Int, e = .returned (.int .i64 q) ∧ ¬ q < 0 ∧ decide (q < 0) = false) ∧ Below V.heap.size V w' from fun V h => (HF.out _ ⟨id, arg, 1, 0⟩ V h).mono fun e w' ⟨⟨q, he, hq⟩, hb⟩ => ⟨⟨q, he, find_in p1 hq⟩, hb⟩)
                      have HFB := Lib.hid (show ∀ V, SlM V (.slice A6 L.length c6) L → Calls Tryz.prog 53 #[.slice A6 L.length c6, .agg #[.int .i64 (id : Int), .int .i64 (arg : Int), .int .u8 3, .int .i64 0]] V fun e w' => (∃ q : Int, e = .returned (.int .i64 q) ∧ ¬ q < 0 ∧ decide (q < 0) = false) ∧ Below V.heap.size V w' from fun V h => (HF.out _ ⟨id, arg, 3, 0⟩ V h).mono fun e w' ⟨⟨q, he, hq⟩, hb⟩ => ⟨⟨q, he, find_in p2 hq⟩, hb⟩)
                      have HFC := Lib.hid (show ∀ V, SlM V (.slice A6 L.length c6) L → Calls Tryz.prog 53 #[.slice A6 L.length c6, .agg #[.int .i64 (id : Int), .int .i64 (arg : Int), .int .u8 2, .int .i64 0]] V fun e w' => (∃ q : Int, e = .returned (.int .i64 q) ∧ decide (0 ≤ q) = p.base.cell) ∧ Below V.heap.size V w' from fun V h => (HF.out _ ⟨id, arg, 2, 0⟩ V h).mono fun e w' ⟨⟨q, he, hq⟩, hb⟩ => ⟨⟨q, he, find_iff p3 hq⟩, hb⟩)
                      clear p1 p2 p3
                      have hbE := (hb.trans (hb5.mono hb.size)).alloc (Nat.le_trans hb.size hb5.size) (.cells #[.bool p.base.cell, .int .i64 p.base.n] 24)
                      have N1 := heap_alloc_new w4 (.cells #[.bool p.base.cell, .int .i64 p.base.n] 24)
                      have hN0 : w4.heap.size < (w4.alloc (.cells #[.bool p.base.cell, .int .i64 p.base.n] 24)).heap.size := by simp
                      clear hb7 hb5 hb3 hb8 c0 c1 c2 c3 hl0
                      generalize w4.alloc (.cells #[.bool p.base.cell, .int .i64 p.base.n] 24) = X at *
                      have s0 := cell_of_row _ _ 0 _ _ _ N1
                      generalize w4.heap.size = B4 at *
                      have hslX := HSL.out.below hbE
                      have hs0X : X.drew.cell? ⟨B4, 0, none⟩ = some (.bool p.base.cell) := s0
                      clear N1 s0
                      generalize p.base.cell = cc at *
                      refine wp_region_chain (fun w' => w'.cell? ⟨B4, 0, none⟩ = some (.bool cc)) [(true, 0), (true, 1), (true, 2), (true, 3), (true, 4), (true, 5), (true, 6), (false, 7), (true, 8), (true, 9), (true, 10), (true, 11), (true, 12), (true, 13), (false, 14), (true, 15), (true, 16), (true, 17), (true, 18), (true, 19), (true, 20), (true, 21), (true, 24), (true, 25), (false, 22), (true, 23), (true, 26), (true, 27), (true, 28)] (by kernel_rfl) (by kernel_rfl) (by kernel_rfl) (by kernel_rfl) (by intro d v c a w h; cases d <;> exact h) hs0X ?_
                      simp only [chainOps, List.filterMap_cons, List.filterMap_nil, List.getElem?_toArray, List.getElem?_cons_zero, List.getElem?_cons_succ, Option.map_some]
                      repeat (first
                        | (refine chain_skip (by rfl) ?_
                           try simp only [Act.put, List.setIfInBounds_toArray, List.set_cons_zero, List.set_cons_succ])
                        | (apply chain_take (by rfl)
                           · (intro w' hSw; (try dsimp only at hSw); go_simp; try with_reducible rfl)
                           try simp only [Act.put, List.setIfInBounds_toArray, List.set_cons_zero, List.set_cons_succ]))
                      refine chain_act (fun K hK => ?_)
                      go_simp
                      go_at_call 53; refine (HFA.out _ (by first | exact hslX | exact hslX.draws _)).mono ?_; rintro e w5 ⟨⟨qa, rfl, qa1, qa2⟩, hbFa⟩
                      have hb5 : Below X.heap.size X w5 := ⟨hbFa.os, hbFa.tape, hbFa.output, hbFa.size, hbFa.block⟩
                      refine hK.out _ _ ((hb5.cell (p := ⟨B4, 0, none⟩) hN0).trans hs0X) ?_
                      clear hK K
                      try simp only [Act.put, List.setIfInBounds_toArray, List.set_cons_zero, List.set_cons_succ]
                      repeat (first
                        | (refine chain_skip (by rfl) ?_
                           try simp only [Act.put, List.setIfInBounds_toArray, List.set_cons_zero, List.set_cons_succ])
                        | (apply chain_take (by rfl)
                           · (intro w' hSw; (try dsimp only at hSw); go_simp; try with_reducible rfl)
                           try simp only [Act.put, List.setIfInBounds_toArray, List.set_cons_zero, List.set_cons_succ]))
                      refine chain_act (fun K hK => ?_)
                      go_simp
                      go_at_call 53; refine (HFB.out _ (hslX.below hb5)).mono ?_; rintro e w6 ⟨⟨qb, rfl, qb1, qb2⟩, hbFb⟩
                      have hb6 : Below X.heap.size X w6 := hb5.trans (hbFb.mono hb5.size)
                      refine hK.out _ _ ((hb6.cell (p := ⟨B4, 0, none⟩) hN0).trans hs0X) ?_
                      clear hK K
                      try simp only [Act.put, List.setIfInBounds_toArray, List.set_cons_zero, List.set_cons_succ]
                      repeat (first
                        | (refine chain_skip (by rfl) ?_
                           try simp only [Act.put, List.setIfInBounds_toArray, List.set_cons_zero, List.set_cons_succ])
                        | (apply chain_take (by rfl)
                           · (intro w' hSw; (try dsimp only at hSw); go_simp; try with_reducible rfl)
                           try simp only [Act.put, List.setIfInBounds_toArray, List.set_cons_zero, List.set_cons_succ]))
                      refine chain_act (fun K hK => ?_)
                      go_simp
                      go_at_call 53; refine (HFC.out _ (hslX.below hb6)).mono ?_; rintro e w7 ⟨⟨qc, rfl, qc1⟩, hbFc⟩
                      have hb7 : Below X.heap.size X w7 := hb6.trans (hbFc.mono hb6.size)
                      refine hK.out _ _ ((hb7.cell (p := ⟨B4, 0, none⟩) hN0).trans hs0X) ?_
                      clear hK K
                      try simp only [Act.put, List.setIfInBounds_toArray, List.set_cons_zero, List.set_cons_succ]
                      repeat (first
                        | (refine chain_skip (by rfl) ?_
                           try simp only [Act.put, List.setIfInBounds_toArray, List.set_cons_zero, List.set_cons_succ])
                        | (apply chain_take (by rfl)
                           · (intro w' hSw; (try dsimp only at hSw); go_simp; try with_reducible rfl)
                           try simp only [Act.put, List.setIfInBounds_toArray, List.set_cons_zero, List.set_cons_succ]))
                      refine chain_nil ?_
                      go_wp2
                      go_roundw
                      case rel => exact ⟨arg + 1, by go_num, by omega, hbE.trans (hb7.mono hbE.size)⟩
                      case measure => simp [intOf]; omega
                  · have ha6' : ¬ (arg : Int) ≤ 5 := by omega
                    go_wp2
                    go_roundw
                    case rel => exact ⟨id + 1, by go_num, by omega, hb⟩
                    case measure => simp [intOf]; omega
              · have hil' : ¬ (id : Int) ≤ (a.ids.length : Int) := by omega
                go_wp2_with (go_at_call 17; refine (HA.out _ hbR).mono ?_; rintro r w9 ⟨rfl, hb9⟩)
                go_ret
                exact ⟨rfl, hbR.trans (hb9.mono hbR.size)⟩

end Go.Proofs.YtoncdnelacolaaaGreatDoor.Ar
