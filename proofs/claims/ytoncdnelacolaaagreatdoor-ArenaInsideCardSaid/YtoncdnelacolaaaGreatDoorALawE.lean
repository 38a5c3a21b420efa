/- ArenaMoves: whether any move is one of any arena, whose it is, its answers, the questions under it. -/
import Derived.Test.YtoncdnelacolaaaGreatDoorAAnsC
import Derived.Test.YtoncdnelacolaaaGreatDoorALawC
namespace Go.Proofs.YtoncdnelacolaaaGreatDoor.Ar
open Go Go.Proofs Go.RowKit Go.Sort Lx Ps

theorem ioR_form (a : Ar) (m : Mv) : ∃ (b : Bool) (e : Nat), ioR a m = .tuple #[.bool b, .int .i64 (e : Int)] := by
  unfold ioR
  split
  · exact ⟨_, _, rfl⟩
  · split
    · exact ⟨_, 7, rfl⟩
    · exact ⟨_, 0, rfl⟩
theorem ansR_len (a : Ar) (m : Mv) : (ansR a m).1.length ≤ 1000000 := by
  cases apCase (.slice none 0 0) a m with
  | bad e h0 he ha hu => rw [ha]; exact Nat.zero_le _
  | ok p h0 hp hk hk2 ha hu => rw [ha]; exact Nat.le_trans (toldA_len (right_of h0) _ _ _) (by omega)
theorem undR_len (a : Ar) (m : Mv) : (undR a m).1.length ≤ 1000000 := by
  cases apCase (.slice none 0 0) a m with
  | bad e h0 he ha hu => rw [hu]; exact Nat.zero_le _
  | ok p h0 hp hk hk2 ha hu => rw [hu]; dsimp only; rw [← under_below a m p (placeM_pl hp)]; exact Nat.le_trans (under_len (right_of h0) p) (by omega)

set_option maxRecDepth 100000 in
set_option maxHeartbeats 4000000 in
theorem arenaMoves_any (ids : Value) (a : Ar) (m : Mv) (w : World) (hin : ArIn w ids a) (hG : Ga w) :
    Calls Tryz.prog 4 #[arV ids a, mvV m] w fun e w' => e = .returned (.bool true) ∧ Below w.heap.size w w' := by
  obtain ⟨ob, oe, hio⟩ := ioR_form a m
  have hT := fun V (hb : Below w.heap.size w V) => thin_any ids a V (hin.below hb)
  have HIN := Lib.hid hin
  have HA := Lib.hid (fun V (hb : Below w.heap.size w V) => awake_any V (hG.next hb))
  obtain ⟨A, cap, rfl, -⟩ := hin.sl
  obtain ⟨k0, k1⟩ := blocks2 w (.cells #[.slice A a.ids.length cap, .bool a.root.cell, .int .i64 a.root.n, .bool a.jumps] 26) (.cells #[.int .i64 m.id, .int .i64 m.arg, .int .u8 (m.kind : Int), .int .i64 m.n] 40)
  have hb0 : Below w.heap.size w ((w.alloc (.cells #[.slice A a.ids.length cap, .bool a.root.cell, .int .i64 a.root.n, .bool a.jumps] 26)).alloc (.cells #[.int .i64 m.id, .int .i64 m.arg, .int .u8 (m.kind : Int), .int .i64 m.n] 40)) := below_two
  have hrH : checkE a = 0 → ∀ W, Below w.heap.size w W → Calls Tryz.prog 34 #[arV (.slice A a.ids.length cap) a, mvV m] W fun e w' => e = .returned (.bool (placeM a m).isSome) ∧ Below W.heap.size W w' := fun h W hb =>
    (refHas_any _ a m W (hin.below hb) (fun p hp => plAt_right (right_of h) hp) (questA_len (right_of h) _ _) (toldA_len (right_of h) _ _ _)).mono fun e w' ⟨he, hb2⟩ => ⟨he.trans (by
      have : ∀ l : List Mv, l.any (sameMv · m) = l.any (eqM · m) := fun l => by congr 1; funext x; exact sameMv_eqM x m
      rw [this, this, has_any_iff]), hb2⟩
  have hsame : ∀ (u v : Value) (l : List Mv) (W : World), SlM W u l → SlM W v l → l.length ≤ 1000000 → Calls Tryz.prog 25 #[u, v] W fun e w' => e = .returned (.bool true) ∧ Below W.heap.size W w' := fun u v l W h1 h2 h3 => sameWord_eq u v l W h1 h2 h3
  have hla := ansR_len a m
  have hlu := undR_len a m
  have hCk := fun V (hb : Below w.heap.size w V) => refCheck_any _ a V (hin.below hb)
  have hW := fun V (hb : Below w.heap.size w V) => refWhose_any _ a m V (hin.below hb)
  have hD := fun V (hb : Below w.heap.size w V) => refAnswers_any _ a m V (hin.below hb)
  have hU := fun V (hb : Below w.heap.size w V) => refUnder_any _ a m V (hin.below hb)
  have xH := fun (A5 : Option Addr) (c5 : Nat) V (h : ArIn V (.slice A5 a.ids.length c5) a) => apHas_any _ a m V h
  have xI := fun (A5 : Option Addr) (c5 : Nat) V (h : ArIn V (.slice A5 a.ids.length c5) a) => isOther_any _ a m V h
  have xA := fun (A5 : Option Addr) (c5 : Nat) V (h : ArIn V (.slice A5 a.ids.length c5) a) => apAnswers_any _ a m V h
  have xU := fun (A5 : Option Addr) (c5 : Nat) V (h : ArIn V (.slice A5 a.ids.length c5) a) => apUnder_any _ a m V h
  have hhb : hsB a m = (decide (checkE a = 0) && (placeM a m).isSome) := rfl
  rw [hio] at hW
  simp only [hio] at xI
  generalize ansR a m = AR at *
  obtain ⟨LA, eA⟩ := AR
  generalize undR a m = UR at *
  obtain ⟨LU, eU⟩ := UR
  dsimp only at *
  clear hG hin hio
  have hCp := fun h1 h2 V (hb : Below w.heap.size w V) => copy_any (.slice A a.ids.length cap) a V (HIN.out.below hb) h1 h2
  unfold arV mvV at *
  have HCK := Lib.hid hCk
  have HW := Lib.hid hW
  have HD := Lib.hid hD
  have HU := Lib.hid hU
  have XH := Lib.hid xH
  have XI := Lib.hid xI
  have XA := Lib.hid xA
  have XU := Lib.hid xU
  have HS := Lib.hid hsame
  have HRH := Lib.hid hrH
  have HHB := Lib.hid hhb
  have HLA := Lib.hid hla
  have HLU := Lib.hid hlu
  have HCP := Lib.hid hCp
  clear hCk hW hD hU xH xI xA xU hsame hrH hhb hla hlu hCp
  go_enter Tryz.func4, Tryz.ntmps4
  go_upto_region 1 with (fail)
  generalize ((w.alloc (.cells #[.slice A a.ids.length cap, .bool a.root.cell, .int .i64 a.root.n, .bool a.jumps] 26)).alloc (.cells #[.int .i64 m.id, .int .i64 m.arg, .int .u8 (m.kind : Int), .int .i64 m.n] 40)) = V at k0 k1 hb0 ⊢
  obtain ⟨⟨c0, c1, c2, c3⟩, -, hl0⟩ := four_c k0
  have HK0 := Lib.hid k0
  have HK1 := Lib.hid k1
  clear k0 k1
  cases hth : thinB a
  · rw [hth] at hT
    have HT := Lib.hid hT
    clear hT hth
    go_wp2_with (first
      | (go_at_call 16; refine (HT.out _ hb0).mono ?_; rintro r w1 ⟨rfl, hb1⟩; have hb2 := hb0.trans (hb1.mono hb0.size))
      | (go_at_call 17; refine (HA.out _ hb2).mono ?_; rintro r w2 ⟨rfl, hb3⟩))
    go_ret
    exact ⟨rfl, hb2.trans (hb3.mono hb2.size)⟩
  · rw [hth] at hT
    have HT := Lib.hid hT
    obtain ⟨hl, hls⟩ := thin_len hth
    clear hT hth
    have HC := Lib.hid (HCP.out hl hls)
    clear HCP
    go_upto_region 3 with (go_at_call 16; refine (HT.out _ hb0).mono ?_; rintro r w1 ⟨rfl, hb1⟩)
    have hbX := hb0.trans (hb1.mono hb0.size)
    have M0 := heap_below hb1 (Array.getElem?_eq_some_iff.1 HK0.out).1 HK0.out
    have M1 := heap_below hb1 (Array.getElem?_eq_some_iff.1 HK1.out).1 HK1.out
    clear c0 c1 c2 c3 HK0 HK1 hb1 hb0 hl0 HT
    generalize w1 = X at *
    obtain ⟨⟨c0, c1, c2, c3⟩, -, hl0⟩ := four_c M0
    obtain ⟨⟨d0, d1, d2, d3⟩, -, hl1⟩ := four_c M1
    go_region_held3 (fun w' => w'.cell? ⟨w.heap.size, 0, none⟩ = some (.slice A a.ids.length cap) ∧ w'.cell? ⟨w.heap.size, 1, none⟩ = some (.bool a.root.cell) ∧ w'.cell? ⟨w.heap.size, 2, none⟩ = some (.int .i64 a.root.n) ∧ w'.cell? ⟨w.heap.size, 3, none⟩ = some (.bool a.jumps) ∧ w'.cell? ⟨w.heap.size + 1, 0, none⟩ = some (.int .i64 m.id) ∧ w'.cell? ⟨w.heap.size + 1, 1, none⟩ = some (.int .i64 m.arg) ∧ w'.cell? ⟨w.heap.size + 1, 2, none⟩ = some (.int .u8 (m.kind : Int)) ∧ w'.cell? ⟨w.heap.size + 1, 3, none⟩ = some (.int .i64 m.n))
      (first
        | (go_split_ands; all_goals (first | assumption))
        | go_keep)
      ((first
        | (go_at_call 27; refine (XH.out _ _ _ hin5).mono ?_; rintro r w4 ⟨rfl, hb7⟩; have hb4 : Below X.heap.size X w4 := hb3.trans ((⟨hb7.os, hb7.tape, hb7.output, hb7.size, hb7.block⟩ : Below w3.heap.size w3 w4).mono hb3.size); have s0 := (hb4.cell (p := ⟨w.heap.size, 0, none⟩) hl0).trans c0; have s1 := (hb4.cell (p := ⟨w.heap.size, 1, none⟩) hl0).trans c1; have s2 := (hb4.cell (p := ⟨w.heap.size, 2, none⟩) hl0).trans c2; have s3 := (hb4.cell (p := ⟨w.heap.size, 3, none⟩) hl0).trans c3; have s4 := (hb4.cell (p := ⟨w.heap.size + 1, 0, none⟩) hl1).trans d0; have s5 := (hb4.cell (p := ⟨w.heap.size + 1, 1, none⟩) hl1).trans d1; have s6 := (hb4.cell (p := ⟨w.heap.size + 1, 2, none⟩) hl1).trans d2; have s7 := (hb4.cell (p := ⟨w.heap.size + 1, 3, none⟩) hl1).trans d3)
        | (go_at_call 18; refine (HC.out _ (by first | exact hbX | exact hbX.drew)).mono ?_; rintro r w3 ⟨v5, rfl, hin5, hb8⟩; have hb3 : Below X.heap.size X w3 := ⟨hb8.os, hb8.tape, hb8.output, hb8.size, hb8.block⟩; have r0 := (hb3.cell (p := ⟨w.heap.size, 0, none⟩) hl0).trans c0; have r1 := (hb3.cell (p := ⟨w.heap.size, 1, none⟩) hl0).trans c1; have r2 := (hb3.cell (p := ⟨w.heap.size, 2, none⟩) hl0).trans c2; have r3 := (hb3.cell (p := ⟨w.heap.size, 3, none⟩) hl0).trans c3; have r4 := (hb3.cell (p := ⟨w.heap.size + 1, 0, none⟩) hl1).trans d0; have r5 := (hb3.cell (p := ⟨w.heap.size + 1, 1, none⟩) hl1).trans d1; have r6 := (hb3.cell (p := ⟨w.heap.size + 1, 2, none⟩) hl1).trans d2; have r7 := (hb3.cell (p := ⟨w.heap.size + 1, 3, none⟩) hl1).trans d3; have hin5' := hin5; obtain ⟨A5, c5, rfl, -⟩ := hin5'.sl)))
    have hbY := hbX.trans (hb4.mono hbX.size)
    have N0 := heap_below hb4 (Array.getElem?_eq_some_iff.1 M0).1 M0
    have N1 := heap_below hb4 (Array.getElem?_eq_some_iff.1 M1).1 M1
    clear c0 c1 c2 c3 d0 d1 d2 d3 M0 M1 hl0 hl1 hbX
    clear r0 r1 r2 r3 r4 r5 r6 r7 s0 s1 s2 s3 s4 s5 s6 s7 hb3 hb4 hb7 hb8 hin5 hin5'
    clear w3 X
    generalize w4 = X at *
    have M0 := N0
    have M1 := N1
    have hbX := hbY
    clear N0 N1 hbY
    go_upto_region 4 with (fail)
    obtain ⟨⟨c0, c1, c2, c3⟩, -, hl0⟩ := four_c M0
    obtain ⟨⟨d0, d1, d2, d3⟩, -, hl1⟩ := four_c M1
    go_region_held3 (fun w' => w'.cell? ⟨w.heap.size, 0, none⟩ = some (.slice A a.ids.length cap) ∧ w'.cell? ⟨w.heap.size, 1, none⟩ = some (.bool a.root.cell) ∧ w'.cell? ⟨w.heap.size, 2, none⟩ = some (.int .i64 a.root.n) ∧ w'.cell? ⟨w.heap.size, 3, none⟩ = some (.bool a.jumps) ∧ w'.cell? ⟨w.heap.size + 1, 0, none⟩ = some (.int .i64 m.id) ∧ w'.cell? ⟨w.heap.size + 1, 1, none⟩ = some (.int .i64 m.arg) ∧ w'.cell? ⟨w.heap.size + 1, 2, none⟩ = some (.int .u8 (m.kind : Int)) ∧ w'.cell? ⟨w.heap.size + 1, 3, none⟩ = some (.int .i64 m.n))
      (first
        | (go_split_ands; all_goals (first | assumption))
        | go_keep)
      ((first
        | (go_at_call 28; refine (XI.out _ _ _ hin5).mono ?_; rintro r w4 ⟨rfl, hb7⟩; have hb4 : Below X.heap.size X w4 := hb3.trans ((⟨hb7.os, hb7.tape, hb7.output, hb7.size, hb7.block⟩ : Below w3.heap.size w3 w4).mono hb3.size); have s0 := (hb4.cell (p := ⟨w.heap.size, 0, none⟩) hl0).trans c0; have s1 := (hb4.cell (p := ⟨w.heap.size, 1, none⟩) hl0).trans c1; have s2 := (hb4.cell (p := ⟨w.heap.size, 2, none⟩) hl0).trans c2; have s3 := (hb4.cell (p := ⟨w.heap.size, 3, none⟩) hl0).trans c3; have s4 := (hb4.cell (p := ⟨w.heap.size + 1, 0, none⟩) hl1).trans d0; have s5 := (hb4.cell (p := ⟨w.heap.size + 1, 1, none⟩) hl1).trans d1; have s6 := (hb4.cell (p := ⟨w.heap.size + 1, 2, none⟩) hl1).trans d2; have s7 := (hb4.cell (p := ⟨w.heap.size + 1, 3, none⟩) hl1).trans d3)
        | (go_at_call 18; refine (HC.out _ (by first | exact hbX | exact hbX.drew)).mono ?_; rintro r w3 ⟨v5, rfl, hin5, hb8⟩; have hb3 : Below X.heap.size X w3 := ⟨hb8.os, hb8.tape, hb8.output, hb8.size, hb8.block⟩; have r0 := (hb3.cell (p := ⟨w.heap.size, 0, none⟩) hl0).trans c0; have r1 := (hb3.cell (p := ⟨w.heap.size, 1, none⟩) hl0).trans c1; have r2 := (hb3.cell (p := ⟨w.heap.size, 2, none⟩) hl0).trans c2; have r3 := (hb3.cell (p := ⟨w.heap.size, 3, none⟩) hl0).trans c3; have r4 := (hb3.cell (p := ⟨w.heap.size + 1, 0, none⟩) hl1).trans d0; have r5 := (hb3.cell (p := ⟨w.heap.size + 1, 1, none⟩) hl1).trans d1; have r6 := (hb3.cell (p := ⟨w.heap.size + 1, 2, none⟩) hl1).trans d2; have r7 := (hb3.cell (p := ⟨w.heap.size + 1, 3, none⟩) hl1).trans d3; have hin5' := hin5; obtain ⟨A5, c5, rfl, -⟩ := hin5'.sl)))
    have hbY := hbX.trans (hb4.mono hbX.size)
    have N0 := heap_below hb4 (Array.getElem?_eq_some_iff.1 M0).1 M0
    have N1 := heap_below hb4 (Array.getElem?_eq_some_iff.1 M1).1 M1
    clear c0 c1 c2 c3 d0 d1 d2 d3 M0 M1 hl0 hl1 hbX
    clear r0 r1 r2 r3 r4 r5 r6 r7 s0 s1 s2 s3 s4 s5 s6 s7 hb3 hb4 hb7 hb8 hin5 hin5'
    clear w3 X
    generalize w4 = X at *
    have M0 := N0
    have M1 := N1
    have hbX := hbY
    clear N0 N1 hbY
    go_upto_region 5 with (fail)
    obtain ⟨⟨c0, c1, c2, c3⟩, -, hl0⟩ := four_c M0
    obtain ⟨⟨d0, d1, d2, d3⟩, -, hl1⟩ := four_c M1
    go_region_held3 (fun w' => w'.cell? ⟨w.heap.size, 0, none⟩ = some (.slice A a.ids.length cap) ∧ w'.cell? ⟨w.heap.size, 1, none⟩ = some (.bool a.root.cell) ∧ w'.cell? ⟨w.heap.size, 2, none⟩ = some (.int .i64 a.root.n) ∧ w'.cell? ⟨w.heap.size, 3, none⟩ = some (.bool a.jumps) ∧ w'.cell? ⟨w.heap.size + 1, 0, none⟩ = some (.int .i64 m.id) ∧ w'.cell? ⟨w.heap.size + 1, 1, none⟩ = some (.int .i64 m.arg) ∧ w'.cell? ⟨w.heap.size + 1, 2, none⟩ = some (.int .u8 (m.kind : Int)) ∧ w'.cell? ⟨w.heap.size + 1, 3, none⟩ = some (.int .i64 m.n))
      (first
        | (go_split_ands; all_goals (first | assumption))
        | go_keep)
      ((first
        | (go_at_call 29; refine (XA.out _ _ _ hin5).mono ?_; rintro r w4 ⟨vA, rfl, hsA, hb7⟩; have hsA1 := hsA; obtain ⟨AA, cA, rfl, -⟩ := hsA1; have hb4 : Below X.heap.size X w4 := hb3.trans ((⟨hb7.os, hb7.tape, hb7.output, hb7.size, hb7.block⟩ : Below w3.heap.size w3 w4).mono hb3.size); have s0 := (hb4.cell (p := ⟨w.heap.size, 0, none⟩) hl0).trans c0; have s1 := (hb4.cell (p := ⟨w.heap.size, 1, none⟩) hl0).trans c1; have s2 := (hb4.cell (p := ⟨w.heap.size, 2, none⟩) hl0).trans c2; have s3 := (hb4.cell (p := ⟨w.heap.size, 3, none⟩) hl0).trans c3; have s4 := (hb4.cell (p := ⟨w.heap.size + 1, 0, none⟩) hl1).trans d0; have s5 := (hb4.cell (p := ⟨w.heap.size + 1, 1, none⟩) hl1).trans d1; have s6 := (hb4.cell (p := ⟨w.heap.size + 1, 2, none⟩) hl1).trans d2; have s7 := (hb4.cell (p := ⟨w.heap.size + 1, 3, none⟩) hl1).trans d3)
        | (go_at_call 18; refine (HC.out _ (by first | exact hbX | exact hbX.drew)).mono ?_; rintro r w3 ⟨v5, rfl, hin5, hb8⟩; have hb3 : Below X.heap.size X w3 := ⟨hb8.os, hb8.tape, hb8.output, hb8.size, hb8.block⟩; have r0 := (hb3.cell (p := ⟨w.heap.size, 0, none⟩) hl0).trans c0; have r1 := (hb3.cell (p := ⟨w.heap.size, 1, none⟩) hl0).trans c1; have r2 := (hb3.cell (p := ⟨w.heap.size, 2, none⟩) hl0).trans c2; have r3 := (hb3.cell (p := ⟨w.heap.size, 3, none⟩) hl0).trans c3; have r4 := (hb3.cell (p := ⟨w.heap.size + 1, 0, none⟩) hl1).trans d0; have r5 := (hb3.cell (p := ⟨w.heap.size + 1, 1, none⟩) hl1).trans d1; have r6 := (hb3.cell (p := ⟨w.heap.size + 1, 2, none⟩) hl1).trans d2; have r7 := (hb3.cell (p := ⟨w.heap.size + 1, 3, none⟩) hl1).trans d3; have hin5' := hin5; obtain ⟨A5, c5, rfl, -⟩ := hin5'.sl)))
    have hbY := hbX.trans (hb4.mono hbX.size)
    have N0 := heap_below hb4 (Array.getElem?_eq_some_iff.1 M0).1 M0
    have N1 := heap_below hb4 (Array.getElem?_eq_some_iff.1 M1).1 M1
    clear c0 c1 c2 c3 d0 d1 d2 d3 M0 M1 hl0 hl1 hbX
    clear r0 r1 r2 r3 r4 r5 r6 r7 s0 s1 s2 s3 s4 s5 s6 s7 hb3 hb4 hb7 hb8 hin5 hin5'
    clear w3 X
    generalize w4 = X at *
    have M0 := N0
    have M1 := N1
    have hbX := hbY
    clear N0 N1 hbY
    go_upto_region 6 with (fail)
    obtain ⟨⟨c0, c1, c2, c3⟩, -, hl0⟩ := four_c M0
    obtain ⟨⟨d0, d1, d2, d3⟩, -, hl1⟩ := four_c M1
    go_region_held3 (fun w' => w'.cell? ⟨w.heap.size, 0, none⟩ = some (.slice A a.ids.length cap) ∧ w'.cell? ⟨w.heap.size, 1, none⟩ = some (.bool a.root.cell) ∧ w'.cell? ⟨w.heap.size, 2, none⟩ = some (.int .i64 a.root.n) ∧ w'.cell? ⟨w.heap.size, 3, none⟩ = some (.bool a.jumps) ∧ w'.cell? ⟨w.heap.size + 1, 0, none⟩ = some (.int .i64 m.id) ∧ w'.cell? ⟨w.heap.size + 1, 1, none⟩ = some (.int .i64 m.arg) ∧ w'.cell? ⟨w.heap.size + 1, 2, none⟩ = some (.int .u8 (m.kind : Int)) ∧ w'.cell? ⟨w.heap.size + 1, 3, none⟩ = some (.int .i64 m.n))
      (first
        | (go_split_ands; all_goals (first | assumption))
        | go_keep)
      ((first
        | (go_at_call 30; refine (XU.out _ _ _ hin5).mono ?_; rintro r w4 ⟨vU, rfl, hsU, hb7⟩; have hsU1 := hsU; obtain ⟨AU, cU, rfl, -⟩ := hsU1; have hb4 : Below X.heap.size X w4 := hb3.trans ((⟨hb7.os, hb7.tape, hb7.output, hb7.size, hb7.block⟩ : Below w3.heap.size w3 w4).mono hb3.size); have s0 := (hb4.cell (p := ⟨w.heap.size, 0, none⟩) hl0).trans c0; have s1 := (hb4.cell (p := ⟨w.heap.size, 1, none⟩) hl0).trans c1; have s2 := (hb4.cell (p := ⟨w.heap.size, 2, none⟩) hl0).trans c2; have s3 := (hb4.cell (p := ⟨w.heap.size, 3, none⟩) hl0).trans c3; have s4 := (hb4.cell (p := ⟨w.heap.size + 1, 0, none⟩) hl1).trans d0; have s5 := (hb4.cell (p := ⟨w.heap.size + 1, 1, none⟩) hl1).trans d1; have s6 := (hb4.cell (p := ⟨w.heap.size + 1, 2, none⟩) hl1).trans d2; have s7 := (hb4.cell (p := ⟨w.heap.size + 1, 3, none⟩) hl1).trans d3)
        | (go_at_call 18; refine (HC.out _ (by first | exact hbX | exact hbX.drew)).mono ?_; rintro r w3 ⟨v5, rfl, hin5, hb8⟩; have hb3 : Below X.heap.size X w3 := ⟨hb8.os, hb8.tape, hb8.output, hb8.size, hb8.block⟩; have r0 := (hb3.cell (p := ⟨w.heap.size, 0, none⟩) hl0).trans c0; have r1 := (hb3.cell (p := ⟨w.heap.size, 1, none⟩) hl0).trans c1; have r2 := (hb3.cell (p := ⟨w.heap.size, 2, none⟩) hl0).trans c2; have r3 := (hb3.cell (p := ⟨w.heap.size, 3, none⟩) hl0).trans c3; have r4 := (hb3.cell (p := ⟨w.heap.size + 1, 0, none⟩) hl1).trans d0; have r5 := (hb3.cell (p := ⟨w.heap.size + 1, 1, none⟩) hl1).trans d1; have r6 := (hb3.cell (p := ⟨w.heap.size + 1, 2, none⟩) hl1).trans d2; have r7 := (hb3.cell (p := ⟨w.heap.size + 1, 3, none⟩) hl1).trans d3; have hin5' := hin5; obtain ⟨A5, c5, rfl, -⟩ := hin5'.sl)))
    have hbY := hbX.trans (hb4.mono hbX.size)
    have N0 := heap_below hb4 (Array.getElem?_eq_some_iff.1 M0).1 M0
    have N1 := heap_below hb4 (Array.getElem?_eq_some_iff.1 M1).1 M1
    have hsA2 := hsA.below hb4
    clear c0 c1 c2 c3 d0 d1 d2 d3 M0 M1 hl0 hl1 hbX
    clear r0 r1 r2 r3 r4 r5 r6 r7 s0 s1 s2 s3 s4 s5 s6 s7 hb3 hb4 hb7 hb8 hin5 hin5'
    clear hsA
    have hsA := hsA2
    clear hsA2
    clear w3 X
    generalize w4 = X at *
    have M0 := N0
    have M1 := N1
    have hbX := hbY
    clear N0 N1 hbY
    go_upto_region 7 with (fail)
    obtain ⟨⟨c0, c1, c2, c3⟩, -, hl0⟩ := four_c M0
    obtain ⟨⟨d0, d1, d2, d3⟩, -, hl1⟩ := four_c M1
    clear HC XH XI XA XU
    go_upto_region 8 with (go_at_call 31; refine (HW.out _ hbX).mono ?_; rintro r w4 ⟨rfl, hb7⟩)
    have hbY := hbX.trans (hb7.mono hbX.size)
    have N0 := heap_below hb7 (Array.getElem?_eq_some_iff.1 M0).1 M0
    have N1 := heap_below hb7 (Array.getElem?_eq_some_iff.1 M1).1 M1
    have hsA2 := hsA.below hb7
    have hsU2 := hsU.below hb7
    clear c0 c1 c2 c3 d0 d1 d2 d3 M0 M1 hl0 hl1 hbX hb7
    clear hsA
    have hsA := hsA2
    clear hsA2
    clear hsU
    have hsU := hsU2
    clear hsU2
    try clear X
    generalize w4 = X at *
    have M0 := N0
    have M1 := N1
    have hbX := hbY
    clear N0 N1 hbY
    obtain ⟨⟨c0, c1, c2, c3⟩, -, hl0⟩ := four_c M0
    obtain ⟨⟨d0, d1, d2, d3⟩, -, hl1⟩ := four_c M1
    go_upto_region 9 with (go_at_call 32; refine (HD.out _ hbX).mono ?_; rintro r w4 ⟨vD, rfl, hsD, hb7⟩; have hsD1 := hsD; obtain ⟨AD, cD, rfl, -⟩ := hsD1)
    have hbY := hbX.trans (hb7.mono hbX.size)
    have N0 := heap_below hb7 (Array.getElem?_eq_some_iff.1 M0).1 M0
    have N1 := heap_below hb7 (Array.getElem?_eq_some_iff.1 M1).1 M1
    have hsA2 := hsA.below hb7
    have hsU2 := hsU.below hb7
    clear c0 c1 c2 c3 d0 d1 d2 d3 M0 M1 hl0 hl1 hbX hb7
    clear hsA
    have hsA := hsA2
    clear hsA2
    clear hsU
    have hsU := hsU2
    clear hsU2
    try clear X
    generalize w4 = X at *
    have M0 := N0
    have M1 := N1
    have hbX := hbY
    clear N0 N1 hbY
    obtain ⟨⟨c0, c1, c2, c3⟩, -, hl0⟩ := four_c M0
    obtain ⟨⟨d0, d1, d2, d3⟩, -, hl1⟩ := four_c M1
    go_upto_region 10 with (go_at_call 33; refine (HU.out _ hbX).mono ?_; rintro r w4 ⟨vV, rfl, hsV, hb7⟩; have hsV1 := hsV; obtain ⟨AV, cV, rfl, -⟩ := hsV1)
    have hbY := hbX.trans (hb7.mono hbX.size)
    have N0 := heap_below hb7 (Array.getElem?_eq_some_iff.1 M0).1 M0
    have N1 := heap_below hb7 (Array.getElem?_eq_some_iff.1 M1).1 M1
    have hsA2 := hsA.below hb7
    have hsU2 := hsU.below hb7
    have hsD2 := hsD.below hb7
    clear c0 c1 c2 c3 d0 d1 d2 d3 M0 M1 hl0 hl1 hbX hb7
    clear hsA
    have hsA := hsA2
    clear hsA2
    clear hsU
    have hsU := hsU2
    clear hsU2
    clear hsD
    have hsD := hsD2
    clear hsD2
    try clear X
    generalize w4 = X at *
    have M0 := N0
    have M1 := N1
    have hbX := hbY
    clear N0 N1 hbY
    obtain ⟨⟨c0, c1, c2, c3⟩, -, hl0⟩ := four_c M0
    obtain ⟨⟨d0, d1, d2, d3⟩, -, hl1⟩ := four_c M1
    by_cases he : checkE a = 0
    · have HHS := Lib.hid (HRH.out he)
      have HB := Lib.hid (show hsB a m = (placeM a m).isSome by rw [HHB.out, decide_eq_true he, Bool.true_and])
      rw [he] at HCK ⊢
      clear HRH HHB he
      rw [HB.out]
      generalize (placeM a m).isSome = b at *
      cases b
      · go_wp2_with (first
          | (have hq := hz9; go_at_call 17; refine (HA.out _ hz9).mono ?_; rintro r w10 ⟨rfl, hc10⟩; have hb10 := hb9.trans (hc10.mono hb9.size); have hz10 := hbX.trans (hb10.mono hbX.size))
          | (have hq := hz8; go_at_call 25; refine (HS.out _ _ LU _ (hsU.below hb8) (hsV.below hb8) HLU.out).mono ?_; rintro r w9 ⟨rfl, hc9⟩; have hb9 := hb8.trans (hc9.mono hb8.size); have hz9 := hbX.trans (hb9.mono hbX.size))
          | (have hq := hz7; go_at_call 25; refine (HS.out _ _ LA _ (hsA.below hb7) (hsD.below hb7) HLA.out).mono ?_; rintro r w8 ⟨rfl, hc8⟩; have hb8 := hb7.trans (hc8.mono hb7.size); have hz8 := hbX.trans (hb8.mono hbX.size))
          | (have hq := hz6; go_at_call 24; refine (HCK.out _ hz6).mono ?_; rintro r w7 ⟨rfl, hc7⟩; have hb7 := hb6.trans (hc7.mono hb6.size); have hz7 := hbX.trans (hb7.mono hbX.size))
          | (have hq := hz5; go_at_call 34; refine (HHS.out _ hz5).mono ?_; rintro r w6 ⟨rfl, hc6⟩; have hb6 := hb5.trans (hc6.mono hb5.size); have hz6 := hbX.trans (hb6.mono hbX.size); obtain ⟨⟨s0, s1, s2, s3⟩, -, -⟩ := four_c (heap_below hb6 hl0 M0); obtain ⟨⟨t0, t1, t2, t3⟩, -, -⟩ := four_c (heap_below hb6 hl1 M1))
          | (go_at_call 24; refine (HCK.out _ hbX).mono ?_; rintro r w5 ⟨rfl, hc5⟩; have hb5 := hc5; have hz5 := hbX.trans (hb5.mono hbX.size); obtain ⟨⟨r0, r1, r2, r3⟩, -, -⟩ := four_c (heap_below hb5 hl0 M0); obtain ⟨⟨q0, q1, q2, q3⟩, -, -⟩ := four_c (heap_below hb5 hl1 M1)))
        go_ret
        exact ⟨rfl, hz10⟩
      · go_wp2_with (first
          | (have hq := hz9; go_at_call 17; refine (HA.out _ hz9).mono ?_; rintro r w10 ⟨rfl, hc10⟩; have hb10 := hb9.trans (hc10.mono hb9.size); have hz10 := hbX.trans (hb10.mono hbX.size))
          | (have hq := hz8; go_at_call 25; refine (HS.out _ _ LU _ (hsU.below hb8) (hsV.below hb8) HLU.out).mono ?_; rintro r w9 ⟨rfl, hc9⟩; have hb9 := hb8.trans (hc9.mono hb8.size); have hz9 := hbX.trans (hb9.mono hbX.size))
          | (have hq := hz7; go_at_call 25; refine (HS.out _ _ LA _ (hsA.below hb7) (hsD.below hb7) HLA.out).mono ?_; rintro r w8 ⟨rfl, hc8⟩; have hb8 := hb7.trans (hc8.mono hb7.size); have hz8 := hbX.trans (hb8.mono hbX.size))
          | (have hq := hz6; go_at_call 24; refine (HCK.out _ hz6).mono ?_; rintro r w7 ⟨rfl, hc7⟩; have hb7 := hb6.trans (hc7.mono hb6.size); have hz7 := hbX.trans (hb7.mono hbX.size))
          | (have hq := hz5; go_at_call 34; refine (HHS.out _ hz5).mono ?_; rintro r w6 ⟨rfl, hc6⟩; have hb6 := hb5.trans (hc6.mono hb5.size); have hz6 := hbX.trans (hb6.mono hbX.size); obtain ⟨⟨s0, s1, s2, s3⟩, -, -⟩ := four_c (heap_below hb6 hl0 M0); obtain ⟨⟨t0, t1, t2, t3⟩, -, -⟩ := four_c (heap_below hb6 hl1 M1))
          | (go_at_call 24; refine (HCK.out _ hbX).mono ?_; rintro r w5 ⟨rfl, hc5⟩; have hb5 := hc5; have hz5 := hbX.trans (hb5.mono hbX.size); obtain ⟨⟨r0, r1, r2, r3⟩, -, -⟩ := four_c (heap_below hb5 hl0 M0); obtain ⟨⟨q0, q1, q2, q3⟩, -, -⟩ := four_c (heap_below hb5 hl1 M1)))
        go_ret
        exact ⟨rfl, hz10⟩
    · have hne : (((checkE a : Nat) : Int) == 0) = false := by simp; omega
      have HB := Lib.hid (show hsB a m = false by rw [HHB.out, decide_eq_false he, Bool.false_and])
      clear HRH HHB he
      rw [HB.out]
      generalize checkE a = e at *
      go_wp2_with (first
        | (have hq := hz9; go_at_call 17; refine (HA.out _ hz9).mono ?_; rintro r w10 ⟨rfl, hc10⟩; have hb10 := hb9.trans (hc10.mono hb9.size); have hz10 := hbX.trans (hb10.mono hbX.size))
        | (have hq := hz8; go_at_call 25; refine (HS.out _ _ LU _ (hsU.below hb8) (hsV.below hb8) HLU.out).mono ?_; rintro r w9 ⟨rfl, hc9⟩; have hb9 := hb8.trans (hc9.mono hb8.size); have hz9 := hbX.trans (hb9.mono hbX.size))
        | (have hq := hz7; go_at_call 25; refine (HS.out _ _ LA _ (hsA.below hb7) (hsD.below hb7) HLA.out).mono ?_; rintro r w8 ⟨rfl, hc8⟩; have hb8 := hb7.trans (hc8.mono hb7.size); have hz8 := hbX.trans (hb8.mono hbX.size))
        | (have hq := hz5; go_at_call 24; refine (HCK.out _ hz5).mono ?_; rintro r w7 ⟨rfl, hc7⟩; have hb7 := hb5.trans (hc7.mono hb5.size); have hz7 := hbX.trans (hb7.mono hbX.size))
        | (go_at_call 24; refine (HCK.out _ hbX).mono ?_; rintro r w5 ⟨rfl, hc5⟩; have hb5 := hc5; have hz5 := hbX.trans (hb5.mono hbX.size); obtain ⟨⟨r0, r1, r2, r3⟩, -, -⟩ := four_c (heap_below hb5 hl0 M0); obtain ⟨⟨q0, q1, q2, q3⟩, -, -⟩ := four_c (heap_below hb5 hl1 M1)))
      go_ret
      exact ⟨rfl, hz10⟩

end Go.Proofs.YtoncdnelacolaaaGreatDoor.Ar
