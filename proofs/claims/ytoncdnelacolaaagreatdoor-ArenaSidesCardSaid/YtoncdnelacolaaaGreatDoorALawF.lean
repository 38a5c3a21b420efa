/- ArenaSides: answers are of the side that did not ask, and so are the questions under a question. -/
import Derived.Test.YtoncdnelacolaaaGreatDoorARefR
import Derived.Test.YtoncdnelacolaaaGreatDoorASpecI
namespace Go.Proofs.YtoncdnelacolaaaGreatDoor.Ar
open Go Go.Proofs Go.RowKit Go.Sort Lx Ps

theorem wpList_append_row {w : World} {ops : Array Oper} {rest : List Oper} {o : Oper} {a : Act} {Q : Exit → Act → World → Prop} (hgd : o.guard = none) (s x : Operand) (ho : o.op = .call { callee := .builtin .append, args := #[s, x], argTypes := #[32, 32] })
    (base B2 : Nat) (v : Value) (n : Nat) (xs : List Value) (hs : a.eval s = v) (hown : w.ownsRow base 40 4 v n xs) (u : Value) (l : List Mv) (hx : a.eval x = u) (hu : w.ownsRow B2 40 4 u l.length (mvCells l))
    (hn : n + l.length ≤ 1000000) (hbase : base ≤ w.heap.size)
    (h : ∀ v' w', w'.ownsRow base 40 4 v' (n + l.length) (xs ++ mvCells l) → w.grownBy w' v.ownBlock → wpList Tryz.prog ops Q rest (a.put o.dst v') w') : wpList Tryz.prog ops Q (o :: rest) a w :=
  wpList_plain hgd fun _ hK => wp_append_row s x ho base B2 v n xs hs hown u l hx hu hn hbase fun v' w' h1 h2 => hK _ _ (h v' w' h1 h2)

set_option maxRecDepth 100000 in
set_option maxHeartbeats 4000000 in
theorem arenaSides_any (ids : Value) (a : Ar) (w : World) (hin : ArIn w ids a) (hG : Ga w) :
    Calls Tryz.prog 11 #[arV ids a] w fun e w' => e = .returned (.bool true) ∧ Below w.heap.size w w' := by
  have hS := fun V (hb : Below w.heap.size w V) => small_any ids a V (hin.below hb)
  have HA := Lib.hid (fun V (hb : Below w.heap.size w V) => awake_any V (hG.next hb))
  have HIN := Lib.hid hin
  obtain ⟨A, cap, rfl, -⟩ := hin.sl
  clear hG hin
  have k0 := heap_alloc_new w (.cells #[.slice A a.ids.length cap, .bool a.root.cell, .int .i64 a.root.n, .bool a.jumps] 26)
  have hb0 : Below w.heap.size w (w.alloc (.cells #[.slice A a.ids.length cap, .bool a.root.cell, .int .i64 a.root.n, .bool a.jumps] 26)) := (Below.refl _ _).alloc (Nat.le_refl _) _
  cases hsm : smallB a
  · rw [hsm] at hS
    unfold arV at *
    have HS := Lib.hid hS
    clear hS hsm HIN
    go_enter Tryz.func11, Tryz.ntmps11
    go_wp2_with (first
      | (go_at_call 50; refine (HS.out _ hb0).mono ?_; rintro r w1 ⟨rfl, hb1⟩; have hb2 := hb0.trans (hb1.mono hb0.size))
      | (go_at_call 17; refine (HA.out _ hb2).mono ?_; rintro r w2 ⟨rfl, hb3⟩))
    go_ret
    exact ⟨rfl, hb2.trans (hb3.mono hb2.size)⟩
  · rw [hsm] at hS
    obtain ⟨hth, he, hlen⟩ := smallB_parts hsm
    obtain ⟨hl, hls⟩ := thin_len hth
    have hM := fun V (hb : Below w.heap.size w V) => lawMoves_any _ a V (HIN.out.below hb) he hlen hl hls
    have hC := fun V (hb : Below w.heap.size w V) => copy_any _ a V (HIN.out.below hb) hl hls
    have hW := fun m V (hb : Below w.heap.size w V) => whose_any _ a m V (HIN.out.below hb) hl hls
    have xA := fun m (A5 : Option Addr) (c5 : Nat) V (h : ArIn V (.slice A5 a.ids.length c5) a) => apAnswers_own _ a m V h
    have xU := fun m (A5 : Option Addr) (c5 : Nat) V (h : ArIn V (.slice A5 a.ids.length c5) a) => apUnder_own _ a m V h
    have hsd : ∀ m, m ∈ allM a → whR a m = .tuple #[.bool (otherB m), .bool true] ∧ ∃ LA LU E, ansR a m = (LA, E) ∧ undR a m = (LU, E) ∧ (E = 2 ∨ (E = 0 ∧ 0 < LA.length)) ∧ LA.length ≤ (allM a).length ∧ LU.length ≤ (allM a).length ∧ ∀ x ∈ LA ++ LU, whR a x = .tuple #[.bool (!otherB m), .bool true] := fun m hm => by
      obtain ⟨h1, ⟨h2, h3⟩ | ⟨l, u, h2, h3, h4, h5, h6, h7⟩⟩ := sides_all he hm
      · exact ⟨h1, [], [], 2, h2, h3, .inl rfl, Nat.zero_le _, Nat.zero_le _, fun x hx => by cases hx⟩
      · exact ⟨h1, l, u, 0, h2, h3, .inr ⟨rfl, h4⟩, h5, h6, h7⟩
    unfold arV mvV at *
    have HS := Lib.hid hS
    have HM := Lib.hid hM
    have HC := Lib.hid hC
    have HW := Lib.hid hW
    have XA := Lib.hid xA
    have XU := Lib.hid xU
    have HSD := Lib.hid hsd
    clear hS hM hC hW xA xU hsd hsm hth he hl hls HIN
    generalize allM a = L at *
    go_enter Tryz.func11, Tryz.ntmps11
    go_upto_region 1 with (fail)
    generalize w.alloc (.cells #[.slice A a.ids.length cap, .bool a.root.cell, .int .i64 a.root.n, .bool a.jumps] 26) = V at k0 hb0 ⊢
    obtain ⟨⟨c0, c1, c2, c3⟩, -, hl0⟩ := four_c k0
    have HK0 := Lib.hid k0
    clear k0
    go_upto_region 6 with (first
      | (have hq := hbS; go_at_call 51; refine (HM.out _ hbS).mono ?_; rintro r w2 ⟨v6, rfl, hsl, hb2⟩; have hbU := hbS.trans (hb2.mono hbS.size); obtain ⟨A6, c6, hA6, hA⟩ := hsl; subst hA6)
      | (go_at_call 50; refine (HS.out _ hb0).mono ?_; rintro r w1 ⟨rfl, hb1⟩; have hbS := hb0.trans (hb1.mono hb0.size); obtain ⟨⟨p0, p1, p2, p3⟩, -, -⟩ := four_c (heap_below hb1 hl0 HK0.out)))
    have M0 := heap_below (hb1.trans (hb2.mono hb1.size)) hl0 HK0.out
    clear c0 c1 c2 c3 p0 p1 p2 p3 hl0 HK0 hb0 hb1 hb2 hbS HM HS
    generalize w2 = U at *
    have HM0 := Lib.hid M0
    have HLA := Lib.hid hA
    clear M0 hA
    go_wp2
    go_loopw [5] (fun c wr => ∃ k : Nat, c = .int .i64 (k : Int) ∧ k ≤ L.length ∧ Below U.heap.size U wr) (fun c _ => L.length + 1 - (intOf c).toNat)
    case atStart => exact ⟨0, rfl, Nat.zero_le _, Below.refl _ _⟩
    case round =>
      obtain ⟨k, rfl, hk, hb⟩ := hrel
      have hbR := hbU.trans (hb.mono hbU.size)
      by_cases hlt : k < L.length
      · have hlt' : (k : Int) < (L.length : Int) := by omega
        have hx := List.getElem?_eq_getElem hlt
        have hmem := List.getElem_mem hlt
        obtain ⟨b, off, hAb, hbl0, hc⟩ := HLA.out (by omega)
        subst hAb
        obtain ⟨y0, y1, y2, y3⟩ := hc k _ hx
        generalize L[k] = m at *
        obtain ⟨hwm, hsd⟩ := HSD.out m hmem
        have hWm := HW.out m
        rw [hwm] at hWm
        have HWM := Lib.hid hWm
        have XAM := Lib.hid (XA.out m)
        have XUM := Lib.hid (XU.out m)
        have HSM := Lib.hid hsd
        have j0 : (0 : Int) ≤ (k : Int) := by omega
        have j4 : ¬ ((k : Int) < 0) := by omega
        have j6 : ¬ ((L.length : Int) ≤ (k : Int)) := by omega
        have d0 := (hb.cell (p := ⟨b, off + k * 4, none⟩) hbl0).trans y0
        have d1 := (hb.cell (p := ⟨b, off + k * 4 + 1, none⟩) hbl0).trans y1
        have d2 := (hb.cell (p := ⟨b, off + k * 4 + 2, none⟩) hbl0).trans y2
        have d3 := (hb.cell (p := ⟨b, off + k * 4 + 3, none⟩) hbl0).trans y3
        have hbl : b < wr.heap.size := Nat.lt_of_lt_of_le hbl0 hb.size
        obtain ⟨⟨c0, c1, c2, c3⟩, -, hl0⟩ := four_c (heap_below hb (Array.getElem?_eq_some_iff.1 HM0.out).1 HM0.out)
        clear hx hmem hc y0 y1 y2 y3 hwm hsd hWm
        go_upto_region 9 with (fail)
        go_region_held3 (fun w' => w'.cell? ⟨w.heap.size, 0, none⟩ = some (.slice A a.ids.length cap) ∧ w'.cell? ⟨w.heap.size, 1, none⟩ = some (.bool a.root.cell) ∧ w'.cell? ⟨w.heap.size, 2, none⟩ = some (.int .i64 a.root.n) ∧ w'.cell? ⟨w.heap.size, 3, none⟩ = some (.bool a.jumps) ∧ w'.cell? ⟨b, off + k * 4, none⟩ = some (.int .i64 m.id) ∧ w'.cell? ⟨b, off + k * 4 + 1, none⟩ = some (.int .i64 m.arg) ∧ w'.cell? ⟨b, off + k * 4 + 2, none⟩ = some (.int .u8 (m.kind : Int)) ∧ w'.cell? ⟨b, off + k * 4 + 3, none⟩ = some (.int .i64 m.n))
          (first
            | (go_split_ands; all_goals (first | assumption))
            | go_keep)
          ((first
            | (go_at_call 52; refine (HWM.out _ (by first | exact hbR | exact hbR.drew)).mono ?_; rintro r w5 ⟨rfl, hb8⟩; have hb5 : Below wr.heap.size wr w5 := ⟨hb8.os, hb8.tape, hb8.output, hb8.size, hb8.block⟩; have q0 := (hb5.cell (p := ⟨w.heap.size, 0, none⟩) hl0).trans c0; have q1 := (hb5.cell (p := ⟨w.heap.size, 1, none⟩) hl0).trans c1; have q2 := (hb5.cell (p := ⟨w.heap.size, 2, none⟩) hl0).trans c2; have q3 := (hb5.cell (p := ⟨w.heap.size, 3, none⟩) hl0).trans c3; have q4 := (hb5.cell (p := ⟨b, off + k * 4, none⟩) hbl).trans d0; have q5 := (hb5.cell (p := ⟨b, off + k * 4 + 1, none⟩) hbl).trans d1; have q6 := (hb5.cell (p := ⟨b, off + k * 4 + 2, none⟩) hbl).trans d2; have q7 := (hb5.cell (p := ⟨b, off + k * 4 + 3, none⟩) hbl).trans d3)))
        have hbX := hbR.trans (hb5.mono hbR.size)
        have hbUX := hb.trans (hb5.mono hb.size)
        have hl0X : w.heap.size < w5.heap.size := Nat.lt_of_lt_of_le hl0 hb5.size
        have hblX : b < w5.heap.size := Nat.lt_of_lt_of_le hbl hb5.size
        clear hl0 hbl hb5 hb8
        have hl0 := hl0X
        have hbl := hblX
        clear hl0X hblX
        clear c0 c1 c2 c3 d0 d1 d2 d3
        generalize w5 = X at *
        have c0 := q0
        have c1 := q1
        have c2 := q2
        have c3 := q3
        have d0 := q4
        have d1 := q5
        have d2 := q6
        have d3 := q7
        clear q0 q1 q2 q3 q4 q5 q6 q7
        go_upto_region 12 with (fail)
        go_region_held3 (fun w' => w'.cell? ⟨w.heap.size, 0, none⟩ = some (.slice A a.ids.length cap) ∧ w'.cell? ⟨w.heap.size, 1, none⟩ = some (.bool a.root.cell) ∧ w'.cell? ⟨w.heap.size, 2, none⟩ = some (.int .i64 a.root.n) ∧ w'.cell? ⟨w.heap.size, 3, none⟩ = some (.bool a.jumps) ∧ w'.cell? ⟨b, off + k * 4, none⟩ = some (.int .i64 m.id) ∧ w'.cell? ⟨b, off + k * 4 + 1, none⟩ = some (.int .i64 m.arg) ∧ w'.cell? ⟨b, off + k * 4 + 2, none⟩ = some (.int .u8 (m.kind : Int)) ∧ w'.cell? ⟨b, off + k * 4 + 3, none⟩ = some (.int .i64 m.n))
          (first
            | (go_split_ands; all_goals (first | assumption))
            | go_keep)
          ((first
            | (go_at_call 29; refine (XAM.out _ _ _ hin5).mono ?_; rintro r w4 ⟨vA, rfl, hownA, hb7⟩; have hb5 : Below X.heap.size X w4 := hb3.trans ((⟨hb7.os, hb7.tape, hb7.output, hb7.size, hb7.block⟩ : Below w3.heap.size w3 w4).mono hb3.size); have q0 := (hb5.cell (p := ⟨w.heap.size, 0, none⟩) hl0).trans c0; have q1 := (hb5.cell (p := ⟨w.heap.size, 1, none⟩) hl0).trans c1; have q2 := (hb5.cell (p := ⟨w.heap.size, 2, none⟩) hl0).trans c2; have q3 := (hb5.cell (p := ⟨w.heap.size, 3, none⟩) hl0).trans c3; have q4 := (hb5.cell (p := ⟨b, off + k * 4, none⟩) hbl).trans d0; have q5 := (hb5.cell (p := ⟨b, off + k * 4 + 1, none⟩) hbl).trans d1; have q6 := (hb5.cell (p := ⟨b, off + k * 4 + 2, none⟩) hbl).trans d2; have q7 := (hb5.cell (p := ⟨b, off + k * 4 + 3, none⟩) hbl).trans d3; obtain ⟨AA, cA, rfl⟩ := own_slice hownA; have hbaseA : U.heap.size ≤ w3.heap.size := Nat.le_trans hbUX.size hb3.size)
            | (go_at_call 18; refine (HC.out _ (by first | exact hbX | exact hbX.drew)).mono ?_; rintro r w3 ⟨v5, rfl, hin5, hb8⟩; have hb3 : Below X.heap.size X w3 := ⟨hb8.os, hb8.tape, hb8.output, hb8.size, hb8.block⟩; have r0 := (hb3.cell (p := ⟨w.heap.size, 0, none⟩) hl0).trans c0; have r1 := (hb3.cell (p := ⟨w.heap.size, 1, none⟩) hl0).trans c1; have r2 := (hb3.cell (p := ⟨w.heap.size, 2, none⟩) hl0).trans c2; have r3 := (hb3.cell (p := ⟨w.heap.size, 3, none⟩) hl0).trans c3; have r4 := (hb3.cell (p := ⟨b, off + k * 4, none⟩) hbl).trans d0; have r5 := (hb3.cell (p := ⟨b, off + k * 4 + 1, none⟩) hbl).trans d1; have r6 := (hb3.cell (p := ⟨b, off + k * 4 + 2, none⟩) hbl).trans d2; have r7 := (hb3.cell (p := ⟨b, off + k * 4 + 3, none⟩) hbl).trans d3; have hin5' := hin5; obtain ⟨A5, c5, rfl, -⟩ := hin5'.sl)))
        clear r0 r1 r2 r3 r4 r5 r6 r7 hin5 hin5'
        have hbX2 := hbX.trans (hb5.mono hbX.size)
        have hbUX2 := hbUX.trans (hb5.mono hbUX.size)
        have hl0X : w.heap.size < w4.heap.size := Nat.lt_of_lt_of_le hl0 hb5.size
        have hblX : b < w4.heap.size := Nat.lt_of_lt_of_le hbl hb5.size
        have hownA2 := World.ownsRow.mono hownA hbaseA
        clear hl0 hbl hb5 hb8 hb7 hb3 hbX hbUX hownA hbaseA
        have hl0 := hl0X
        have hbl := hblX
        have hbX := hbX2
        have hbUX := hbUX2
        have hownA := hownA2
        clear hl0X hblX hbX2 hbUX2 hownA2
        generalize w4 = w5 at *
        clear c0 c1 c2 c3 d0 d1 d2 d3
        try clear X
        generalize w5 = X at *
        have c0 := q0
        have c1 := q1
        have c2 := q2
        have c3 := q3
        have d0 := q4
        have d1 := q5
        have d2 := q6
        have d3 := q7
        clear q0 q1 q2 q3 q4 q5 q6 q7
        go_upto_region 13 with (fail)
        go_region_held3 (fun w' => w'.cell? ⟨w.heap.size, 0, none⟩ = some (.slice A a.ids.length cap) ∧ w'.cell? ⟨w.heap.size, 1, none⟩ = some (.bool a.root.cell) ∧ w'.cell? ⟨w.heap.size, 2, none⟩ = some (.int .i64 a.root.n) ∧ w'.cell? ⟨w.heap.size, 3, none⟩ = some (.bool a.jumps) ∧ w'.cell? ⟨b, off + k * 4, none⟩ = some (.int .i64 m.id) ∧ w'.cell? ⟨b, off + k * 4 + 1, none⟩ = some (.int .i64 m.arg) ∧ w'.cell? ⟨b, off + k * 4 + 2, none⟩ = some (.int .u8 (m.kind : Int)) ∧ w'.cell? ⟨b, off + k * 4 + 3, none⟩ = some (.int .i64 m.n))
          (first
            | (go_split_ands; all_goals (first | assumption))
            | go_keep)
          ((first
            | (go_at_call 30; refine (XUM.out _ _ _ hin5).mono ?_; rintro r w4 ⟨vU, rfl, hownU, hb7⟩; have hb5 : Below X.heap.size X w4 := hb3.trans ((⟨hb7.os, hb7.tape, hb7.output, hb7.size, hb7.block⟩ : Below w3.heap.size w3 w4).mono hb3.size); have q0 := (hb5.cell (p := ⟨w.heap.size, 0, none⟩) hl0).trans c0; have q1 := (hb5.cell (p := ⟨w.heap.size, 1, none⟩) hl0).trans c1; have q2 := (hb5.cell (p := ⟨w.heap.size, 2, none⟩) hl0).trans c2; have q3 := (hb5.cell (p := ⟨w.heap.size, 3, none⟩) hl0).trans c3; have q4 := (hb5.cell (p := ⟨b, off + k * 4, none⟩) hbl).trans d0; have q5 := (hb5.cell (p := ⟨b, off + k * 4 + 1, none⟩) hbl).trans d1; have q6 := (hb5.cell (p := ⟨b, off + k * 4 + 2, none⟩) hbl).trans d2; have q7 := (hb5.cell (p := ⟨b, off + k * 4 + 3, none⟩) hbl).trans d3; obtain ⟨AU, cU, rfl⟩ := own_slice hownU; have hbaseU : U.heap.size ≤ w3.heap.size := Nat.le_trans hbUX.size hb3.size)
            | (go_at_call 18; refine (HC.out _ (by first | exact hbX | exact hbX.drew)).mono ?_; rintro r w3 ⟨v5, rfl, hin5, hb8⟩; have hb3 : Below X.heap.size X w3 := ⟨hb8.os, hb8.tape, hb8.output, hb8.size, hb8.block⟩; have r0 := (hb3.cell (p := ⟨w.heap.size, 0, none⟩) hl0).trans c0; have r1 := (hb3.cell (p := ⟨w.heap.size, 1, none⟩) hl0).trans c1; have r2 := (hb3.cell (p := ⟨w.heap.size, 2, none⟩) hl0).trans c2; have r3 := (hb3.cell (p := ⟨w.heap.size, 3, none⟩) hl0).trans c3; have r4 := (hb3.cell (p := ⟨b, off + k * 4, none⟩) hbl).trans d0; have r5 := (hb3.cell (p := ⟨b, off + k * 4 + 1, none⟩) hbl).trans d1; have r6 := (hb3.cell (p := ⟨b, off + k * 4 + 2, none⟩) hbl).trans d2; have r7 := (hb3.cell (p := ⟨b, off + k * 4 + 3, none⟩) hbl).trans d3; have hin5' := hin5; obtain ⟨A5, c5, rfl, -⟩ := hin5'.sl)))
        clear r0 r1 r2 r3 r4 r5 r6 r7 hin5 hin5'
        have hbX2 := hbX.trans (hb5.mono hbX.size)
        have hbUX2 := hbUX.trans (hb5.mono hbUX.size)
        have hownU2 := World.ownsRow.mono hownU hbaseU
        have hownA2 := own_below hownA hb5
        have hl0X : w.heap.size < w4.heap.size := Nat.lt_of_lt_of_le hl0 hb5.size
        clear hl0 hbl hb5 hb8 hb7 hb3 hbX hbUX hownA hownU hbaseU c0 c1 c2 c3 d0 d1 d2 d3 q4 q5 q6 q7
        go_upto_region 14 with (fail)
        obtain ⟨LA, LU, E, hea, heu, hE, hle1, hle2, hall⟩ := HSM.out
        rw [hea] at hownA2 ⊢
        rw [heu] at hownU2 ⊢
        dsimp only at hownA2 hownU2 ⊢
        clear hea heu
        have z2 : IntKind.i64.wrap ((LA.length : Int) + (LU.length : Int)) = (LA.length : Int) + (LU.length : Int) := IntWalk.i64_in _ (by omega)
        have z3 : ¬ (600 : Int) < (LA.length : Int) + (LU.length : Int) := by omega
        obtain ⟨K, hKe⟩ : ∃ K, K = LA ++ LU := ⟨_, rfl⟩
        rw [← hKe] at hall
        rcases hE with rfl | ⟨rfl, hpos⟩
        · have z1 : True := trivial
          have hKL : K.length = LA.length + LU.length := by rw [hKe, List.length_append]
          have hKC : mvCells K = ([] ++ mvCells LA) ++ mvCells LU := by rw [hKe, mvCells_append]; rfl
          have HKL := Lib.hid hKL
          have HKC := Lib.hid hKC
          have hlit := World.ownsRow_lit (base := w4.heap.size) (e := 40) (size := 4) w4 #[] 0 (Nat.le_refl _) (by decide) rfl
          have hal : Below w4.heap.size w4 (w4.alloc (.cells #[] 40)) := (Below.refl _ _).alloc (Nat.le_refl _) _
          have HUO := Lib.hid hownU2
          clear hKL hKC hownU2
          go_upto_region 17 with (first
            | (have hq := hbw6; at_builtin; go_loud (refine wpList_append_row rfl _ _ rfl w4.heap.size U.heap.size _ _ _ rfl hown6 _ LU rfl (own_below HUO.out hbw6) (by omega) hbw6.size ?_; intro v7 w7 hown7 hg7))
            | (at_builtin; refine wpList_append_row rfl _ _ rfl w4.heap.size U.heap.size _ _ _ rfl hlit _ LA rfl (own_below hownA2 hal) (by omega) hal.size ?_; intro v6 w6 hown6 hg6; have hbw6 := hal.grown hg6 hal.size (fun j e => by have := (own_block hlit e).1; omega); rw [Nat.zero_add] at hown6; obtain ⟨A9, c9, rfl⟩ := own_slice hown6))
          have hbw7 : Below w4.heap.size w4 w7 := hbw6.grown hg7 hbw6.size (fun j e => by have := (own_block hown6 e).1; omega)
          have hownK : w7.ownsRow w4.heap.size 40 4 v7 K.length (mvCells K) := by rw [HKL.out, HKC.out]; exact hown7
          obtain ⟨AK, cK, rfl⟩ := own_slice hownK
          obtain ⟨AK', cK', hAe, hAK⟩ := SlM.of_own hownK
          simp only [Value.slice.injEq] at hAe
          obtain ⟨rfl, -, rfl⟩ := hAe
          have hbW := hbX2.trans (hbw7.mono hbX2.size)
          have hbUW := hbUX2.trans (hbw7.mono hbUX2.size)
          have HAK := Lib.hid hAK
          have HALL := Lib.hid hall
          generalize otherB m = ob at *
          clear hAK hall hown7 hownK hown6 hg6 hg7 hbw6 hbw7 hownA2 hlit hal hbX2 hbUX2 HKC HUO q0 q1 q2 q3
          generalize w7 = Z at *
          go_wp2
          go_loopw [12] (fun c wr => ∃ n : Nat, c = .int .i64 (n : Int) ∧ n ≤ K.length ∧ Below Z.heap.size Z wr) (fun c _ => K.length + 1 - (intOf c).toNat)
          case atStart => exact ⟨0, rfl, Nat.zero_le _, Below.refl _ _⟩
          case round =>
            obtain ⟨n, rfl, hn, hbk⟩ := hrel
            have hbN := hbW.trans (hbk.mono hbW.size)
            have hbUN := hbUW.trans (hbk.mono hbUW.size)
            by_cases hnt : n < K.length
            · have hnt' : (n : Int) < (K.length : Int) := by omega
              have hkl9 := HKL.out
              have hnt2 : (n : Int) < (LA.length : Int) + (LU.length : Int) := by omega
              have i7 : ¬ ((LA.length : Int) + (LU.length : Int) ≤ (n : Int)) := by omega
              clear hkl9
              have hx := List.getElem?_eq_getElem hnt
              have hmem := List.getElem_mem hnt
              obtain ⟨bk, ok, hAb, hbk0, hc⟩ := HAK.out (by omega)
              subst hAb
              obtain ⟨y0, y1, y2, y3⟩ := hc n _ hx
              generalize K[n] = x at *
              have hWx := HW.out x
              rw [HALL.out x hmem] at hWx
              have HWX := Lib.hid hWx
              have i0 : (0 : Int) ≤ (n : Int) := by omega
              have i4 : ¬ ((n : Int) < 0) := by omega
              have i6 : ¬ ((K.length : Int) ≤ (n : Int)) := by omega
              have d0 := (hbk.cell (p := ⟨bk, ok + n * 4, none⟩) hbk0).trans y0
              have d1 := (hbk.cell (p := ⟨bk, ok + n * 4 + 1, none⟩) hbk0).trans y1
              have d2 := (hbk.cell (p := ⟨bk, ok + n * 4 + 2, none⟩) hbk0).trans y2
              have d3 := (hbk.cell (p := ⟨bk, ok + n * 4 + 3, none⟩) hbk0).trans y3
              have hbl : bk < wr.heap.size := Nat.lt_of_lt_of_le hbk0 hbk.size
              obtain ⟨⟨c0, c1, c2, c3⟩, -, hl0⟩ := four_c (heap_below hbUN (Array.getElem?_eq_some_iff.1 HM0.out).1 HM0.out)
              clear hx hmem hc y0 y1 y2 y3 hWx
              go_upto_region 20 with (fail)
              go_region_held3 (fun w' => w'.cell? ⟨w.heap.size, 0, none⟩ = some (.slice A a.ids.length cap) ∧ w'.cell? ⟨w.heap.size, 1, none⟩ = some (.bool a.root.cell) ∧ w'.cell? ⟨w.heap.size, 2, none⟩ = some (.int .i64 a.root.n) ∧ w'.cell? ⟨w.heap.size, 3, none⟩ = some (.bool a.jumps) ∧ w'.cell? ⟨bk, ok + n * 4, none⟩ = some (.int .i64 x.id) ∧ w'.cell? ⟨bk, ok + n * 4 + 1, none⟩ = some (.int .i64 x.arg) ∧ w'.cell? ⟨bk, ok + n * 4 + 2, none⟩ = some (.int .u8 (x.kind : Int)) ∧ w'.cell? ⟨bk, ok + n * 4 + 3, none⟩ = some (.int .i64 x.n))
                (first
                  | (go_split_ands; all_goals (first | assumption))
                  | go_keep)
                ((first
                  | (go_at_call 52; refine (HWX.out _ (by first | exact hbN | exact hbN.drew)).mono ?_; rintro r w5 ⟨rfl, hb8⟩; have hb5 : Below wr.heap.size wr w5 := ⟨hb8.os, hb8.tape, hb8.output, hb8.size, hb8.block⟩; have q0 := (hb5.cell (p := ⟨w.heap.size, 0, none⟩) hl0).trans c0; have q1 := (hb5.cell (p := ⟨w.heap.size, 1, none⟩) hl0).trans c1; have q2 := (hb5.cell (p := ⟨w.heap.size, 2, none⟩) hl0).trans c2; have q3 := (hb5.cell (p := ⟨w.heap.size, 3, none⟩) hl0).trans c3; have q4 := (hb5.cell (p := ⟨bk, ok + n * 4, none⟩) hbl).trans d0; have q5 := (hb5.cell (p := ⟨bk, ok + n * 4 + 1, none⟩) hbl).trans d1; have q6 := (hb5.cell (p := ⟨bk, ok + n * 4 + 2, none⟩) hbl).trans d2; have q7 := (hb5.cell (p := ⟨bk, ok + n * 4 + 3, none⟩) hbl).trans d3)))
              have hbE := hbk.trans (hb5.mono hbk.size)
              clear q0 q1 q2 q3 q4 q5 q6 q7 c0 c1 c2 c3 d0 d1 d2 d3
              cases ob
              · go_wp2
                go_roundw
                case rel => exact ⟨n + 1, by go_num, by omega, hbE⟩
                case measure => simp [intOf]; omega
              · go_wp2
                go_roundw
                case rel => exact ⟨n + 1, by go_num, by omega, hbE⟩
                case measure => simp [intOf]; omega
            · have hkl9 := HKL.out
              have hnt2 : ¬ (n : Int) < (LA.length : Int) + (LU.length : Int) := by omega
              clear hkl9
              go_wp2
              go_roundw
              case rel => exact ⟨k + 1, by go_num, by omega, hbUN⟩
              case measure => simp [intOf]; omega
        · have z1 : ((LA.length : Int) == 0) = false := by rw [beq_eq_false_iff_ne]; omega
          have hKL : K.length = LA.length + LU.length := by rw [hKe, List.length_append]
          have hKC : mvCells K = ([] ++ mvCells LA) ++ mvCells LU := by rw [hKe, mvCells_append]; rfl
          have HKL := Lib.hid hKL
          have HKC := Lib.hid hKC
          have hlit := World.ownsRow_lit (base := w4.heap.size) (e := 40) (size := 4) w4 #[] 0 (Nat.le_refl _) (by decide) rfl
          have hal : Below w4.heap.size w4 (w4.alloc (.cells #[] 40)) := (Below.refl _ _).alloc (Nat.le_refl _) _
          have HUO := Lib.hid hownU2
          clear hKL hKC hownU2
          go_upto_region 17 with (first
            | (have hq := hbw6; at_builtin; go_loud (refine wpList_append_row rfl _ _ rfl w4.heap.size U.heap.size _ _ _ rfl hown6 _ LU rfl (own_below HUO.out hbw6) (by omega) hbw6.size ?_; intro v7 w7 hown7 hg7))
            | (at_builtin; refine wpList_append_row rfl _ _ rfl w4.heap.size U.heap.size _ _ _ rfl hlit _ LA rfl (own_below hownA2 hal) (by omega) hal.size ?_; intro v6 w6 hown6 hg6; have hbw6 := hal.grown hg6 hal.size (fun j e => by have := (own_block hlit e).1; omega); rw [Nat.zero_add] at hown6; obtain ⟨A9, c9, rfl⟩ := own_slice hown6))
          have hbw7 : Below w4.heap.size w4 w7 := hbw6.grown hg7 hbw6.size (fun j e => by have := (own_block hown6 e).1; omega)
          have hownK : w7.ownsRow w4.heap.size 40 4 v7 K.length (mvCells K) := by rw [HKL.out, HKC.out]; exact hown7
          obtain ⟨AK, cK, rfl⟩ := own_slice hownK
          obtain ⟨AK', cK', hAe, hAK⟩ := SlM.of_own hownK
          simp only [Value.slice.injEq] at hAe
          obtain ⟨rfl, -, rfl⟩ := hAe
          have hbW := hbX2.trans (hbw7.mono hbX2.size)
          have hbUW := hbUX2.trans (hbw7.mono hbUX2.size)
          have HAK := Lib.hid hAK
          have HALL := Lib.hid hall
          generalize otherB m = ob at *
          clear hAK hall hown7 hownK hown6 hg6 hg7 hbw6 hbw7 hownA2 hlit hal hbX2 hbUX2 HKC HUO q0 q1 q2 q3
          generalize w7 = Z at *
          go_wp2
          go_loopw [12] (fun c wr => ∃ n : Nat, c = .int .i64 (n : Int) ∧ n ≤ K.length ∧ Below Z.heap.size Z wr) (fun c _ => K.length + 1 - (intOf c).toNat)
          case atStart => exact ⟨0, rfl, Nat.zero_le _, Below.refl _ _⟩
          case round =>
            obtain ⟨n, rfl, hn, hbk⟩ := hrel
            have hbN := hbW.trans (hbk.mono hbW.size)
            have hbUN := hbUW.trans (hbk.mono hbUW.size)
            by_cases hnt : n < K.length
            · have hnt' : (n : Int) < (K.length : Int) := by omega
              have hkl9 := HKL.out
              have hnt2 : (n : Int) < (LA.length : Int) + (LU.length : Int) := by omega
              have i7 : ¬ ((LA.length : Int) + (LU.length : Int) ≤ (n : Int)) := by omega
              clear hkl9
              have hx := List.getElem?_eq_getElem hnt
              have hmem := List.getElem_mem hnt
              obtain ⟨bk, ok, hAb, hbk0, hc⟩ := HAK.out (by omega)
              subst hAb
              obtain ⟨y0, y1, y2, y3⟩ := hc n _ hx
              generalize K[n] = x at *
              have hWx := HW.out x
              rw [HALL.out x hmem] at hWx
              have HWX := Lib.hid hWx
              have i0 : (0 : Int) ≤ (n : Int) := by omega
              have i4 : ¬ ((n : Int) < 0) := by omega
              have i6 : ¬ ((K.length : Int) ≤ (n : Int)) := by omega
              have d0 := (hbk.cell (p := ⟨bk, ok + n * 4, none⟩) hbk0).trans y0
              have d1 := (hbk.cell (p := ⟨bk, ok + n * 4 + 1, none⟩) hbk0).trans y1
              have d2 := (hbk.cell (p := ⟨bk, ok + n * 4 + 2, none⟩) hbk0).trans y2
              have d3 := (hbk.cell (p := ⟨bk, ok + n * 4 + 3, none⟩) hbk0).trans y3
              have hbl : bk < wr.heap.size := Nat.lt_of_lt_of_le hbk0 hbk.size
              obtain ⟨⟨c0, c1, c2, c3⟩, -, hl0⟩ := four_c (heap_below hbUN (Array.getElem?_eq_some_iff.1 HM0.out).1 HM0.out)
              clear hx hmem hc y0 y1 y2 y3 hWx
              go_upto_region 20 with (fail)
              go_region_held3 (fun w' => w'.cell? ⟨w.heap.size, 0, none⟩ = some (.slice A a.ids.length cap) ∧ w'.cell? ⟨w.heap.size, 1, none⟩ = some (.bool a.root.cell) ∧ w'.cell? ⟨w.heap.size, 2, none⟩ = some (.int .i64 a.root.n) ∧ w'.cell? ⟨w.heap.size, 3, none⟩ = some (.bool a.jumps) ∧ w'.cell? ⟨bk, ok + n * 4, none⟩ = some (.int .i64 x.id) ∧ w'.cell? ⟨bk, ok + n * 4 + 1, none⟩ = some (.int .i64 x.arg) ∧ w'.cell? ⟨bk, ok + n * 4 + 2, none⟩ = some (.int .u8 (x.kind : Int)) ∧ w'.cell? ⟨bk, ok + n * 4 + 3, none⟩ = some (.int .i64 x.n))
                (first
                  | (go_split_ands; all_goals (first | assumption))
                  | go_keep)
                ((first
                  | (go_at_call 52; refine (HWX.out _ (by first | exact hbN | exact hbN.drew)).mono ?_; rintro r w5 ⟨rfl, hb8⟩; have hb5 : Below wr.heap.size wr w5 := ⟨hb8.os, hb8.tape, hb8.output, hb8.size, hb8.block⟩; have q0 := (hb5.cell (p := ⟨w.heap.size, 0, none⟩) hl0).trans c0; have q1 := (hb5.cell (p := ⟨w.heap.size, 1, none⟩) hl0).trans c1; have q2 := (hb5.cell (p := ⟨w.heap.size, 2, none⟩) hl0).trans c2; have q3 := (hb5.cell (p := ⟨w.heap.size, 3, none⟩) hl0).trans c3; have q4 := (hb5.cell (p := ⟨bk, ok + n * 4, none⟩) hbl).trans d0; have q5 := (hb5.cell (p := ⟨bk, ok + n * 4 + 1, none⟩) hbl).trans d1; have q6 := (hb5.cell (p := ⟨bk, ok + n * 4 + 2, none⟩) hbl).trans d2; have q7 := (hb5.cell (p := ⟨bk, ok + n * 4 + 3, none⟩) hbl).trans d3)))
              have hbE := hbk.trans (hb5.mono hbk.size)
              clear q0 q1 q2 q3 q4 q5 q6 q7 c0 c1 c2 c3 d0 d1 d2 d3
              cases ob
              · go_wp2
                go_roundw
                case rel => exact ⟨n + 1, by go_num, by omega, hbE⟩
                case measure => simp [intOf]; omega
              · go_wp2
                go_roundw
                case rel => exact ⟨n + 1, by go_num, by omega, hbE⟩
                case measure => simp [intOf]; omega
            · have hkl9 := HKL.out
              have hnt2 : ¬ (n : Int) < (LA.length : Int) + (LU.length : Int) := by omega
              clear hkl9
              go_wp2
              go_roundw
              case rel => exact ⟨k + 1, by go_num, by omega, hbUN⟩
              case measure => simp [intOf]; omega
      · have hlt' : ¬ (k : Int) < (L.length : Int) := by omega
        go_wp2_with (go_at_call 17; refine (HA.out _ hbR).mono ?_; rintro r w9 ⟨rfl, hb9⟩)
        go_ret
        exact ⟨rfl, hbR.trans (hb9.mono hbR.size)⟩

end Go.Proofs.YtoncdnelacolaaaGreatDoor.Ar
