/- The shortest text with some tokens: Tight. -/
import Derived.Test.YthjnoboceibjjaaGreatDoorWalkAN
namespace Go.Proofs.YthjnoboceibjjaaGreatDoor.Lx
open Go Go.Proofs Go.RowKit Go.Shelf

theorem tightErr_tok {l : List Tk} (h : toksErr l ≠ 0) : tightErr l = toksErr l ∧ tight l = ⟨#[]⟩ := by
  have h1 : tightErr l = toksErr l := if_pos h
  refine ⟨h1, ?_⟩
  unfold tight
  rw [h1, if_neg h]
theorem tightErr_long {l : List Tk} (h : toksErr l = 0) (h2 : 2500 < (tightL l).length) : tightErr l = 5 ∧ tight l = ⟨#[]⟩ := by
  have h1 : tightErr l = 5 := by unfold tightErr; rw [if_neg (by omega), if_pos h2]
  refine ⟨h1, ?_⟩
  unfold tight
  rw [h1, if_neg (by decide)]
theorem tightErr_ok {l : List Tk} (h : toksErr l = 0) (h2 : ¬ 2500 < (tightL l).length) : tightErr l = 0 ∧ tight l = ⟨(tightL l).toArray⟩ := by
  have h1 : tightErr l = 0 := by unfold tightErr; rw [if_neg (by omega), if_neg h2]
  exact ⟨h1, if_pos h1⟩
theorem toksErr_len {l : List Tk} (h : toksErr l = 0) : l.length ≤ 900 := by
  unfold toksErr at h
  split at h
  · exact absurd h (by decide)
  · omega
theorem rows_below {W W' : World} {base : Nat} {e : TypeId} {size n : Nat} {v : Value} {xs : List Value} (h : W.ownsRow base e size v n xs) (hb : Below W.heap.size W W') : W'.ownsRow base e size v n xs := by
  refine h.kept (row := none) ⟨hb.os, hb.tape, hb.output, hb.size, fun i hi _ => hb.block i hi⟩ ?_
  rcases h.2 with ⟨rfl, _⟩ | ⟨g, cap, cur, rfl, _⟩
  · exact .inl rfl
  · exact .inr (by simp [Value.ownBlock])
theorem isb_below {B b : Nat} {bs : List Value} {W W' : World} (h : Lib.IsBuilder 48 5 B b bs W) (hb : Below W.heap.size W W') : Lib.IsBuilder 48 5 B b bs W' := by
  have key : ∀ p, Lib.BuilderAt 48 5 B b p bs W → Lib.BuilderAt 48 5 B b p bs W' := by
    intro p h
    have hl := h.lt
    obtain ⟨hB, v, hbk, hown, hne⟩ := h
    exact ⟨hB, v, (hb.block b hl).trans hbk, rows_below hown hb, hne⟩
  rcases h with h | h
  · exact Or.inl (key _ h)
  · exact Or.inr (key _ h)

set_option maxRecDepth 100000 in
set_option maxHeartbeats 4000000 in
theorem tight_bad (v : Value) (l : List Tk) (w : World) (ha : SlTw w v l) (hl : l.length ≤ 100000) (ht : ∀ x ∈ l, x.text.size ≤ 100000) (hG : Gl w) (h0 : toksErr l ≠ 0) :
    Calls Tryz.prog 6 #[v] w fun e w' => e = .returned (.tuple #[.string (tight l), .int .i64 (tightErr l : Int)]) ∧ Below w.heap.size w w' := by
  obtain ⟨f1, f2⟩ := tightErr_tok h0
  rw [f1, f2]
  have Hte := Lib.hid (tokensError_any v l w ha hl ht hG)
  obtain ⟨A, ca, rfl, hA⟩ := ha
  generalize toksErr l = te at *
  have t3 : ((te : Int) != 0) = true := by simp; omega
  clear f1 f2 h0 hA
  go_enter Tryz.func6, Tryz.ntmps6
  go_wp2_with (go_at_call 16; refine Hte.out.mono ?_; rintro e w1 ⟨rfl, hb1⟩)
  go_ret2
  exact ⟨rfl, hb1⟩

set_option maxRecDepth 100000 in
set_option maxHeartbeats 16000000 in
theorem tight_good (v : Value) (l : List Tk) (w : World) (ha : SlTw w v l) (hl : l.length ≤ 100000) (ht : ∀ x ∈ l, x.text.size ≤ 100000) (hG : Gl w) (h0 : toksErr l = 0) :
    Calls Tryz.prog 6 #[v] w fun e w' => e = .returned (.tuple #[.string (tight l), .int .i64 (tightErr l : Int)]) ∧ Below w.heap.size w w' := by
  have hte := tokensError_any v l w ha hl ht hG
  rw [h0] at hte
  have Hte := Lib.hid hte
  have hl9 := toksErr_len h0
  have Hlong := Lib.hid (tightErr_long h0)
  have Hok := Lib.hid (tightErr_ok h0)
  have HS := Lib.hid ha
  obtain ⟨A, ca, rfl, _⟩ := ha
  have Hbd := Lib.hid (fun k => tight_bound (n := 100000) (l.take k) (fun x hx => ht x (List.mem_of_mem_take hx)))
  clear hte h0
  go_enter Tryz.func6, Tryz.ntmps6
  go_wp2_with (go_at_call 16; refine Hte.out.mono ?_; rintro e w1 ⟨rfl, hb1⟩)
  have hs1 := HS.out.below hb1
  obtain ⟨A', ca', hv, hA⟩ := hs1
  injection hv with hv1 hv2 hv3
  subst hv1
  subst hv3
  clear hv2
  go_loopw [15] (fun i wr => ∃ k : Nat, k ≤ l.length ∧ i = .int .i64 k ∧ Lib.IsBuilder 48 5 w1.heap.size w1.heap.size (Lib.byteCells (tightL (l.take k))) wr ∧ Below w1.heap.size w1 wr ∧ w1.heap.size < wr.heap.size) (fun i _ => l.length - (intOf i).toNat)
  case atStart => exact ⟨0, Nat.zero_le _, rfl, Lib.fresh_isBuilder _ _ _, (Below.refl _ _).alloc (Nat.le_refl _) _, by rw [alloc_sz]; omega⟩
  case round =>
    obtain ⟨k, hk, rfl, hbd, hbw, hbs⟩ := hrel
    have hbz := hbw.size
    have hpl : (tightL (l.take k)).length ≤ 100000000 := by
      have h1 := Hbd.out k
      have h2 : (l.take k).length ≤ 900 := by rw [List.length_take]; omega
      have h3 := Nat.mul_le_mul_right (100000 + 1) h2
      omega
    by_cases hlt : k < l.length
    · obtain ⟨b1, o1, rfl, hbb, hc1⟩ := hA (by omega)
      obtain ⟨p1, p2, at1, p3⟩ := hc1 k _ (List.getElem?_eq_getElem hlt)
      have p1' := (hbw.cell (p := ⟨b1, o1 + k * 3, none⟩) hbb).trans p1
      have p2' := (hbw.cell (p := ⟨b1, o1 + k * 3 + 1, none⟩) hbb).trans p2
      have p3' := (hbw.cell (p := ⟨b1, o1 + k * 3 + 2, none⟩) hbb).trans p3
      clear p1 p2 p3
      have htx := ht _ (List.getElem_mem hlt)
      by_cases hk0 : k = 0
      · subst hk0
        have Hn := Lib.hid (tight_first hlt)
        generalize l[0] = x at p1' p2' p3' htx Hn
        obtain ⟨xk, xt, xp⟩ := x
        dsimp only at p1' p2' p3' htx Hn
        rw [Nat.zero_mul, Nat.add_zero] at p1' p2' p3'
        have hbA : ∀ n, Lib.IsBuilder 48 5 w1.heap.size w1.heap.size (Lib.byteCells (tightL (l.take 0))) ((wr.alloc (.cells #[.int .u8 (xk : Int), .string xt, .int .i64 at1] 33)).drewN n) := fun n => isb_alloc hbd _
        have Hws := Lib.hid (fun n => writeString_any w1.heap.size w1.heap.size (Lib.byteCells (tightL (l.take 0))) xt _ (hbA n) (by simp only [Lib.byteCells, List.length_map]; omega) (by show _ ≤ (wr.alloc _).heap.size; rw [alloc_sz]; omega))
        clear hbA
        go_wp2
        go_quiet (fail)
        go_wp2_with (go_at_call 19; refine (Hws.out _).mono ?_; rintro e w2 ⟨rfl, g2, gb2, gk2⟩)
        go_roundw
        case rel =>
          refine ⟨1, by omega, by go_num, ?_, ?_, ?_⟩
          · rw [Hn.out, Lib.byteCells_append, ← Lib.strCells_eq]; exact Or.inr g2
          · exact (below_draws (hbw.alloc hbz _) _).trans gb2
          · have := gb2.size; exact Nat.lt_of_lt_of_le (show w1.heap.size < (wr.alloc _).heap.size by rw [alloc_sz]; omega) this
        case measure => simp [intOf]; omega
      · obtain ⟨k, rfl⟩ : ∃ j, k = j + 1 := ⟨k - 1, by omega⟩
        have hlt2 : k < l.length := by omega
        obtain ⟨q1, q2, at2, q3⟩ := hc1 k _ (List.getElem?_eq_getElem hlt2)
        have q1' := (hbw.cell (p := ⟨b1, o1 + k * 3, none⟩) hbb).trans q1
        have q2' := (hbw.cell (p := ⟨b1, o1 + k * 3 + 1, none⟩) hbb).trans q2
        have q3' := (hbw.cell (p := ⟨b1, o1 + k * 3 + 2, none⟩) hbb).trans q3
        clear q1 q2 q3 hk0
        have Hn := Lib.hid (show tightL (l.take (k + 1 + 1)) = tightL (l.take (k + 1)) ++ (if growT l[k] l[k + 1] = true then [32] else []) ++ l[k + 1].text.data.toList from tight_next hlt (by omega))
        have hty := ht _ (List.getElem_mem hlt2)
        generalize l[k + 1] = x at p1' p2' p3' htx Hn
        generalize l[k] = y at q1' q2' q3' hty Hn
        have Hgt := Lib.hid (fun W => growTogether_any y x at2 at1 W)
        obtain ⟨xk, xt, xp⟩ := x
        obtain ⟨yk, yt, yp⟩ := y
        dsimp only at p1' p2' p3' htx Hn q1' q2' q3' hty Hgt
        have hwk : IntKind.i64.wrap (k : Int) = (k : Int) := IntWalk.i64_in _ (by omega)
        have hki : (0 : Int) ≤ (k : Int) := by omega
        have hkl : (k : Int) < (l.length : Int) := by omega
        have hcb : b1 < wr.heap.size := Nat.lt_of_lt_of_le hbb hbz
        cases hg : growT ⟨yk, yt, yp⟩ ⟨xk, xt, xp⟩ with
        | true =>
          rw [hg] at Hgt Hn
          go_wp2
          refine wp_region_still_tail 9 (by kernel_rfl) (by kernel_rfl) ?_
          generalize hW : ({ wr.alloc (.cells #[.int .u8 (xk : Int), .string xt, .int .i64 at1] 33) with drawn := (wr.alloc (.cells #[.int .u8 (xk : Int), .string xt, .int .i64 at1] 33)).drawn + 1 } : World) = W2
          have hbW : Below wr.heap.size wr W2 := by rw [← hW]; exact below_draws ((Below.refl _ wr).alloc (Nat.le_refl _) _) 1
          have z1 := (hbW.cell (p := ⟨b1, o1 + k * 3, none⟩) hcb).trans q1'
          have z2 := (hbW.cell (p := ⟨b1, o1 + k * 3 + 1, none⟩) hcb).trans q2'
          have z3 := (hbW.cell (p := ⟨b1, o1 + k * 3 + 2, none⟩) hcb).trans q3'
          have y0 : W2.heap[wr.heap.size]? = some (.cells #[.int .u8 (xk : Int), .string xt, .int .i64 at1] 33) := by rw [← hW]; exact heap_alloc_new wr _
          have y1 : W2.cell? ⟨wr.heap.size, 0, none⟩ = some (.int .u8 (xk : Int)) := by rw [Lib.cell_of_heap y0]; rfl
          have y2 : W2.cell? ⟨wr.heap.size, 1, none⟩ = some (.string xt) := by rw [Lib.cell_of_heap y0]; rfl
          have y3 : W2.cell? ⟨wr.heap.size, 2, none⟩ = some (.int .i64 at1) := by rw [Lib.cell_of_heap y0]; rfl
          have hsz : W2.heap.size = wr.heap.size + 1 := by rw [← hW]; exact alloc_sz wr _
          clear hW p1' p2' p3' q1' q2' q3'
          simp only [List.take_succ_cons, List.take_zero, List.drop_succ_cons, List.drop_zero]
          repeat still_step
          refine wpStill_nil ?_
          have hpb : Lib.IsBuilder 48 5 w1.heap.size w1.heap.size (Lib.byteCells (tightL (l.take (k + 1)))) W2 := isb_below hbd hbW
          have hbxz := hbs
          have HbW := Lib.hid (hbw.trans (hbW.mono hbz))
          clear hbW
          have Hwb := Lib.hid (fun W h1 h2 => writeByte_any w1.heap.size w1.heap.size (Lib.byteCells (tightL (l.take (k + 1)))) 32 W h1 (by simp only [Lib.byteCells, List.length_map]; omega) h2)
          have Hws := Lib.hid (fun W h1 h2 => writeString_any w1.heap.size w1.heap.size (Lib.byteCells (tightL (l.take (k + 1))) ++ [.int .u8 32]) xt W h1 (by rw [List.length_append]; simp only [Lib.byteCells, List.length_map, List.length_cons, List.length_nil]; omega) h2)
          go_wp2_with (first
            | (go_at_call 17; refine (Hgt.out _).mono ?_; rintro e w2 ⟨rfl, hb2⟩; have hz2 := hb2.size; have hp2 := isb_below hpb hb2; have x0 := (hb2.block wr.heap.size (by omega)).trans y0)
            | (go_at_call 18; refine (Hwb.out _ hp2 (by omega)).mono ?_; rintro e w3 ⟨rfl, g3, gb3, gk3⟩; have hz3 := gb3.size; have x1 := kept_cell (cs := [.int .u8 (xk : Int), .string xt, .int .i64 at1]) gk3 x0 (by omega) (by decide) 1 _ rfl)
            | (go_at_call 19; refine (Hws.out _ (Or.inr g3) (by omega)).mono ?_; rintro e w4 ⟨rfl, g4, gb4, gk4⟩))
          go_roundw
          case rel =>
            refine ⟨k + 1 + 1, by omega, by go_num, ?_, ((HbW.out.trans (hb2.mono (by omega))).trans gb3).trans gb4, ?_⟩
            · rw [Hn.out, if_pos True.intro, Lib.byteCells_append, Lib.byteCells_append, ← Lib.strCells_eq]; exact Or.inr g4
            · have := gb4.size; omega
          case measure => simp [intOf]; omega
        | false =>
          rw [hg] at Hgt Hn
          go_wp2
          refine wp_region_still_tail 9 (by kernel_rfl) (by kernel_rfl) ?_
          generalize hW : ({ wr.alloc (.cells #[.int .u8 (xk : Int), .string xt, .int .i64 at1] 33) with drawn := (wr.alloc (.cells #[.int .u8 (xk : Int), .string xt, .int .i64 at1] 33)).drawn + 1 } : World) = W2
          have hbW : Below wr.heap.size wr W2 := by rw [← hW]; exact below_draws ((Below.refl _ wr).alloc (Nat.le_refl _) _) 1
          have z1 := (hbW.cell (p := ⟨b1, o1 + k * 3, none⟩) hcb).trans q1'
          have z2 := (hbW.cell (p := ⟨b1, o1 + k * 3 + 1, none⟩) hcb).trans q2'
          have z3 := (hbW.cell (p := ⟨b1, o1 + k * 3 + 2, none⟩) hcb).trans q3'
          have y0 : W2.heap[wr.heap.size]? = some (.cells #[.int .u8 (xk : Int), .string xt, .int .i64 at1] 33) := by rw [← hW]; exact heap_alloc_new wr _
          have y1 : W2.cell? ⟨wr.heap.size, 0, none⟩ = some (.int .u8 (xk : Int)) := by rw [Lib.cell_of_heap y0]; rfl
          have y2 : W2.cell? ⟨wr.heap.size, 1, none⟩ = some (.string xt) := by rw [Lib.cell_of_heap y0]; rfl
          have y3 : W2.cell? ⟨wr.heap.size, 2, none⟩ = some (.int .i64 at1) := by rw [Lib.cell_of_heap y0]; rfl
          have hsz : W2.heap.size = wr.heap.size + 1 := by rw [← hW]; exact alloc_sz wr _
          clear hW p1' p2' p3' q1' q2' q3'
          simp only [List.take_succ_cons, List.take_zero, List.drop_succ_cons, List.drop_zero]
          repeat still_step
          refine wpStill_nil ?_
          have hpb : Lib.IsBuilder 48 5 w1.heap.size w1.heap.size (Lib.byteCells (tightL (l.take (k + 1)))) W2 := isb_below hbd hbW
          have hbxz := hbs
          have HbW := Lib.hid (hbw.trans (hbW.mono hbz))
          clear hbW
          have Hws := Lib.hid (fun W h1 h2 => writeString_any w1.heap.size w1.heap.size (Lib.byteCells (tightL (l.take (k + 1)))) xt W h1 (by simp only [Lib.byteCells, List.length_map]; omega) h2)
          go_wp2_with (first
            | (go_at_call 17; refine (Hgt.out _).mono ?_; rintro e w2 ⟨rfl, hb2⟩; have hz2 := hb2.size; have hp2 := isb_below hpb hb2; have x1 := (hb2.cell (p := ⟨wr.heap.size, 1, none⟩) (by show wr.heap.size < _; omega)).trans y2)
            | (go_at_call 19; refine (Hws.out _ hp2 (by omega)).mono ?_; rintro e w4 ⟨rfl, g4, gb4, gk4⟩))
          go_roundw
          case rel =>
            refine ⟨k + 1 + 1, by omega, by go_num, ?_, (HbW.out.trans (hb2.mono (by omega))).trans gb4, ?_⟩
            · rw [Hn.out, if_neg (by decide), List.append_nil, Lib.byteCells_append, ← Lib.strCells_eq]; exact Or.inr g4
            · have := gb4.size; omega
          case measure => simp [intOf]; omega
    · have Hl := Lib.hid (show l.take k = l from List.take_of_length_le (by omega))
      rw [Hl.out] at hbd hpl
      have hln := Tryz.Builder_Len w1.heap.size w1.heap.size _ wr hbd
      rw [show (Lib.byteCells (tightL l)).length = (tightL l).length from List.length_map _] at hln
      have Hln := Lib.hid hln
      have Hst := Lib.hid (Tryz.Builder_String_any w1.heap.size w1.heap.size _ wr hbd hbz)
      clear hln
      by_cases hbig : 2500 < (tightL l).length
      · have Hf := Lib.hid (Hlong.out hbig)
        clear hA Hl
        go_wp2_with (go_at_call 20; refine Hln.out.mono ?_; rintro e w2 ⟨rfl, rfl⟩)
        go_ret2
        exact ⟨by rw [Hf.out.1, Hf.out.2]; rfl, hb1.trans (hbw.mono hb1.size)⟩
      · have Hf := Lib.hid (Hok.out hbig)
        clear hA Hl
        go_wp2_with (first
          | (go_at_call 20; refine Hln.out.mono ?_; rintro e w2 ⟨rfl, rfl⟩)
          | (go_at_call 21; refine Hst.out.mono ?_; rintro e w3 ⟨rfl, gb⟩))
        go_ret2
        exact ⟨by rw [Hf.out.1, Hf.out.2]; rfl, hb1.trans ((hbw.trans gb).mono hb1.size)⟩

theorem tight_any (v : Value) (l : List Tk) (w : World) (ha : SlTw w v l) (hl : l.length ≤ 100000) (ht : ∀ x ∈ l, x.text.size ≤ 100000) (hG : Gl w) :
    Calls Tryz.prog 6 #[v] w fun e w' => e = .returned (.tuple #[.string (tight l), .int .i64 (tightErr l : Int)]) ∧ Below w.heap.size w w' := by
  by_cases h0 : toksErr l = 0
  · exact tight_good v l w ha hl ht hG h0
  · exact tight_bad v l w ha hl ht hG h0

end Go.Proofs.YthjnoboceibjjaaGreatDoor.Lx
