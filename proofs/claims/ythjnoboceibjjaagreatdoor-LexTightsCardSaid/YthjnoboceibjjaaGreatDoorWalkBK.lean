/- The document's own Tight. -/
import Derived.Test.YthjnoboceibjjaaGreatDoorWalkBJ
import Derived.Test.YthjnoboceibjjaaGreatDoorWalkZ
namespace Go.Proofs.YthjnoboceibjjaaGreatDoor.Lx
open Go Go.Proofs Go.RowKit Go.Shelf

set_option maxRecDepth 100000 in
set_option maxHeartbeats 8000000 in
theorem refTight_good (v : Value) (l : List Tk) (w : World) (ha : SlTw w v l) (hl : l.length ≤ 100000) (ht : ∀ x ∈ l, x.text.size ≤ 100000) (h0 : toksErr l = 0) :
    Calls Tryz.prog 7 #[v] w fun e w' => e = .returned (.tuple #[.string (tight l), .int .i64 (tightErr l : Int)]) ∧ Below w.heap.size w w' := by
  have hte := refTokensError_any v l w ha hl ht
  rw [h0] at hte
  have Hte := Lib.hid hte
  have hl9 := toksErr_len h0
  have Hlong := Lib.hid (tightErr_long h0)
  have Hok := Lib.hid (tightErr_ok h0)
  have HS := Lib.hid ha
  obtain ⟨A, ca, rfl, _⟩ := ha
  have Hbd := Lib.hid (fun k => tight_bound (n := 100000) (l.take k) (fun x hx => ht x (List.mem_of_mem_take hx)))
  clear hte h0
  go_enter Tryz.func7, Tryz.ntmps7
  go_wp2_with (go_at_call 22; refine Hte.out.mono ?_; rintro e w1 ⟨rfl, hb1⟩)
  have hs1 := HS.out.below hb1
  obtain ⟨A', ca', hv, hA⟩ := hs1
  injection hv with hv1 hv2 hv3
  subst hv1
  subst hv3
  clear hv2
  go_loopw [5, 6] (fun o i wr => ∃ (k : Nat) (ob : ByteArray), k ≤ l.length ∧ i = .int .i64 (k : Int) ∧ o = .string ob ∧ ob.data.toList = tightL (l.take k) ∧ Below w1.heap.size w1 wr) (fun _ i _ => l.length - (intOf i).toNat)
  case atStart => exact ⟨0, ⟨#[]⟩, Nat.zero_le _, rfl, rfl, rfl, Below.refl _ _⟩
  case round =>
    obtain ⟨k, ob, hk, rfl, rfl, hob, hbw⟩ := hrel
    have hosz : ob.size ≤ 100000000 := by
      have h1 := Hbd.out k
      have h2 : (l.take k).length ≤ 900 := by rw [List.length_take]; omega
      have h3 := Nat.mul_le_mul_right (100000 + 1) h2
      rw [← hob, len_list] at h1
      omega
    have Hob := Lib.hid hob
    have hbz := hbw.size
    by_cases hlt : k < l.length
    · obtain ⟨b1, o1, rfl, hbb, hc1⟩ := hA (by omega)
      obtain ⟨p1, p2, at1, p3⟩ := hc1 k _ (List.getElem?_eq_getElem hlt)
      have p1' := (hbw.cell (p := ⟨b1, o1 + k * 3, none⟩) hbb).trans p1
      have p2' := (hbw.cell (p := ⟨b1, o1 + k * 3 + 1, none⟩) hbb).trans p2
      have p3' := (hbw.cell (p := ⟨b1, o1 + k * 3 + 2, none⟩) hbb).trans p3
      clear p1 p2 p3 hob
      have htx := ht _ (List.getElem_mem hlt)
      by_cases hk0 : k = 0
      · subst hk0
        have Hn := Lib.hid (tight_first hlt)
        generalize l[0] = x at p1' p2' p3' htx Hn
        obtain ⟨xk, xt, xp⟩ := x
        dsimp only at p1' p2' p3' htx Hn
        rw [Nat.zero_mul, Nat.add_zero] at p1' p2' p3'
        have a1 := fun W => run_string_add_sum (P := Tryz.prog) W ob xt (by omega)
        go_wp2
        repeat (go_quiet (fail); go_wp2)
        go_roundw
        case rel => exact ⟨1, ob ++ xt, by omega, by go_num, rfl, by rw [app_list, Hob.out, Hn.out], below_draws hbw _⟩
        case measure => simp [intOf]; omega
      · obtain ⟨k, rfl⟩ : ∃ j, k = j + 1 := ⟨k - 1, by omega⟩
        have hlt2 : k < l.length := by omega
        obtain ⟨q1, q2, at2, q3⟩ := hc1 k _ (List.getElem?_eq_getElem hlt2)
        have q1' := (hbw.cell (p := ⟨b1, o1 + k * 3, none⟩) hbb).trans q1
        have q2' := (hbw.cell (p := ⟨b1, o1 + k * 3 + 1, none⟩) hbb).trans q2
        have q3' := (hbw.cell (p := ⟨b1, o1 + k * 3 + 2, none⟩) hbb).trans q3
        clear q1 q2 q3 hk0
        have Hn := Lib.hid (show tightL (l.take (k + 1 + 1)) = tightL (l.take (k + 1)) ++ (if growT l[k] l[k + 1] = true then [32] else []) ++ l[k + 1].text.data.toList from tight_next hlt (by omega))
        have hty := ht _ (List.getElem_mem hlt2)
        generalize l[k + 1] = x at p1' p2' p3' htx Hn
        generalize l[k] = y at q1' q2' q3' hty Hn
        have Hgt := Lib.hid (fun W => apart_any y x at2 at1 W)
        obtain ⟨xk, xt, xp⟩ := x
        obtain ⟨yk, yt, yp⟩ := y
        dsimp only at p1' p2' p3' htx Hn q1' q2' q3' hty Hgt
        have hwk : IntKind.i64.wrap (k : Int) = (k : Int) := IntWalk.i64_in _ (by omega)
        have hki : (0 : Int) ≤ (k : Int) := by omega
        have hkl : (k : Int) < (l.length : Int) := by omega
        have hkl2 : (k : Int) + 1 < (l.length : Int) := by omega
        have hki2 : (0 : Int) ≤ (k : Int) + 1 := by omega
        have hkt : ((k : Int) + 1).toNat = k + 1 := by omega
        have hcb : b1 < wr.heap.size := Nat.lt_of_lt_of_le hbb hbz
        cases hg : growT ⟨yk, yt, yp⟩ ⟨xk, xt, xp⟩ with
        | true =>
          rw [hg] at Hgt Hn
          have a1 := fun W => run_string_add_sum (P := Tryz.prog) W ob ⟨#[32]⟩ (by
            have h1 : (⟨#[32]⟩ : ByteArray).size = 1 := rfl
            omega)
          have a2 := fun W => run_string_add_sum (P := Tryz.prog) W (ob ++ ⟨#[32]⟩) xt (by
            have h1 : (⟨#[32]⟩ : ByteArray).size = 1 := rfl
            rw [app_size]
            omega)
          go_wp2
          refine wp_region_still_tail 12 (by kernel_rfl) (by kernel_rfl) ?_
          generalize hW : ({ wr with drawn := wr.drawn + 1 } : World) = W2
          have hbW : Below wr.heap.size wr W2 := by rw [← hW]; exact below_draws (Below.refl _ wr) 1
          have y1 := (hbW.cell (p := ⟨b1, o1 + k * 3, none⟩) hcb).trans q1'
          have y2 := (hbW.cell (p := ⟨b1, o1 + k * 3 + 1, none⟩) hcb).trans q2'
          have y3 := (hbW.cell (p := ⟨b1, o1 + k * 3 + 2, none⟩) hcb).trans q3'
          have z1 := (hbW.cell (p := ⟨b1, o1 + (k + 1) * 3, none⟩) hcb).trans p1'
          have z2 := (hbW.cell (p := ⟨b1, o1 + (k + 1) * 3 + 1, none⟩) hcb).trans p2'
          have z3 := (hbW.cell (p := ⟨b1, o1 + (k + 1) * 3 + 2, none⟩) hcb).trans p3'
          clear hW p1' p2' p3' q1' q2' q3'
          simp only [List.take_succ_cons, List.take_zero, List.drop_succ_cons, List.drop_zero]
          repeat still_step
          refine wpStill_nil ?_
          have HbW := Lib.hid (hbw.trans (hbW.mono hbz))
          have hcb2 : b1 < W2.heap.size := Nat.lt_of_lt_of_le hcb hbW.size
          go_wp2_with (go_at_call 23; refine (Hgt.out _).mono ?_; rintro e w2 ⟨rfl, hb2⟩; have x2 := (hb2.cell (p := ⟨b1, o1 + (k + 1) * 3 + 1, none⟩) hcb2).trans z2)
          go_roundw
          case rel => exact ⟨k + 1 + 1, ob ++ ⟨#[32]⟩ ++ xt, by omega, by go_num, rfl, by rw [app_list, app_list, Hob.out, Hn.out, if_pos True.intro], HbW.out.trans (hb2.mono HbW.out.size)⟩
          case measure => simp [intOf]; omega
        | false =>
          rw [hg] at Hgt Hn
          have a1 := fun W => run_string_add_sum (P := Tryz.prog) W ob xt (by omega)
          go_wp2
          refine wp_region_still_tail 12 (by kernel_rfl) (by kernel_rfl) ?_
          generalize hW : ({ wr with drawn := wr.drawn + 1 } : World) = W2
          have hbW : Below wr.heap.size wr W2 := by rw [← hW]; exact below_draws (Below.refl _ wr) 1
          have y1 := (hbW.cell (p := ⟨b1, o1 + k * 3, none⟩) hcb).trans q1'
          have y2 := (hbW.cell (p := ⟨b1, o1 + k * 3 + 1, none⟩) hcb).trans q2'
          have y3 := (hbW.cell (p := ⟨b1, o1 + k * 3 + 2, none⟩) hcb).trans q3'
          have z1 := (hbW.cell (p := ⟨b1, o1 + (k + 1) * 3, none⟩) hcb).trans p1'
          have z2 := (hbW.cell (p := ⟨b1, o1 + (k + 1) * 3 + 1, none⟩) hcb).trans p2'
          have z3 := (hbW.cell (p := ⟨b1, o1 + (k + 1) * 3 + 2, none⟩) hcb).trans p3'
          clear hW p1' p2' p3' q1' q2' q3'
          simp only [List.take_succ_cons, List.take_zero, List.drop_succ_cons, List.drop_zero]
          repeat still_step
          refine wpStill_nil ?_
          have HbW := Lib.hid (hbw.trans (hbW.mono hbz))
          have hcb2 : b1 < W2.heap.size := Nat.lt_of_lt_of_le hcb hbW.size
          go_wp2_with (go_at_call 23; refine (Hgt.out _).mono ?_; rintro e w2 ⟨rfl, hb2⟩; have x2 := (hb2.cell (p := ⟨b1, o1 + (k + 1) * 3 + 1, none⟩) hcb2).trans z2)
          go_roundw
          case rel => exact ⟨k + 1 + 1, ob ++ xt, by omega, by go_num, rfl, by rw [app_list, Hob.out, Hn.out, if_neg (by decide), List.append_nil], HbW.out.trans (hb2.mono HbW.out.size)⟩
          case measure => simp [intOf]; omega
    · have hl1 : l.take k = l := List.take_of_length_le (by omega)
      rw [hl1] at Hob
      have hsz : ob.size = (tightL l).length := by rw [← Hob.out, len_list]
      have hob2 : ob = ⟨(tightL l).toArray⟩ := by
        apply str_of_list
        rw [Hob.out]
      by_cases hbig : 2500 < (tightL l).length
      · have Hf := Lib.hid (Hlong.out hbig)
        have hb3 : 2500 < ob.size := by omega
        clear hA hob2 hob hl1
        go_wp2
        go_ret2
        exact ⟨by rw [Hf.out.1, Hf.out.2]; rfl, hb1.trans (hbw.mono hb1.size)⟩
      · have Hf := Lib.hid (Hok.out hbig)
        have hb3 : ¬ 2500 < ob.size := by omega
        have Ho := Lib.hid hob2
        clear hA hob2 hob hl1
        go_wp2
        go_ret2
        exact ⟨by rw [Hf.out.1, Hf.out.2, ← Ho.out]; rfl, hb1.trans (hbw.mono hb1.size)⟩

theorem refTight_any (v : Value) (l : List Tk) (w : World) (ha : SlTw w v l) (hl : l.length ≤ 100000) (ht : ∀ x ∈ l, x.text.size ≤ 100000) :
    Calls Tryz.prog 7 #[v] w fun e w' => e = .returned (.tuple #[.string (tight l), .int .i64 (tightErr l : Int)]) ∧ Below w.heap.size w w' := by
  by_cases h0 : toksErr l = 0
  · exact refTight_good v l w ha hl ht h0
  · have hte := refTokensError_any v l w ha hl ht
    have Hf := Lib.hid (show tightErr l = toksErr l from if_pos h0)
    have Hg := Lib.hid (show tight l = ⟨#[]⟩ from if_neg (by rw [Hf.out]; exact h0))
    generalize toksErr l = te at *
    have ht3 : ((te : Int) != 0) = true := by simp; omega
    have Hte := Lib.hid hte
    obtain ⟨A, ca, rfl, _⟩ := ha
    clear hte h0
    go_enter Tryz.func7, Tryz.ntmps7
    go_wp2_with (go_at_call 22; refine Hte.out.mono ?_; rintro e w1 ⟨rfl, hb1⟩)
    go_ret2
    exact ⟨by rw [Hf.out, Hg.out]; rfl, hb1⟩

end Go.Proofs.YthjnoboceibjjaaGreatDoor.Lx
