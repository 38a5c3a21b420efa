/- The document's own Kept. -/
import Derived.Test.YtocogbllhmiefaaGreatDoorWalkAX
import Derived.Test.YtocogbllhmiefaaGreatDoorWalkZ
import Derived.Test.YtocogbllhmiefaaGreatDoorWalkAH
import Derived.BigRegion
namespace Go.Proofs.YtocogbllhmiefaaGreatDoor.Lx
open Go Go.Proofs Go.RowKit Go.Shelf

theorem box3 {w w1 : World} {x y z : Value} {t : TypeId} (hb : Below (w.alloc (.cells #[x, y, z] t)).heap.size (w.alloc (.cells #[x, y, z] t)) w1) :
    Below w.heap.size w w1 ∧ w1.cell? ⟨w.heap.size, 0, none⟩ = some x ∧ w1.cell? ⟨w.heap.size, 1, none⟩ = some y ∧ w1.cell? ⟨w.heap.size, 2, none⟩ = some z := by
  have hsz : (w.alloc (.cells #[x, y, z] t)).heap.size = w.heap.size + 1 := alloc_sz _ _
  have hlt : w.heap.size < (w.alloc (.cells #[x, y, z] t)).heap.size := by rw [hsz]; exact Nat.lt_succ_self _
  exact ⟨((Below.refl _ _).alloc (Nat.le_refl _) _).trans (hb.mono (by omega)), (hb.cell (p := ⟨w.heap.size, 0, none⟩) hlt).trans (cell_new w _ _ 0), (hb.cell (p := ⟨w.heap.size, 1, none⟩) hlt).trans (cell_new w _ _ 1), (hb.cell (p := ⟨w.heap.size, 2, none⟩) hlt).trans (cell_new w _ _ 2)⟩

theorem rev_at {l : List Tk} {k j : Nat} (hk : k ≤ l.length) (hj : j < l.length - k) : ((l.drop k).reverse)[j]? = l[l.length - 1 - j]? := by
  rw [List.getElem?_reverse (by rw [List.length_drop]; exact hj), List.length_drop, List.getElem?_drop]
  congr 1
  omega

theorem drop_of_some {l : List Tk} {j : Nat} {y : Tk} (h : l[j]? = some y) : l.drop j = y :: l.drop (j + 1) := by
  obtain ⟨hj, rfl⟩ := List.getElem?_eq_some_iff.1 h
  exact List.drop_eq_getElem_cons hj

set_option maxRecDepth 100000 in
set_option maxHeartbeats 8000000 in
theorem refKept_good (s : ByteArray) (x : Sp) (w : World) (hs : s.size ≤ 100000) (hx : x.text.size ≤ 100000) (h0 : keptErr s x = 0) :
    Calls Tryz.prog 19 #[.string s, .agg #[.int .i64 x.lo, .int .i64 x.hi, .string x.text]] w (KeptP s x w) := by
  obtain ⟨e1, e2, e3⟩ := kept_parts h0
  have hts : (applied s [x]).size ≤ 2500 := (text_ok (text_after e1).1).1
  have hap : applied s [x] = edited s (eds s [x]) := if_pos e1
  have hch := fun W a ha => check_any s a [x] W hs ha (by simp) (by simpa using hx)
  rw [e1] at hch
  have hsp := fun W a ha => spliced_any s a [x] W hs ha (by simp) (by simpa using hx) (splErr_parts e1).2.2.1
  rw [← hap] at hsp
  have htk1 := fun W => refTokens_any s W hs
  have htk2 := fun W => refTokens_any (applied s [x]) W (by omega)
  rw [e2] at htk1
  rw [e3] at htk2
  have Hh := Lib.hid (show keptHead s x = comL sameTk (tokens s).1 (tokens (applied s [x])).1 from if_pos h0)
  have Ht := Lib.hid (show keptTail s x = comL (moveT (((applied s [x]).size : Int) - s.size)) ((tokens s).1.drop (comL sameTk (tokens s).1 (tokens (applied s [x])).1)).reverse ((tokens (applied s [x])).1.drop (comL sameTk (tokens s).1 (tokens (applied s [x])).1)).reverse from by
    rw [← Hh.out]; exact if_pos h0)
  have He := Lib.hid h0
  have Hlit : Hid (∀ W : World, SlSp (W.alloc (.cells #[.int .i64 x.lo, .int .i64 x.hi, .string x.text] 40)) (.slice (some ⟨W.heap.size, 0, none⟩) 1 1) [x]) := fun W => SlSp.lit W [x] 1
  have Hlit0 : Hid (SlSp ((w.alloc (.cells #[.int .i64 x.lo, .int .i64 x.hi, .string x.text] 40)).alloc (.cells #[.int .i64 x.lo, .int .i64 x.hi, .string x.text] 40)) (.slice (some ⟨w.heap.size + 1, 0, none⟩) 1 1) [x]) := by
    have h := SlSp.lit (w.alloc (.cells #[.int .i64 x.lo, .int .i64 x.hi, .string x.text] 40)) [x] 1
    rw [alloc_sz] at h
    exact h
  have Hb0 := Lib.hid ((Below.refl (w.alloc (.cells #[.int .i64 x.lo, .int .i64 x.hi, .string x.text] 40)).heap.size (w.alloc (.cells #[.int .i64 x.lo, .int .i64 x.hi, .string x.text] 40))).alloc (Nat.le_refl _) (.cells #[.int .i64 x.lo, .int .i64 x.hi, .string x.text] 40))
  have hss : s.size ≤ 2500 := (text_ok (tokens_parts e2).1).1
  have hn1 := (tokens_parts e2).2.2.2.2
  have hn2 := (tokens_parts e3).2.2.2.2
  have hpos : ∀ y ∈ (tokens s).1, y.pos ≤ 100000 := by
    intro y hy
    rw [(tokens_parts e2).2.1] at hy
    have := toks_lt s _ 0 (Nat.le_refl _) y hy
    omega
  generalize applied s [x] = t at *
  generalize (tokens s).1 = L at *
  generalize (tokens t).1 = M at *
  generalize (tokens s).2.1 = p1 at *
  generalize (tokens t).2.1 = p2 at *
  have Hch := Lib.hid hch
  have Hsp := Lib.hid hsp
  have Htk1 := Lib.hid htk1
  have Htk2 := Lib.hid htk2
  have Hpos := Lib.hid hpos
  clear hch hsp htk1 htk2 hpos e1 e2 e3 h0 hap
  go_enter Tryz.func19, Tryz.ntmps19
  go_wp2_with (first
    | (go_at_call 51; refine (Htk2.out w3).mono ?_; rintro e w4 ⟨v4, rfl, hown4, hb4⟩; have hB4 := hB3.trans (hb4.mono hB3.size); obtain ⟨A4, c4, rfl⟩ := own_form hown4; have hS3 := (SlTk.of_own hown3).below hb4; have hS4 := SlTk.of_own hown4)
    | (go_at_call 51; refine (Htk1.out w2).mono ?_; rintro e w3 ⟨v3, rfl, hown3, hb3⟩; have hB3 := hB2.trans (hb3.mono hB2.size); obtain ⟨A3, c3, rfl⟩ := own_form hown3)
    | (go_at_call 50; refine (Hsp.out _ _ (Hlit.out w1)).mono ?_; rintro e w2 ⟨rfl, hb2⟩; have hB2 := (hB1.alloc hB1.size _).trans (hb2.mono (by have := hB1.size; rw [alloc_sz w1]; omega)))
    | (go_at_call 49; refine (Hch.out _ _ Hlit0.out).mono ?_; rintro e w1 ⟨rfl, hb1⟩; obtain ⟨hB1, u0, u1, u2⟩ := box3 (Hb0.out.trans (hb1.mono Hb0.out.size))))
  have HS3 := Lib.hid hS3
  have HS4 := Lib.hid hS4
  have HB4 := Lib.hid hB4
  clear hS3 hS4 hB1 hB2 hB3 hB4 hb1 hb2 hb3 hb4 hown3 hown4 u0 u1 u2
  go_loopw [14] (fun i wr => ∃ k : Nat, k ≤ L.length ∧ k ≤ M.length ∧ i = .int .i64 (k : Int) ∧ comL sameTk L M = k + comL sameTk (L.drop k) (M.drop k) ∧ Below w4.heap.size w4 wr) (fun i _ => L.length - (intOf i).toNat)
  case atStart => exact ⟨0, Nat.zero_le _, Nat.zero_le _, rfl, by simp, Below.refl _ _⟩
  case round =>
    obtain ⟨k, hk1, hk2, rfl, hcom, hbw⟩ := hrel
    by_cases hcont : ∃ (h1 : k < L.length) (h2 : k < M.length), sameTk L[k] M[k] = true
    · obtain ⟨h1, h2, hsame⟩ := hcont
      have hdx : L.drop k = L[k] :: L.drop (k + 1) := List.drop_eq_getElem_cons h1
      have hdy : M.drop k = M[k] :: M.drop (k + 1) := List.drop_eq_getElem_cons h2
      rw [hdx, hdy] at hcom
      obtain ⟨A, q, hv, hA⟩ := HS3.out
      injection hv with z1 _ z3
      subst z1
      subst z3
      obtain ⟨A', q', hv', hA'⟩ := HS4.out
      injection hv' with z1' _ z3'
      subst z1'
      subst z3'
      obtain ⟨b1, o1, rfl, hb1, hc1⟩ := hA (by omega)
      obtain ⟨b2, o2, rfl, hb2, hc2⟩ := hA' (by omega)
      obtain ⟨m1, m2, m3⟩ := hc1 k _ (List.getElem?_eq_getElem h1)
      obtain ⟨n1, n2, n3⟩ := hc2 k _ (List.getElem?_eq_getElem h2)
      have m1' := (hbw.cell (p := ⟨b1, o1 + k * 3, none⟩) hb1).trans m1
      have m2' := (hbw.cell (p := ⟨b1, o1 + k * 3 + 1, none⟩) hb1).trans m2
      have m3' := (hbw.cell (p := ⟨b1, o1 + k * 3 + 2, none⟩) hb1).trans m3
      have n1' := (hbw.cell (p := ⟨b2, o2 + k * 3, none⟩) hb2).trans n1
      have n2' := (hbw.cell (p := ⟨b2, o2 + k * 3 + 1, none⟩) hb2).trans n2
      have n3' := (hbw.cell (p := ⟨b2, o2 + k * 3 + 2, none⟩) hb2).trans n3
      clear m1 m2 m3 n1 n2 n3 hc1 hc2 hA hA'
      have hne := fun W => (tk_equal L[k] M[k] W).trans (by rw [hsame])
      have hcom2 : comL sameTk L M = k + (if sameTk L[k] M[k] = true then 1 + comL sameTk (L.drop (k + 1)) (M.drop (k + 1)) else 0) := hcom
      rw [if_pos hsame] at hcom2
      have Hc := Lib.hid hcom2
      clear hcom hcom2 hdx hdy hsame
      generalize L[k] = y at *
      generalize M[k] = z at *
      have d1 : decide ((k : Int) < (L.length : Int)) = true := by simp; omega
      have d2 : decide ((k : Int) < (M.length : Int)) = true := by simp; omega
      go_wp2
      repeat (go_quiet (fail); go_wp2)
      go_roundw
      case rel => exact ⟨k + 1, by omega, by omega, by go_num, by rw [Hc.out]; omega, below_draws hbw _⟩
      case measure => simp [intOf]; omega
    · have hfin : comL sameTk L M = k := by
        rw [hcom]
        by_cases h1 : k < L.length
        · by_cases h2 : k < M.length
          · have hdx : L.drop k = L[k] :: L.drop (k + 1) := List.drop_eq_getElem_cons h1
            have hdy : M.drop k = M[k] :: M.drop (k + 1) := List.drop_eq_getElem_cons h2
            rw [hdx, hdy]
            show k + (if sameTk L[k] M[k] = true then 1 + comL sameTk (L.drop (k + 1)) (M.drop (k + 1)) else 0) = k
            rw [if_neg (fun h => hcont ⟨h1, h2, h⟩), Nat.add_zero]
          · rw [List.drop_eq_nil_of_le (show M.length ≤ k by omega)]; cases L.drop k <;> rfl
        · rw [List.drop_eq_nil_of_le (show L.length ≤ k by omega)]; cases M.drop k <;> rfl
      rw [hfin] at Ht
      rw [hfin] at Hh
      have hex : (decide ((k : Int) < (L.length : Int)) = false) ∨ (k < L.length ∧ decide ((k : Int) < (M.length : Int)) = false) ∨ (∃ (h1 : k < L.length) (h2 : k < M.length), sameTk L[k] M[k] = false) := by
        by_cases h1 : k < L.length
        · by_cases h2 : k < M.length
          · exact .inr (.inr ⟨h1, h2, by
              cases h : sameTk L[k] M[k]
              · rfl
              · exact absurd ⟨h1, h2, h⟩ hcont⟩)
          · exact .inr (.inl ⟨h1, by simp; omega⟩)
        · exact .inl (by simp; omega)
      clear hcont hcom hfin
      generalize hg : ((t.size : Int) - s.size) = g at *
      have hrx := fun j hj => rev_at (l := L) (k := k) (j := j) hk1 hj
      have hry := fun j hj => rev_at (l := M) (k := k) (j := j) hk2 hj
      have hPl : ((L.drop k).reverse).length = L.length - k := by simp
      have hQl : ((M.drop k).reverse).length = M.length - k := by simp
      have Hrx := Lib.hid hrx
      have Hry := Lib.hid hry
      clear hrx hry
      generalize (L.drop k).reverse = P at *
      generalize (M.drop k).reverse = Q at *
      rcases hex with d1 | ⟨h1, d2⟩ | ⟨h1, h2, hsame⟩
      · have h1 : ¬ k < L.length := by simpa using d1
        go_wp2
        repeat (go_quiet (fail); go_wp2)
        clear d1 h1
        go_loopw [15] (fun i wq => ∃ j : Nat, j ≤ L.length - k ∧ j ≤ M.length - k ∧ i = .int .i64 (j : Int) ∧ comL (moveT g) P Q = j + comL (moveT g) (P.drop j) (Q.drop j) ∧ Below w4.heap.size w4 wq) (fun i _ => L.length - (intOf i).toNat)
        case atStart => exact ⟨0, Nat.zero_le _, Nat.zero_le _, rfl, by simp, by first | exact below_draws hbw _ | exact hbw⟩
        case round =>
          clear hbw
          obtain ⟨j, hj1, hj2, rfl, hcom, hbw⟩ := hrel
          by_cases c1 : j < L.length - k
          · have d1 : decide ((j : Int) < (L.length : Int) - (k : Int)) = true := by simp; omega
            by_cases c2 : j < M.length - k
            · have d2 : decide ((j : Int) < (M.length : Int) - (k : Int)) = true := by simp; omega
              have hix : L.length - 1 - j < L.length := by omega
              have hiy : M.length - 1 - j < M.length := by omega
              have hx1 := (Hrx.out j c1).trans (List.getElem?_eq_getElem hix)
              have hy1 := (Hry.out j c2).trans (List.getElem?_eq_getElem hiy)
              rw [drop_of_some hx1, drop_of_some hy1] at hcom
              obtain ⟨A, q, hv, hA⟩ := HS3.out
              injection hv with z1 _ z3
              subst z1
              subst z3
              obtain ⟨A', q', hv', hA'⟩ := HS4.out
              injection hv' with z1' _ z3'
              subst z1'
              subst z3'
              obtain ⟨b1, o1, rfl, hb1, hc1⟩ := hA (by omega)
              obtain ⟨b2, o2, rfl, hb2, hc2⟩ := hA' (by omega)
              obtain ⟨m1, m2, m3⟩ := hc1 (L.length - 1 - j) _ (List.getElem?_eq_getElem hix)
              obtain ⟨n1, n2, n3⟩ := hc2 (M.length - 1 - j) _ (List.getElem?_eq_getElem hiy)
              have m1' := (hbw.cell (p := ⟨b1, o1 + (L.length - 1 - j) * 3, none⟩) hb1).trans m1
              have m2' := (hbw.cell (p := ⟨b1, o1 + (L.length - 1 - j) * 3 + 1, none⟩) hb1).trans m2
              have m3' := (hbw.cell (p := ⟨b1, o1 + (L.length - 1 - j) * 3 + 2, none⟩) hb1).trans m3
              have n1' := (hbw.cell (p := ⟨b2, o2 + (M.length - 1 - j) * 3, none⟩) hb2).trans n1
              have n2' := (hbw.cell (p := ⟨b2, o2 + (M.length - 1 - j) * 3 + 1, none⟩) hb2).trans n2
              have n3' := (hbw.cell (p := ⟨b2, o2 + (M.length - 1 - j) * 3 + 2, none⟩) hb2).trans n3
              clear m1 m2 m3 n1 n2 n3 hc1 hc2 hA hA'
              have hb1' := Nat.lt_of_lt_of_le hb1 hbw.size
              have hb2' := Nat.lt_of_lt_of_le hb2 hbw.size
              have hps := Hpos.out _ (List.getElem_mem hix)
              have hnum1 : (L.length : Int) - 1 - (j : Int) = ((L.length - 1 - j : Nat) : Int) := by omega
              have hnum2 : (M.length : Int) - 1 - (j : Int) = ((M.length - 1 - j : Nat) : Int) := by omega
              generalize L[L.length - 1 - j] = y at *
              generalize M[M.length - 1 - j] = z at *
              have hcom2 : comL (moveT g) P Q = j + (if moveT g y z = true then 1 + comL (moveT g) (P.drop (j + 1)) (Q.drop (j + 1)) else 0) := hcom
              clear hcom hx1 hy1
              cases hm : moveT g y z with
              | true =>
                rw [if_pos hm] at hcom2
                have Hc := Lib.hid hcom2
                have he := fun W => (tk_equal2 y z ((y.pos : Int) + g) (z.pos : Int) W).trans (by rw [show (decide (y.kind = z.kind) && (decide (y.text.toList = z.text.toList) && decide ((y.pos : Int) + g = (z.pos : Int)))) = true from hm])
                clear hm hcom2
                go_wp2
                go_region
                all_goals (
                  go_wp2
                  go_roundw
                  case rel => exact ⟨j + 1, by omega, by omega, by go_num, by rw [Hc.out]; omega, (by first | exact (hbw.alloc hbw.size _).alloc (by have := hbw.size; simp; omega) _ | exact (hbw.drew.alloc hbw.size _).alloc (by have := hbw.size; simp; omega) _ | exact ((below_draws hbw _).alloc hbw.size _).alloc (by have := hbw.size; simp; omega) _)⟩
                  case measure => simp [intOf]; omega)
              | false =>
                rw [if_neg (by rw [hm]; decide)] at hcom2
                have Hc := Lib.hid (show keptTail s x = j by rw [Ht.out, hcom2]; rfl)
                have he := fun W => (tk_equal2 y z ((y.pos : Int) + g) (z.pos : Int) W).trans (by rw [show (decide (y.kind = z.kind) && (decide (y.text.toList = z.text.toList) && decide ((y.pos : Int) + g = (z.pos : Int)))) = false from hm])
                clear hm hcom2
                go_wp2
                go_region
                all_goals (
                  go_wp2
                  go_ret3
                  exact ⟨by rw [Hh.out, Hc.out, He.out]; rfl, HB4.out.trans (Below.mono (by first | exact (hbw.alloc hbw.size _).alloc (by have := hbw.size; simp; omega) _ | exact (hbw.drew.alloc hbw.size _).alloc (by have := hbw.size; simp; omega) _ | exact ((below_draws hbw _).alloc hbw.size _).alloc (by have := hbw.size; simp; omega) _) HB4.out.size)⟩)
            · have d2 : decide ((j : Int) < (M.length : Int) - (k : Int)) = false := by simp; omega
              have hfin : keptTail s x = j := by
                rw [Ht.out, hcom, List.drop_eq_nil_of_le (show Q.length ≤ j by omega)]
                cases P.drop j <;> rfl
              have Hc := Lib.hid hfin
              clear hfin hcom
              go_wp2
              go_ret3
              exact ⟨by rw [Hh.out, Hc.out, He.out]; rfl, HB4.out.trans (hbw.mono HB4.out.size)⟩
          · have d1 : decide ((j : Int) < (L.length : Int) - (k : Int)) = false := by simp; omega
            have hfin : keptTail s x = j := by
              rw [Ht.out, hcom, List.drop_eq_nil_of_le (show P.length ≤ j by omega)]
              cases Q.drop j <;> rfl
            have Hc := Lib.hid hfin
            clear hfin hcom
            go_wp2
            go_ret3
            exact ⟨by rw [Hh.out, Hc.out, He.out]; rfl, HB4.out.trans (hbw.mono HB4.out.size)⟩
      · have d1 : decide ((k : Int) < (L.length : Int)) = true := by simp; omega
        have h2 : ¬ k < M.length := by simpa using d2
        go_wp2
        repeat (go_quiet (fail); go_wp2)
        clear d1 d2 h1 h2
        go_loopw [15] (fun i wq => ∃ j : Nat, j ≤ L.length - k ∧ j ≤ M.length - k ∧ i = .int .i64 (j : Int) ∧ comL (moveT g) P Q = j + comL (moveT g) (P.drop j) (Q.drop j) ∧ Below w4.heap.size w4 wq) (fun i _ => L.length - (intOf i).toNat)
        case atStart => exact ⟨0, Nat.zero_le _, Nat.zero_le _, rfl, by simp, by first | exact below_draws hbw _ | exact hbw⟩
        case round =>
          clear hbw
          obtain ⟨j, hj1, hj2, rfl, hcom, hbw⟩ := hrel
          by_cases c1 : j < L.length - k
          · have d1 : decide ((j : Int) < (L.length : Int) - (k : Int)) = true := by simp; omega
            by_cases c2 : j < M.length - k
            · have d2 : decide ((j : Int) < (M.length : Int) - (k : Int)) = true := by simp; omega
              have hix : L.length - 1 - j < L.length := by omega
              have hiy : M.length - 1 - j < M.length := by omega
              have hx1 := (Hrx.out j c1).trans (List.getElem?_eq_getElem hix)
              have hy1 := (Hry.out j c2).trans (List.getElem?_eq_getElem hiy)
              rw [drop_of_some hx1, drop_of_some hy1] at hcom
              obtain ⟨A, q, hv, hA⟩ := HS3.out
              injection hv with z1 _ z3
              subst z1
              subst z3
              obtain ⟨A', q', hv', hA'⟩ := HS4.out
              injection hv' with z1' _ z3'
              subst z1'
              subst z3'
              obtain ⟨b1, o1, rfl, hb1, hc1⟩ := hA (by omega)
              obtain ⟨b2, o2, rfl, hb2, hc2⟩ := hA' (by omega)
              obtain ⟨m1, m2, m3⟩ := hc1 (L.length - 1 - j) _ (List.getElem?_eq_getElem hix)
              obtain ⟨n1, n2, n3⟩ := hc2 (M.length - 1 - j) _ (List.getElem?_eq_getElem hiy)
              have m1' := (hbw.cell (p := ⟨b1, o1 + (L.length - 1 - j) * 3, none⟩) hb1).trans m1
              have m2' := (hbw.cell (p := ⟨b1, o1 + (L.length - 1 - j) * 3 + 1, none⟩) hb1).trans m2
              have m3' := (hbw.cell (p := ⟨b1, o1 + (L.length - 1 - j) * 3 + 2, none⟩) hb1).trans m3
              have n1' := (hbw.cell (p := ⟨b2, o2 + (M.length - 1 - j) * 3, none⟩) hb2).trans n1
              have n2' := (hbw.cell (p := ⟨b2, o2 + (M.length - 1 - j) * 3 + 1, none⟩) hb2).trans n2
              have n3' := (hbw.cell (p := ⟨b2, o2 + (M.length - 1 - j) * 3 + 2, none⟩) hb2).trans n3
              clear m1 m2 m3 n1 n2 n3 hc1 hc2 hA hA'
              have hb1' := Nat.lt_of_lt_of_le hb1 hbw.size
              have hb2' := Nat.lt_of_lt_of_le hb2 hbw.size
              have hps := Hpos.out _ (List.getElem_mem hix)
              have hnum1 : (L.length : Int) - 1 - (j : Int) = ((L.length - 1 - j : Nat) : Int) := by omega
              have hnum2 : (M.length : Int) - 1 - (j : Int) = ((M.length - 1 - j : Nat) : Int) := by omega
              generalize L[L.length - 1 - j] = y at *
              generalize M[M.length - 1 - j] = z at *
              have hcom2 : comL (moveT g) P Q = j + (if moveT g y z = true then 1 + comL (moveT g) (P.drop (j + 1)) (Q.drop (j + 1)) else 0) := hcom
              clear hcom hx1 hy1
              cases hm : moveT g y z with
              | true =>
                rw [if_pos hm] at hcom2
                have Hc := Lib.hid hcom2
                have he := fun W => (tk_equal2 y z ((y.pos : Int) + g) (z.pos : Int) W).trans (by rw [show (decide (y.kind = z.kind) && (decide (y.text.toList = z.text.toList) && decide ((y.pos : Int) + g = (z.pos : Int)))) = true from hm])
                clear hm hcom2
                go_wp2
                go_region
                all_goals (
                  go_wp2
                  go_roundw
                  case rel => exact ⟨j + 1, by omega, by omega, by go_num, by rw [Hc.out]; omega, (by first | exact (hbw.alloc hbw.size _).alloc (by have := hbw.size; simp; omega) _ | exact (hbw.drew.alloc hbw.size _).alloc (by have := hbw.size; simp; omega) _ | exact ((below_draws hbw _).alloc hbw.size _).alloc (by have := hbw.size; simp; omega) _)⟩
                  case measure => simp [intOf]; omega)
              | false =>
                rw [if_neg (by rw [hm]; decide)] at hcom2
                have Hc := Lib.hid (show keptTail s x = j by rw [Ht.out, hcom2]; rfl)
                have he := fun W => (tk_equal2 y z ((y.pos : Int) + g) (z.pos : Int) W).trans (by rw [show (decide (y.kind = z.kind) && (decide (y.text.toList = z.text.toList) && decide ((y.pos : Int) + g = (z.pos : Int)))) = false from hm])
                clear hm hcom2
                go_wp2
                go_region
                all_goals (
                  go_wp2
                  go_ret3
                  exact ⟨by rw [Hh.out, Hc.out, He.out]; rfl, HB4.out.trans (Below.mono (by first | exact (hbw.alloc hbw.size _).alloc (by have := hbw.size; simp; omega) _ | exact (hbw.drew.alloc hbw.size _).alloc (by have := hbw.size; simp; omega) _ | exact ((below_draws hbw _).alloc hbw.size _).alloc (by have := hbw.size; simp; omega) _) HB4.out.size)⟩)
            · have d2 : decide ((j : Int) < (M.length : Int) - (k : Int)) = false := by simp; omega
              have hfin : keptTail s x = j := by
                rw [Ht.out, hcom, List.drop_eq_nil_of_le (show Q.length ≤ j by omega)]
                cases P.drop j <;> rfl
              have Hc := Lib.hid hfin
              clear hfin hcom
              go_wp2
              go_ret3
              exact ⟨by rw [Hh.out, Hc.out, He.out]; rfl, HB4.out.trans (hbw.mono HB4.out.size)⟩
          · have d1 : decide ((j : Int) < (L.length : Int) - (k : Int)) = false := by simp; omega
            have hfin : keptTail s x = j := by
              rw [Ht.out, hcom, List.drop_eq_nil_of_le (show P.length ≤ j by omega)]
              cases Q.drop j <;> rfl
            have Hc := Lib.hid hfin
            clear hfin hcom
            go_wp2
            go_ret3
            exact ⟨by rw [Hh.out, Hc.out, He.out]; rfl, HB4.out.trans (hbw.mono HB4.out.size)⟩
      · have d1 : decide ((k : Int) < (L.length : Int)) = true := by simp; omega
        have d2 : decide ((k : Int) < (M.length : Int)) = true := by simp; omega
        obtain ⟨A, q, hv, hA⟩ := HS3.out
        injection hv with z1 _ z3
        subst z1
        subst z3
        obtain ⟨A', q', hv', hA'⟩ := HS4.out
        injection hv' with z1' _ z3'
        subst z1'
        subst z3'
        obtain ⟨b1, o1, rfl, hb1, hc1⟩ := hA (by omega)
        obtain ⟨b2, o2, rfl, hb2, hc2⟩ := hA' (by omega)
        obtain ⟨m1, m2, m3⟩ := hc1 k _ (List.getElem?_eq_getElem h1)
        obtain ⟨n1, n2, n3⟩ := hc2 k _ (List.getElem?_eq_getElem h2)
        have m1' := (hbw.cell (p := ⟨b1, o1 + k * 3, none⟩) hb1).trans m1
        have m2' := (hbw.cell (p := ⟨b1, o1 + k * 3 + 1, none⟩) hb1).trans m2
        have m3' := (hbw.cell (p := ⟨b1, o1 + k * 3 + 2, none⟩) hb1).trans m3
        have n1' := (hbw.cell (p := ⟨b2, o2 + k * 3, none⟩) hb2).trans n1
        have n2' := (hbw.cell (p := ⟨b2, o2 + k * 3 + 1, none⟩) hb2).trans n2
        have n3' := (hbw.cell (p := ⟨b2, o2 + k * 3 + 2, none⟩) hb2).trans n3
        clear m1 m2 m3 n1 n2 n3 hc1 hc2 hA hA'
        have hne := fun W => (tk_equal L[k] M[k] W).trans (by rw [hsame])
        clear hsame
        generalize L[k] = y at *
        generalize M[k] = z at *
        go_wp2
        repeat (go_quiet (fail); go_wp2)
        clear d1 d2 h1 h2 hne m1' m2' m3' n1' n2' n3' hb1 hb2
        generalize (some (⟨b1, o1, none⟩ : Addr)) = A3 at *
        generalize (some (⟨b2, o2, none⟩ : Addr)) = A4 at *
        go_loopw [15] (fun i wq => ∃ j : Nat, j ≤ L.length - k ∧ j ≤ M.length - k ∧ i = .int .i64 (j : Int) ∧ comL (moveT g) P Q = j + comL (moveT g) (P.drop j) (Q.drop j) ∧ Below w4.heap.size w4 wq) (fun i _ => L.length - (intOf i).toNat)
        case atStart => exact ⟨0, Nat.zero_le _, Nat.zero_le _, rfl, by simp, by first | exact below_draws hbw _ | exact hbw⟩
        case round =>
          clear hbw
          obtain ⟨j, hj1, hj2, rfl, hcom, hbw⟩ := hrel
          by_cases c1 : j < L.length - k
          · have d1 : decide ((j : Int) < (L.length : Int) - (k : Int)) = true := by simp; omega
            by_cases c2 : j < M.length - k
            · have d2 : decide ((j : Int) < (M.length : Int) - (k : Int)) = true := by simp; omega
              have hix : L.length - 1 - j < L.length := by omega
              have hiy : M.length - 1 - j < M.length := by omega
              have hx1 := (Hrx.out j c1).trans (List.getElem?_eq_getElem hix)
              have hy1 := (Hry.out j c2).trans (List.getElem?_eq_getElem hiy)
              rw [drop_of_some hx1, drop_of_some hy1] at hcom
              obtain ⟨A, q, hv, hA⟩ := HS3.out
              injection hv with z1 _ z3
              subst z1
              subst z3
              obtain ⟨A', q', hv', hA'⟩ := HS4.out
              injection hv' with z1' _ z3'
              subst z1'
              subst z3'
              obtain ⟨b1, o1, rfl, hb1, hc1⟩ := hA (by omega)
              obtain ⟨b2, o2, rfl, hb2, hc2⟩ := hA' (by omega)
              obtain ⟨m1, m2, m3⟩ := hc1 (L.length - 1 - j) _ (List.getElem?_eq_getElem hix)
              obtain ⟨n1, n2, n3⟩ := hc2 (M.length - 1 - j) _ (List.getElem?_eq_getElem hiy)
              have m1' := (hbw.cell (p := ⟨b1, o1 + (L.length - 1 - j) * 3, none⟩) hb1).trans m1
              have m2' := (hbw.cell (p := ⟨b1, o1 + (L.length - 1 - j) * 3 + 1, none⟩) hb1).trans m2
              have m3' := (hbw.cell (p := ⟨b1, o1 + (L.length - 1 - j) * 3 + 2, none⟩) hb1).trans m3
              have n1' := (hbw.cell (p := ⟨b2, o2 + (M.length - 1 - j) * 3, none⟩) hb2).trans n1
              have n2' := (hbw.cell (p := ⟨b2, o2 + (M.length - 1 - j) * 3 + 1, none⟩) hb2).trans n2
              have n3' := (hbw.cell (p := ⟨b2, o2 + (M.length - 1 - j) * 3 + 2, none⟩) hb2).trans n3
              clear m1 m2 m3 n1 n2 n3 hc1 hc2 hA hA'
              have hb1' := Nat.lt_of_lt_of_le hb1 hbw.size
              have hb2' := Nat.lt_of_lt_of_le hb2 hbw.size
              have hps := Hpos.out _ (List.getElem_mem hix)
              have hnum1 : (L.length : Int) - 1 - (j : Int) = ((L.length - 1 - j : Nat) : Int) := by omega
              have hnum2 : (M.length : Int) - 1 - (j : Int) = ((M.length - 1 - j : Nat) : Int) := by omega
              generalize L[L.length - 1 - j] = y at *
              generalize M[M.length - 1 - j] = z at *
              have hcom2 : comL (moveT g) P Q = j + (if moveT g y z = true then 1 + comL (moveT g) (P.drop (j + 1)) (Q.drop (j + 1)) else 0) := hcom
              clear hcom hx1 hy1
              cases hm : moveT g y z with
              | true =>
                rw [if_pos hm] at hcom2
                have Hc := Lib.hid hcom2
                have he := fun W => (tk_equal2 y z ((y.pos : Int) + g) (z.pos : Int) W).trans (by rw [show (decide (y.kind = z.kind) && (decide (y.text.toList = z.text.toList) && decide ((y.pos : Int) + g = (z.pos : Int)))) = true from hm])
                clear hm hcom2
                go_wp2
                go_region
                all_goals (
                  go_wp2
                  go_roundw
                  case rel => exact ⟨j + 1, by omega, by omega, by go_num, by rw [Hc.out]; omega, (by first | exact (hbw.alloc hbw.size _).alloc (by have := hbw.size; simp; omega) _ | exact (hbw.drew.alloc hbw.size _).alloc (by have := hbw.size; simp; omega) _ | exact ((below_draws hbw _).alloc hbw.size _).alloc (by have := hbw.size; simp; omega) _)⟩
                  case measure => simp [intOf]; omega)
              | false =>
                rw [if_neg (by rw [hm]; decide)] at hcom2
                have Hc := Lib.hid (show keptTail s x = j by rw [Ht.out, hcom2]; rfl)
                have he := fun W => (tk_equal2 y z ((y.pos : Int) + g) (z.pos : Int) W).trans (by rw [show (decide (y.kind = z.kind) && (decide (y.text.toList = z.text.toList) && decide ((y.pos : Int) + g = (z.pos : Int)))) = false from hm])
                clear hm hcom2
                go_wp2
                go_region
                all_goals (
                  go_wp2
                  go_ret3
                  exact ⟨by rw [Hh.out, Hc.out, He.out]; rfl, HB4.out.trans (Below.mono (by first | exact (hbw.alloc hbw.size _).alloc (by have := hbw.size; simp; omega) _ | exact (hbw.drew.alloc hbw.size _).alloc (by have := hbw.size; simp; omega) _ | exact ((below_draws hbw _).alloc hbw.size _).alloc (by have := hbw.size; simp; omega) _) HB4.out.size)⟩)
            · have d2 : decide ((j : Int) < (M.length : Int) - (k : Int)) = false := by simp; omega
              have hfin : keptTail s x = j := by
                rw [Ht.out, hcom, List.drop_eq_nil_of_le (show Q.length ≤ j by omega)]
                cases P.drop j <;> rfl
              have Hc := Lib.hid hfin
              clear hfin hcom
              go_wp2
              go_ret3
              exact ⟨by rw [Hh.out, Hc.out, He.out]; rfl, HB4.out.trans (hbw.mono HB4.out.size)⟩
          · have d1 : decide ((j : Int) < (L.length : Int) - (k : Int)) = false := by simp; omega
            have hfin : keptTail s x = j := by
              rw [Ht.out, hcom, List.drop_eq_nil_of_le (show P.length ≤ j by omega)]
              cases Q.drop j <;> rfl
            have Hc := Lib.hid hfin
            clear hfin hcom
            go_wp2
            go_ret3
            exact ⟨by rw [Hh.out, Hc.out, He.out]; rfl, HB4.out.trans (hbw.mono HB4.out.size)⟩

end Go.Proofs.YtocogbllhmiefaaGreatDoor.Lx
