/- LexFar: tokens that end before the byte in front of a splice stay, and those that begin behind the line of its end. -/
import Derived.Test.YtocogbllhmiefaaDoorWalkAX
import Derived.Test.YtocogbllhmiefaaDoorWalkAP
namespace Go.Proofs.YtocogbllhmiefaaDoor.Lx
open Go Go.Proofs Go.RowKit Go.Shelf

theorem box_cells {w w1 : World} {x y z : Value} {t : TypeId} (hb : Below (w.alloc (.cells #[x, y, z] t)).heap.size (w.alloc (.cells #[x, y, z] t)) w1) :
    Below w.heap.size w w1 ∧ w1.cell? ⟨w.heap.size, 0, none⟩ = some x ∧ w1.cell? ⟨w.heap.size, 1, none⟩ = some y ∧ w1.cell? ⟨w.heap.size, 2, none⟩ = some z ∧ w.heap.size < w1.heap.size := by
  have hsz : (w.alloc (.cells #[x, y, z] t)).heap.size = w.heap.size + 1 := alloc_sz _ _
  have hlt : w.heap.size < (w.alloc (.cells #[x, y, z] t)).heap.size := by rw [hsz]; exact Nat.lt_succ_self _
  exact ⟨((Below.refl _ _).alloc (Nat.le_refl _) _).trans (hb.mono (by omega)), (hb.cell (p := ⟨w.heap.size, 0, none⟩) hlt).trans (cell_new w _ _ 0), (hb.cell (p := ⟨w.heap.size, 1, none⟩) hlt).trans (cell_new w _ _ 1), (hb.cell (p := ⟨w.heap.size, 2, none⟩) hlt).trans (cell_new w _ _ 2), Nat.lt_of_lt_of_le hlt hb.size⟩

theorem ends_snoc (F : Nat) (l : List Tk) (x : Tk) : endsB F (l ++ [x]) = if x.pos + x.text.size < F then endsB F l + 1 else endsB F l := by
  unfold endsB
  rw [List.filter_append, List.length_append]
  by_cases h : x.pos + x.text.size < F
  · rw [if_pos h, List.filter_cons_of_pos (by simpa using h)]; rfl
  · rw [if_neg h, List.filter_cons_of_neg (by simpa using h)]; rfl
theorem behind_snoc (L : Nat) (l : List Tk) (x : Tk) : behindB L (l ++ [x]) = if L < x.pos then behindB L l + 1 else behindB L l := by
  unfold behindB
  rw [List.filter_append, List.length_append]
  by_cases h : L < x.pos
  · rw [if_pos h, List.filter_cons_of_pos (by simpa using h)]; rfl
  · rw [if_neg h, List.filter_cons_of_neg (by simpa using h)]; rfl
theorem take_snoc {l : List Tk} {k : Nat} {x : Tk} (h : l[k]? = some x) : l.take (k + 1) = l.take k ++ [x] := by
  rw [List.take_add_one, h]; rfl
theorem ends_le (F : Nat) (l : List Tk) : endsB F l ≤ l.length := List.length_filter_le _ _
theorem behind_le (F : Nat) (l : List Tk) : behindB F l ≤ l.length := List.length_filter_le _ _

set_option maxRecDepth 100000 in
set_option maxHeartbeats 8000000 in
theorem lexFar_in (s tx : ByteArray) (lo hi : Nat) (w : World) (hG : Gl w) (hs : s.size ≤ 3000) (hx : tx.size ≤ 3000) (h0 : keptErr s ⟨(lo : Int), (hi : Int), tx⟩ = 0) :
    Calls Tryd.prog 10 #[.string s, .agg #[.int .i64 (lo : Int), .int .i64 (hi : Int), .string tx]] w (AwakeP w) := by
  have hke := fun W hG' => kept_any s ⟨(lo : Int), (hi : Int), tx⟩ W (by omega) (show tx.size ≤ 100000 by omega) hG'
  unfold KeptP at hke
  rw [h0] at hke
  obtain ⟨e1, e2, e3⟩ := kept_parts h0
  have hts : (applied s [⟨(lo : Int), (hi : Int), tx⟩]).size ≤ 2500 := (text_ok (text_after e1).1).1
  have hap := fun W a ha => apply_any s a [⟨(lo : Int), (hi : Int), tx⟩] W (by omega) ha (by simp) (by simp; omega)
  rw [e1] at hap
  have htk1 := fun W hG' => tokens_any s W (by omega) hG'
  have htk2 := fun W hG' => tokens_any (applied s [⟨(lo : Int), (hi : Int), tx⟩]) W (by omega) hG'
  rw [e2] at htk1
  rw [e3] at htk2
  have hn1 := (tokens_parts e2).2.2.2.2
  have hn2 := (tokens_parts e3).2.2.2.2
  have hpos : ∀ y ∈ (tokens s).1, y.pos ≤ 3000 := by
    intro y hy
    rw [(tokens_parts e2).2.1] at hy
    have := toks_lt s _ 0 (Nat.le_refl _) y hy
    omega
  have htxt : ∀ y ∈ (tokens s).1, y.text.size ≤ 3000 := fun y hy => Nat.le_trans (tokens_text e2 y hy) hs
  obtain ⟨lo', hi', q1, q2, q3, q4, -⟩ := one_splice e1
  have q3' : lo ≤ hi := by
    have a1 : (lo : Int) = lo' := q1
    have a2 : (hi : Int) = hi' := q2
    omega
  have q4' : hi ≤ s.size := by
    have a2 : (hi : Int) = hi' := q2
    omega
  have hfh : endsB lo (tokens s).1 ≤ keptHead s ⟨(lo : Int), (hi : Int), tx⟩ := far_head h0
  have hft := fun L h1 h2 h3 => far_tail (L := L) h0 h1 h2 h3
  have hsum := kept_sum s ⟨(lo : Int), (hi : Int), tx⟩
  have Hlit : Hid (∀ W : World, SlSp (W.alloc (.cells #[.int .i64 (lo : Int), .int .i64 (hi : Int), .string tx] 55)) (.slice (some ⟨W.heap.size, 0, none⟩) 1 1) [⟨(lo : Int), (hi : Int), tx⟩]) := fun W => SlSp.lit W [⟨(lo : Int), (hi : Int), tx⟩] 1
  generalize keptHead s ⟨(lo : Int), (hi : Int), tx⟩ = hd at *
  generalize keptTail s ⟨(lo : Int), (hi : Int), tx⟩ = tl at *
  generalize applied s [⟨(lo : Int), (hi : Int), tx⟩] = t at *
  generalize (tokens s).1 = L at *
  generalize (tokens t).1 = M at *
  generalize (tokens s).2.1 = p1 at *
  generalize (tokens t).2.1 = p2 at *
  obtain ⟨hs1, hs2⟩ := hsum
  have Hke := Lib.hid hke
  have Hap := Lib.hid hap
  have Htk1 := Lib.hid htk1
  have Htk2 := Lib.hid htk2
  have Hpos := Lib.hid hpos
  have Htxt := Lib.hid htxt
  have Hfh := Lib.hid hfh
  have Hft := Lib.hid (show ∀ F : Nat, hi ≤ F → F ≤ s.size → (F < s.size → bt s F = 10) → min (min (behindB F L) (L.length - hd)) (M.length - hd) ≤ tl from fun F h1 h2 h3 => hft F (Int.ofNat_le.2 h1) h2 h3)
  have Hb0 := Lib.hid ((Below.refl w.heap.size w).alloc (Nat.le_refl _) (.cells #[.int .i64 (lo : Int), .int .i64 (hi : Int), .string tx] 55))
  clear hke hap htk1 htk2 hpos htxt hfh hft q1 q2 q3 q4 e1 e2 e3 h0
  go_enter Tryd.func10, Tryd.ntmps10
  go_wp2_with (first
    | (go_at_call 15; refine (Htk2.out _ (hG.next hB3)).mono ?_; rintro e w4 ⟨v4, rfl, hown4, hb4⟩; have hB4 := hB3.trans (hb4.mono hB3.size); obtain ⟨A4, c4, rfl⟩ := own_form hown4; obtain ⟨-, u0, u1, u2, hbx⟩ := box_cells (((hk2.trans (hb3.mono hk2.size)).trans (hb4.mono (Nat.le_trans hk2.size hb3.size)))); have hS3 := (SlTk.of_own hown3).below hb4)
    | (go_at_call 15; refine (Htk1.out _ (hG.next hB2)).mono ?_; rintro e w3 ⟨v3, rfl, hown3, hb3⟩; have hB3 := hB2.trans (hb3.mono hB2.size); obtain ⟨A3, c3, rfl⟩ := own_form hown3)
    | (go_at_call 21; refine (Hap.out _ _ (Hlit.out w1)).mono ?_; rintro e w2 ⟨rfl, hb2⟩; have hk2 := (hb1.alloc hb1.size (.cells #[.int .i64 (lo : Int), .int .i64 (hi : Int), .string tx] 55)).trans (hb2.mono (by have := hb1.size; rw [alloc_sz w1]; omega)); have hB2 := Hb0.out.trans (hk2.mono Hb0.out.size))
    | (go_at_call 37; refine (Hke.out _ (hG.next Hb0.out)).mono ?_; rintro e w1 ⟨rfl, hb1⟩; obtain ⟨hB1, c0, c1, c2, hbx1⟩ := box_cells hb1))
  have HS3 := Lib.hid hS3
  have HB4 := Lib.hid hB4
  have hz4 := hB4.size
  clear hbx1 hB1 hB2 hB3 hB4 hb1 hb2 hb3 hb4 hk2 hown3 hown4 hS3 c0 c1 c2
  go_loop [15] (fun i => ∃ k : Nat, hi ≤ k ∧ k ≤ s.size ∧ i = .int .i64 (k : Int)) (fun i => s.size - (intOf i).toNat)
  case atStart => exact ⟨hi, Nat.le_refl _, q4', rfl⟩
  case round =>
    obtain ⟨k, hk1, hk2, rfl⟩ := hrel
    by_cases hcont : ∃ h : k < s.size, bt s k ≠ 10
    · obtain ⟨hlt, hb⟩ := hcont
      have hc := bt_eq s k hlt
      have e1 : ((s[k].toNat : Int) != 10) = true := by rw [hc]; simp; omega
      clear hc hb
      go_wp2
      go_round
      case rel => exact ⟨k + 1, by omega, by omega, by go_num⟩
      case measure => simp [intOf]; omega
    · have hL : k < s.size → bt s k = 10 := fun h => by
        by_cases hb : bt s k = 10
        · exact hb
        · exact absurd ⟨h, hb⟩ hcont
      have Hfar := Lib.hid (Hft.out k hk1 hk2 hL)
      clear hcont
      have hex : ¬ k < s.size ∨ ∃ h : k < s.size, ((s[k].toNat : Int) != 10) = false := by
        by_cases h : k < s.size
        · exact .inr ⟨h, by rw [bt_eq s k h, hL h]; rfl⟩
        · exact .inl h
      clear hL
      rcases hex with hex | ⟨hlt, e1⟩
      all_goals (
        go_wp2
        go_loopw [16, 17, 18] (fun b1 b2 i wr => ∃ j : Nat, j ≤ L.length ∧ i = .int .i64 (j : Int) ∧ b1 = .int .i64 (endsB lo (L.take j) : Nat) ∧ b2 = .int .i64 (behindB k (L.take j) : Nat) ∧ Below w4.heap.size w4 wr) (fun _ _ i _ => L.length - (intOf i).toNat)
        case atStart => exact ⟨0, Nat.zero_le _, rfl, rfl, rfl, Below.refl _ _⟩
        case round =>
          obtain ⟨j, hj, rfl, rfl, rfl, hbw⟩ := hrel
          by_cases hlt2 : j < L.length
          · obtain ⟨A, q, hv, hA⟩ := HS3.out
            injection hv with z1 _ z3
            subst z1
            subst z3
            obtain ⟨b1, o1, rfl, hb1, hc1⟩ := hA (by omega)
            obtain ⟨m1, m2, m3⟩ := hc1 j _ (List.getElem?_eq_getElem hlt2)
            have m2' := (hbw.cell (p := ⟨b1, o1 + j * 3 + 1, none⟩) hb1).trans m2
            have m3' := (hbw.cell (p := ⟨b1, o1 + j * 3 + 2, none⟩) hb1).trans m3
            have u0' := (hbw.cell (p := ⟨w.heap.size, 0, none⟩) hbx).trans u0
            have hp := Hpos.out _ (List.getElem_mem hlt2)
            have ht := Htxt.out _ (List.getElem_mem hlt2)
            have htk := take_snoc (List.getElem?_eq_getElem hlt2)
            have hle1 := ends_le lo (L.take j)
            have hle2 := behind_le k (L.take j)
            have hlj : (L.take j).length = j := by rw [List.length_take]; omega
            rw [hlj] at hle1 hle2
            generalize L[j] = y at *
            have He1 := Lib.hid (show endsB lo (L.take (j + 1)) = if y.pos + y.text.size < lo then endsB lo (L.take j) + 1 else endsB lo (L.take j) by rw [htk, ends_snoc])
            have He2 := Lib.hid (show behindB k (L.take (j + 1)) = if k < y.pos then behindB k (L.take j) + 1 else behindB k (L.take j) by rw [htk, behind_snoc])
            generalize endsB lo (L.take j) = eb at *
            generalize behindB k (L.take j) = bb at *
            clear m1 m2 m3 hc1 hA htk hlj
            by_cases ha : y.pos + y.text.size < lo
            · have ea : decide ((y.pos : Int) + (y.text.size : Int) < (lo : Int)) = true := by simp; omega
              have He1' := Lib.hid (He1.out.trans (if_pos ha))
              by_cases hb : k < y.pos
              · exfalso; omega
              · have He2' := Lib.hid (He2.out.trans (if_neg hb))
                go_wp2
                repeat (go_quiet (fail); go_wp2)
                go_roundw
                case rel => exact ⟨j + 1, by omega, by go_num, by rw [He1'.out]; go_num, by rw [He2'.out], below_draws hbw _⟩
                case measure => simp [intOf]; omega
            · have ea : decide ((y.pos : Int) + (y.text.size : Int) < (lo : Int)) = false := by simp; omega
              have He1' := Lib.hid (He1.out.trans (if_neg ha))
              by_cases hb : k < y.pos
              · have He2' := Lib.hid (He2.out.trans (if_pos hb))
                go_wp2
                repeat (go_quiet (fail); go_wp2)
                go_roundw
                case rel => exact ⟨j + 1, by omega, by go_num, by rw [He1'.out], by rw [He2'.out]; go_num, below_draws hbw _⟩
                case measure => simp [intOf]; omega
              · have He2' := Lib.hid (He2.out.trans (if_neg hb))
                go_wp2
                repeat (go_quiet (fail); go_wp2)
                go_roundw
                case rel => exact ⟨j + 1, by omega, by go_num, by rw [He1'.out], by rw [He2'.out], below_draws hbw _⟩
                case measure => simp [intOf]; omega
          · have hlj : L.take j = L := List.take_of_length_le (by omega)
            have hB5 := HB4.out.trans (hbw.mono HB4.out.size)
            have HB5 := Lib.hid hB5
            have f1 : (endsB lo (L.take j) : Int) ≤ (hd : Int) := by rw [hlj]; exact Int.ofNat_le.2 Hfh.out
            have f2 := Hfar.out
            rw [← hlj] at f2
            rw [hlj] at f2
            have f2' : (min (min (behindB k (L.take j)) (L.length - hd)) (M.length - hd)) ≤ tl := by rw [hlj]; exact f2
            generalize endsB lo (L.take j) = eb at *
            generalize behindB k (L.take j) = bb at *
            clear hlj hB5 f2
            have g2 : min (min (bb : Int) ((L.length : Int) - (hd : Int))) ((M.length : Int) - (hd : Int)) ≤ (tl : Int) := by omega
            have g3 : (hd : Int) + (tl : Int) ≤ (L.length : Int) := by omega
            have g4 : (hd : Int) + (tl : Int) ≤ (M.length : Int) := by omega
            go_wp2_with (go_at_call 14; refine (awake_any _ (hG.next HB5.out)).mono ?_; rintro e w6 ⟨rfl, hb6⟩)
            all_goals (
              go_ret
              exact ⟨rfl, HB5.out.trans (hb6.mono HB5.out.size)⟩))

end Go.Proofs.YtocogbllhmiefaaDoor.Lx
