/- LexBack, the walk. -/
import Derived.Test.YtocogbllhmiefaaDoorWalkAQ
namespace Go.Proofs.YtocogbllhmiefaaDoor.Lx
open Go Go.Proofs Go.RowKit Go.Shelf

set_option maxRecDepth 100000 in
set_option maxHeartbeats 16000000 in
theorem lexBack_in (A : Option Addr) (c : Nat) (l : List Ta) (w : World) (hG : Gl w) (hsrc : Src w (.slice A l.length c) l.length (taCells l)) (hl : l.length ≤ 200) (hsh : shortB (l.map Ta.tk) = true) (h0 : tightErr (l.map Ta.tk) = 0) :
    Calls Tryd.prog 7 #[.slice A l.length c] w (AwakeP w) := by
  obtain ⟨i0, hi, hz0, hz1, hz2⟩ := info_parts tk_info
  have hsl := SlTw.of_src hsrc
  have hsx : ∀ x ∈ l.map Ta.tk, x.text.size ≤ 100 := by
    intro x hx
    unfold shortB at hsh
    rw [Bool.and_eq_true, List.all_eq_true] at hsh
    exact of_decide_eq_true (hsh.1 x hx)
  have hte : toksErr (l.map Ta.tk) = 0 ∧ ¬ 2500 < (tightL (l.map Ta.tk)).length := by
    unfold tightErr at h0
    split at h0
    · rename_i h; exact absurd h0 h
    · split at h0
      · exact absurd h0 (by decide)
      · exact ⟨by omega, by assumption⟩
  have hgood : ∀ x ∈ l.map Ta.tk, goodTk x = true := by
    have h := hte.1
    unfold toksErr at h
    split at h
    · exact absurd h (by decide)
    · split at h
      · exact absurd h (by decide)
      · rename_i h2
        exact List.all_eq_true.1 (by simpa using h2)
  have htt : tight (l.map Ta.tk) = ⟨(tightL (l.map Ta.tk)).toArray⟩ := if_pos h0
  obtain ⟨m, t2, t3, t4⟩ := tokens_tight hgood (by rw [List.length_map]; omega) (by omega)
  rw [← htt] at t2
  have hts : (tight (l.map Ta.tk)).size ≤ 2500 := by rw [htt, ← len_list]; show (tightL (l.map Ta.tk)).length ≤ 2500; omega
  have Hless := Lib.hid (fun i h1 h2 => lexBack_less (i := i) htt hgood h1 h2)
  have hshort := fun W h => short_any (.slice A l.length c) (l.map Ta.tk) W h (by rw [List.length_map]; omega) (fun x hx => by have := hsx x hx; omega)
  rw [hsh] at hshort
  have hti := fun v W hv hG' => tight_any v (l.map Ta.tk) W hv (by rw [List.length_map]; omega) (fun x hx => by have := hsx x hx; omega) hG'
  rw [h0] at hti
  have hmap : (l.map Ta.tk).length = l.length := List.length_map _
  have hml : m.length ≤ 200 := by rw [← SameB.length t3, hmap]; exact hl
  have hsb := fun W a b ha hb => sameBut_any a b (l.map Ta.tk) m W ha hb (by rw [hmap]; omega)
  have hsb2 := fun W a b n ha hb => sameBut_any a b (l.map Ta.tk) n W ha hb (by rw [hmap]; omega)
  have HT := Lib.hid (fun i x y => Rise.at_ t4 i x y)
  have T3 := Lib.hid t3
  have HS := Lib.hid hsl
  have Hso := Lib.hid (fun W v (h : Src W v l.length (taCells l)) => SlTw.of_src h)
  have Hsrc := Lib.hid hsrc
  clear hsl hsrc hsh hte hgood htt t3 t4 h0 hsx
  generalize l.map Ta.tk = L at *
  generalize tight L = t at *
  have htk2 := fun W hG' => tokens_any t W (by omega) hG'
  rw [t2] at htk2
  have htk3 := fun W i (hi : i < t.size) hG' => tokens_any (t.extract 0 i ++ t.extract (i + 1) t.size) W (by simp; omega) hG'
  have Hshort := Lib.hid hshort
  have Hti := Lib.hid hti
  have Htk2 := Lib.hid htk2
  have Htk3 := Lib.hid htk3
  have Hsb := Lib.hid hsb
  have Hsb2 := Lib.hid hsb2
  clear hshort hti htk2 htk3 hsb hsb2 t2 hmap
  go_enter Tryd.func7, Tryd.ntmps7
  go_wp2_with (first
    | (go_at_call 34; refine (Hsb.out _ _ _ (HS.out.below hB3) (SlTw.of_tk (SlTk.of_own hown3))).mono ?_; rintro e w4 ⟨r4, rfl, hr4, hb4⟩; obtain rfl := hr4.2 T3.out; clear hr4; have hB4 := hB3.trans (hb4.mono hB3.size))
    | (go_at_call 15; refine (Htk2.out _ (hG.next hB2)).mono ?_; rintro e w3 ⟨v3, rfl, hown3, hb3⟩; have hB3 := hB2.trans (hb3.mono hB2.size); obtain ⟨A3, c3, rfl⟩ := own_form hown3)
    | (go_at_call 33; refine (Hti.out _ _ (Hso.out _ _ (Src.of_own hown1 (by decide))) (hG.next hb1)).mono ?_; rintro e w2 ⟨rfl, hb2⟩; have hB2 := hb1.trans (hb2.mono hb1.size))
    | (at_builtin; refine wpList_copy rfl _ _ 23 rfl 48 i0 _ 3 32 Tryd.underlying23 hi hz0 hz1 hz2 rfl (by decide) rfl _ l.length (taCells l) rfl Hsrc.out (taCells_len l) (taCells_one l) (by unfold maxLen; omega) (by omega) ?_; intro v1 w1 hown1 hb1; obtain ⟨A1, c1, rfl⟩ := own_form hown1)
    | (go_at_call 32; refine (Hshort.out _ HS.out).mono ?_; rintro e w' ⟨rfl, rfl⟩))
  have HG4 := Lib.hid (hG.next hB4)
  have HB4 := Lib.hid hB4
  have HA := Lib.hid ((SlTk.of_own hown3).below hb4)
  have HS4 := Lib.hid (HS.out.below hB4)
  clear hB3 hB4 hb1 hb2 hb3 hb4 hB2 hown1 hown3
  go_loopw [8] (fun i wr => ∃ k : Nat, k ≤ m.length ∧ i = .int .i64 k ∧ Below w4.heap.size w4 wr) (fun i _ => m.length - (intOf i).toNat)
  case atStart => exact ⟨0, Nat.zero_le _, rfl, Below.refl _ _⟩
  case round =>
    obtain ⟨k, hk, rfl, hbw⟩ := hrel
    by_cases hlt : k < m.length
    · obtain ⟨A3', c3', hv, hA⟩ := HA.out
      injection hv with hv1 _ hv3
      subst hv1
      subst hv3
      obtain ⟨b1, o1, rfl, hb1, hc1⟩ := hA (by omega)
      obtain ⟨_, _, p3⟩ := hc1 k _ (List.getElem?_eq_getElem hlt)
      have p3' := (hbw.cell (p := ⟨b1, o1 + k * 3 + 2, none⟩) hb1).trans p3
      clear p3
      by_cases hk0 : k = 0
      · subst hk0
        clear p3' hc1 hA
        go_wp2
        repeat (go_quiet (fail); go_wp2)
        go_roundw
        case rel => exact ⟨1, by omega, by go_num, below_draws hbw _⟩
        case measure => simp [intOf]; omega
      · obtain ⟨k, rfl⟩ : ∃ j, k = j + 1 := ⟨k - 1, by omega⟩
        have hlt2 : k < m.length := by omega
        obtain ⟨_, _, q3⟩ := hc1 k _ (List.getElem?_eq_getElem hlt2)
        have q3' := (hbw.cell (p := ⟨b1, o1 + k * 3 + 2, none⟩) hb1).trans q3
        have hr := HT.out k _ _ (List.getElem?_eq_getElem hlt2) (List.getElem?_eq_getElem hlt)
        clear q3 hc1 hA hk0
        generalize m[k + 1] = x at p3' hr
        generalize m[k] = y at q3' hr
        have hwk : IntKind.i64.wrap (k : Int) = (k : Int) := IntWalk.i64_in _ (by omega)
        have hki : (0 : Int) ≤ (k : Int) := by omega
        have hkl : (k : Int) < (m.length : Int) := by omega
        have e1 : decide ((x.pos : Int) ≤ (y.pos : Int)) = false := by simp; omega
        go_wp2
        repeat (go_quiet (fail); go_wp2)
        go_roundw
        case rel => exact ⟨k + 1 + 1, by omega, by go_num, below_draws hbw _⟩
        case measure => simp [intOf]; omega
    · have HB5 := Lib.hid (HB4.out.trans (hbw.mono HB4.out.size))
      have HS5 := Lib.hid (HS4.out.below hbw)
      go_wp2
      clear hlt hk
      go_loopw [9] (fun i w5 => ∃ k : Nat, k ≤ t.size ∧ i = .int .i64 k ∧ Below wr.heap.size wr w5) (fun i _ => t.size - (intOf i).toNat)
      case atStart => exact ⟨0, Nat.zero_le _, rfl, Below.refl _ _⟩
      case round =>
        obtain ⟨k, hk, rfl, hbq⟩ := hrel
        have HBq := Lib.hid (HB5.out.trans (hbq.mono HB5.out.size))
        by_cases hlt : k < t.size
        · have hc := bt_eq t k hlt
          by_cases hb : bt t k = 32
          · have e1 : ((t[k].toNat : Int) != 32) = false := by rw [hc, hb]; rfl
            have Hl := Lib.hid (Hless.out k hlt hb)
            have Ht := Lib.hid (fun W hG' => Htk3.out W k hlt hG')
            have HS6 := Lib.hid (HS5.out.below hbq)
            have HGq := Lib.hid (fun n => hG.next (below_draws HBq.out n))
            have a1 := fun W => run_string_add_sum (P := Tryd.prog) W (t.extract 0 k) (t.extract (k + 1) t.size) (by simp; omega)
            generalize t.extract 0 k ++ t.extract (k + 1) t.size = u at *
            have b1 : (k : Int) + 1 ≤ (t.size : Int) := by omega
            have b2 : k + 1 ≤ t.size := by omega
            have b3 : k ≤ t.size := by omega
            have b4 : ((k : Int) + 1).toNat = k + 1 := by omega
            have b5 : IntKind.i64.wrap ((k : Int) + 1) = (k : Int) + 1 := IntWalk.i64_in _ (by omega)
            clear hb hc
            go_wp2
            go_region_with (go_at_call 15; refine (Ht.out _ (by first | exact hG.next HBq.out | exact hG.next HBq.out.drew | exact HGq.out _)).mono ?_; rintro e w6 ⟨v6, rfl, hown6, hb6⟩; obtain ⟨A6, c6, rfl⟩ := own_form hown6)
            all_goals (
              have hb7 := hbq.drew.trans (hb6.mono hbq.size)
              have hs7 := HS6.out.below ((Below.refl _ _).drew.trans hb6)
              have ht7 := SlTw.of_tk (SlTk.of_own hown6)
              have Hs7 := Lib.hid hs7
              have Ht7 := Lib.hid ht7
              clear hs7 ht7 hown6
              generalize (tokens u).1 = nn at *
              generalize (tokens u).2.2 = te at *
              generalize (tokens u).2.1 = tp at *
              by_cases hz : te = 0
              · subst hz
                have Hl2 := Lib.hid (Hl.out rfl)
                go_wp2_with (go_at_call 34; refine (Hsb2.out _ _ _ _ Hs7.out Ht7.out).mono ?_; rintro e w7 ⟨r7, rfl, hr7, hb8⟩; obtain rfl : r7 = false := Bool.eq_false_iff.2 (fun h => Hl2.out (hr7.1 h)); clear hr7)
                go_roundw
                case rel => exact ⟨k + 1, by omega, by go_num, hb7.trans (hb8.mono hb7.size)⟩
                case measure => simp [intOf]; omega
              · have e2 : ((te : Int) == 0) = false := by simp; omega
                go_wp2
                go_roundw
                case rel => exact ⟨k + 1, by omega, by go_num, hb7⟩
                case measure => simp [intOf]; omega)
          · have e1 : ((t[k].toNat : Int) != 32) = true := by rw [hc]; simp; omega
            clear hb hc
            go_wp2
            go_roundw
            case rel => exact ⟨k + 1, by omega, by go_num, hbq⟩
            case measure => simp [intOf]; omega
        · go_wp2_with (go_at_call 14; refine (awake_any _ (hG.next HBq.out)).mono ?_; rintro e w6 ⟨rfl, hb6⟩)
          go_ret
          exact ⟨rfl, HBq.out.trans (hb6.mono HBq.out.size)⟩

end Go.Proofs.YtocogbllhmiefaaDoor.Lx
