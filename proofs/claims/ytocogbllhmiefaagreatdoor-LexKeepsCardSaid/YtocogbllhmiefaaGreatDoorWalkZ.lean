/- Splices as the document's own functions treat them: their error, and the text after them. -/
import Derived.Test.YtocogbllhmiefaaGreatDoorWalkY
namespace Go.Proofs.YtocogbllhmiefaaGreatDoor.Lx
open Go Go.Proofs Go.RowKit Go.Shelf

/-- The error of splices for a text that has none. -/
def splOnly (s : ByteArray) (l : List Sp) : Nat :=
  if 40 < l.length then 5 else if right s.size l = false then 3
  else if l.any (fun x => (bad x.text).isSome) then 2 else if 2500 < (s.size : Int) + total (eds s l) then 5 else 0
theorem splOnly_ok {s : ByteArray} {l : List Sp} (h : (textErr s).2 = 0) : splErr s l = splOnly s l := by unfold splErr splOnly; rw [if_neg (by simp [h])]
theorem splOnly_many {s : ByteArray} {l : List Sp} (h : 40 < l.length) : splOnly s l = 5 := if_pos h
theorem splOnly_wrong {s : ByteArray} {l : List Sp} (h : ¬ 40 < l.length) (h2 : right s.size l = false) : splOnly s l = 3 := by unfold splOnly; rw [if_neg h, if_pos h2]
theorem splOnly_stray {s : ByteArray} {l : List Sp} (h : ¬ 40 < l.length) (h2 : right s.size l = true) (h3 : l.any (fun x => (bad x.text).isSome) = true) : splOnly s l = 2 := by
  unfold splOnly; rw [if_neg h, if_neg (by simp [h2]), if_pos h3]
theorem splOnly_long {s : ByteArray} {l : List Sp} (h : ¬ 40 < l.length) (h2 : right s.size l = true) (h3 : l.any (fun x => (bad x.text).isSome) = false) (h4 : 2500 < (s.size : Int) + total (eds s l)) : splOnly s l = 5 := by
  unfold splOnly; rw [if_neg h, if_neg (by simp [h2]), if_neg (by simp [h3]), if_pos h4]
theorem splOnly_fine {s : ByteArray} {l : List Sp} (h : ¬ 40 < l.length) (h2 : right s.size l = true) (h3 : l.any (fun x => (bad x.text).isSome) = false) (h4 : ¬ 2500 < (s.size : Int) + total (eds s l)) : splOnly s l = 0 := by
  unfold splOnly; rw [if_neg h, if_neg (by simp [h2]), if_neg (by simp [h3]), if_neg h4]
theorem any_at {l : List Sp} {k : Nat} (hk : k < l.length) (h : bad l[k].text ≠ none) : l.any (fun x => (bad x.text).isSome) = true := by
  refine List.any_eq_true.2 ⟨_, List.getElem_mem hk, ?_⟩
  cases hb : bad l[k].text with
  | none => exact absurd hb h
  | some n => rfl
theorem any_none {l : List Sp} (h : ∀ k, (hk : k < l.length) → bad l[k].text = none) : l.any (fun x => (bad x.text).isSome) = false := by
  refine List.any_eq_false.2 fun x hx => ?_
  obtain ⟨k, hk, rfl⟩ := List.mem_iff_getElem.1 hx
  simp [h k hk]

set_option maxRecDepth 100000 in
set_option maxHeartbeats 8000000 in
theorem splicesError_any (s : ByteArray) (a : Value) (l : List Sp) (w : World) (hs : s.size ≤ 100000) (ha : SlSp w a l) (hl : l.length ≤ 100000) (ht : ∀ x ∈ l, x.text.size ≤ 100000) :
    Calls Tryz.prog 76 #[.string s, a] w fun e w' => e = .returned (.int .i64 (splOnly s l : Int)) ∧ Below w.heap.size w w' := by
  obtain ⟨A, ca, rfl, hA⟩ := ha
  by_cases h40 : 40 < l.length
  · have Hf := Lib.hid (splOnly_many (s := s) h40)
    go_enter Tryz.func76, Tryz.ntmps76
    go_wp2
    go_ret
    exact ⟨ret_int (by rw [Hf.out]; rfl), Below.refl _ _⟩
  · have h41 : l.length ≤ 40 := by omega
    have H40 := Lib.hid h40
    clear h40 hl
    go_enter Tryz.func76, Tryz.ntmps76
    go_wp2
    go_loopw [5, 6] (fun t i wr => ∃ (k : Nat) (a : Int), k ≤ l.length ∧ i = .int .i64 k ∧ t = .int .i64 a ∧ right s.size l = rightFrom s.size a (l.drop k) ∧ Below w.heap.size w wr) (fun _ i _ => l.length - (intOf i).toNat)
    case atStart => exact ⟨0, 0, Nat.zero_le _, rfl, rfl, rfl, Below.refl _ _⟩
    case round =>
      obtain ⟨k, at_, hk, rfl, rfl, hr, hbw⟩ := hrel
      have Hr := Lib.hid hr
      clear hr
      by_cases hlt : k < l.length
      · obtain ⟨b1, o1, rfl, hb1, hc1⟩ := hA (by omega)
        obtain ⟨p1, p2, p3⟩ := hc1 k _ (List.getElem?_eq_getElem hlt)
        have p1' := (hbw.cell (p := ⟨b1, o1 + k * 3, none⟩) hb1).trans p1
        have p2' := (hbw.cell (p := ⟨b1, o1 + k * 3 + 1, none⟩) hb1).trans p2
        clear p1 p2 p3 hc1 hA
        have hd : l.drop k = l[k] :: l.drop (k + 1) := List.drop_eq_getElem_cons hlt
        have Hd := Lib.hid hd
        clear hd
        generalize l[k] = x at p1' p2' Hd
        by_cases hok : at_ ≤ x.lo ∧ x.lo ≤ x.hi ∧ x.hi ≤ (s.size : Int)
        · obtain ⟨g1, g2, g3⟩ := hok
          have hstep : rightFrom s.size at_ (x :: l.drop (k + 1)) = rightFrom s.size x.hi (l.drop (k + 1)) := by
            rw [rightFrom, decide_eq_false (by omega), decide_eq_false (by omega), decide_eq_false (by omega)]; rfl
          have Hs := Lib.hid hstep
          clear hstep
          have e1 : decide (x.lo < at_) = false := by simp; omega
          have e2 : decide (x.hi < x.lo) = false := by simp; omega
          have e3 : decide ((s.size : Int) < x.hi) = false := by simp; omega
          go_wp2
          go_quiet (fail)
          go_wp2
          go_roundw
          case rel => exact ⟨k + 1, x.hi, by omega, by go_num, rfl, by rw [Hr.out, Hd.out, Hs.out], below_draws hbw _⟩
          case measure => simp [intOf]; omega
        · have hstep : rightFrom s.size at_ (x :: l.drop (k + 1)) = false := by
            rw [rightFrom]
            by_cases g1 : x.lo < at_
            · rw [decide_eq_true g1]; rfl
            · by_cases g2 : x.hi < x.lo
              · rw [decide_eq_false g1, decide_eq_true g2]; rfl
              · rw [decide_eq_false g1, decide_eq_false g2, decide_eq_true (show (s.size : Int) < x.hi by omega)]; rfl
          have Hs := Lib.hid (splOnly_wrong H40.out (Hr.out.trans (by rw [Hd.out]; exact hstep)))
          clear hstep
          by_cases g1 : x.lo < at_
          · clear hok
            have e1 : decide (x.lo < at_) = true := by simp; omega
            go_wp2
            go_quiet (fail)
            go_wp2
            go_ret
            exact ⟨ret_int (by rw [Hs.out]; rfl), below_draws hbw _⟩
          · by_cases g2 : x.hi < x.lo
            · clear hok
              have e1 : decide (x.lo < at_) = false := by simp; omega
              have e2 : decide (x.hi < x.lo) = true := by simp; omega
              go_wp2
              go_quiet (fail)
              go_wp2
              go_ret
              exact ⟨ret_int (by rw [Hs.out]; rfl), below_draws hbw _⟩
            · have g3 : (s.size : Int) < x.hi := by omega
              clear hok
              have e1 : decide (x.lo < at_) = false := by simp; omega
              have e2 : decide (x.hi < x.lo) = false := by simp; omega
              have e3 : decide ((s.size : Int) < x.hi) = true := by simp; omega
              go_wp2
              go_quiet (fail)
              go_wp2
              go_ret
              exact ⟨ret_int (by rw [Hs.out]; rfl), below_draws hbw _⟩
      · have hright : right s.size l = true := by rw [Hr.out, List.drop_of_length_le (by omega)]; rfl
        have Hri := Lib.hid hright
        clear Hr
        go_wp2
        go_loopw [7, 8] (fun t i w2 => ∃ (k : Nat) (a m g : Int), k ≤ l.length ∧ i = .int .i64 k ∧ t = .int .i64 m ∧ 0 ≤ a ∧ rightFrom s.size a (l.drop k) = true ∧ total (eds s l) = m + total (edsFrom s g (l.drop k)) ∧ -(k * 1000000 : Int) ≤ m ∧ m ≤ (k * 1000000 : Int) ∧
          (∀ j, j < k → (hj : j < l.length) → bad l[j].text = none) ∧ Below w.heap.size w w2) (fun _ i _ => l.length - (intOf i).toNat)
        case atStart => exact ⟨0, 0, 0, 0, Nat.zero_le _, rfl, rfl, by omega, hright, by rw [List.drop_zero]; unfold eds; omega, by omega, by omega, fun j h => absurd h (by omega), hbw⟩
        case round =>
          clear hright
          obtain ⟨k, at_, m, g, hk, rfl, rfl, h0, hr, hT, hm1, hm2, hbad, hbq⟩ := hrel
          have HT := Lib.hid hT
          have Hbad := Lib.hid hbad
          clear hT hbad
          by_cases hlt : k < l.length
          · obtain ⟨b1, o1, rfl, hb1, hc1⟩ := hA (by omega)
            obtain ⟨p1, p2, p3⟩ := hc1 k _ (List.getElem?_eq_getElem hlt)
            have p1' := (hbq.cell (p := ⟨b1, o1 + k * 3, none⟩) hb1).trans p1
            have p2' := (hbq.cell (p := ⟨b1, o1 + k * 3 + 1, none⟩) hb1).trans p2
            have p3' := (hbq.cell (p := ⟨b1, o1 + k * 3 + 2, none⟩) hb1).trans p3
            clear p1 p2 p3 hc1 hA
            have htx := ht _ (List.getElem_mem hlt)
            have hd : l.drop k = l[k] :: l.drop (k + 1) := List.drop_eq_getElem_cons hlt
            rw [hd] at hr
            obtain ⟨q1, q2, q3, hr'⟩ := rightFrom_cons hr
            have Hr' := Lib.hid hr'
            have Hd := Lib.hid hd
            have Hany := Lib.hid (fun h => splOnly_stray H40.out Hri.out (any_at hlt h))
            have Hbx := Lib.hid (show ∀ (h : bad l[k].text = none) j, j < k + 1 → (hj : j < l.length) → bad l[j].text = none from fun h j hj hjl => by
              rcases Nat.lt_succ_iff_lt_or_eq.1 hj with h5 | rfl
              · exact Hbad.out j h5 hjl
              · exact h)
            clear hd hr hr'
            generalize l[k] = x at p1' p2' p3' htx q1 q2 q3 Hd Hr' Hany Hbx
            obtain ⟨xlo, xhi, xt⟩ := x
            dsimp only at p1' p2' p3' htx q1 q2 q3 Hr' Hany Hbx
            obtain ⟨lo, rfl⟩ := Int.eq_ofNat_of_zero_le (show 0 ≤ xlo by omega)
            obtain ⟨hi_, rfl⟩ := Int.eq_ofNat_of_zero_le (show 0 ≤ xhi by omega)
            have hesz : ((s.extract lo hi_).size : Int) = (hi_ : Int) - lo := by simp; omega
            have HE := Lib.hid (show total (eds s l) = m + ((xt.size : Int) - ((hi_ : Int) - lo)) + total (edsFrom s (g + ((xt.size : Int) - ((hi_ : Int) - lo))) (l.drop (k + 1))) by
              rw [HT.out, Hd.out, ed_cons, total_cons, grow_mk]
              simp only [Int.toNat_natCast, hesz]
              omega)
            clear hesz
            obtain ⟨wo, rfl⟩ : ∃ wo : World, wo = wr := ⟨_, rfl⟩
            go_wp2
            go_loop [9] (fun i => ∃ j : Nat, j ≤ xt.size ∧ i = .int .i64 j ∧ ∀ q, q < j → okb (bt xt q) = true) (fun i => xt.size - (intOf i).toNat)
            case atStart => exact ⟨0, Nat.zero_le _, rfl, fun j h => absurd h (by omega)⟩
            case round =>
              obtain ⟨j, hj, rfl, hn⟩ := hrel
              have Hn := Lib.hid hn
              clear hn
              by_cases hjt : j < xt.size
              · have hc := bt_eq xt j hjt
                have Hc := Lib.hid hc
                clear hc
                cases ho : okb xt[j].toNat
                · have Ho := Lib.hid ho
                  clear ho
                  go_wp2_with (go_at_call 68; refine (isByte_any _ (UInt8.toNat_lt _) _).mono ?_; rw [Ho.out]; rintro e w' ⟨rfl, rfl⟩)
                  go_ret
                  rw [Hc.out] at Ho
                  exact ⟨ret_int (by rw [Hany.out (by rw [bad_hit xt j hjt Hn.out Ho.out]; simp)]; rfl), hbq⟩
                · have Ho := Lib.hid ho
                  clear ho
                  go_wp2_with (go_at_call 68; refine (isByte_any _ (UInt8.toNat_lt _) _).mono ?_; rw [Ho.out]; rintro e w' ⟨rfl, rfl⟩)
                  rw [Hc.out] at Ho
                  go_round
                  case rel =>
                    refine ⟨j + 1, by omega, by go_num, fun q hq => ?_⟩
                    rcases Nat.lt_succ_iff_lt_or_eq.1 hq with h | rfl
                    · exact Hn.out q h
                    · exact Ho.out
                  case measure => simp [intOf]; omega
              · have Hb0 := Lib.hid (bad_none xt (fun q hq => Hn.out q (by omega)))
                go_wp2
                go_quiet (fail)
                go_wp2
                go_roundw
                case rel => exact ⟨k + 1, (hi_ : Int), m + ((xt.size : Int) - ((hi_ : Int) - lo)), _, by omega, by go_num, rfl, by omega, Hr'.out, HE.out, by omega, by omega, Hbx.out Hb0.out, below_draws hbq _⟩
                case measure => simp [intOf]; omega
          · have hT2 : total (eds s l) = m := by rw [HT.out, List.drop_of_length_le (by omega)]; simp [ed_nil, total]
            have HT2 := Lib.hid hT2
            have Hn0 := Lib.hid (any_none (l := l) (fun j hj => Hbad.out j (by omega) hj))
            clear hT2
            by_cases hbig : 2500 < (s.size : Int) + m
            · have Hf := Lib.hid (splOnly_long H40.out Hri.out Hn0.out (by rw [HT2.out]; exact hbig))
              go_wp2
              go_ret
              exact ⟨ret_int (by rw [Hf.out]; rfl), hbq⟩
            · have Hf := Lib.hid (splOnly_fine H40.out Hri.out Hn0.out (by rw [HT2.out]; exact hbig))
              go_wp2
              go_ret
              exact ⟨ret_int (by rw [Hf.out]; rfl), hbq⟩

theorem check_any (s : ByteArray) (a : Value) (l : List Sp) (w : World) (hs : s.size ≤ 100000) (ha : SlSp w a l) (hl : l.length ≤ 100000) (ht : ∀ x ∈ l, x.text.size ≤ 100000) :
    Calls Tryz.prog 49 #[.string s, a] w fun e w' => e = .returned (.int .i64 (splErr s l : Int)) ∧ Below w.heap.size w w' := by
  have Hsp := Lib.hid (splicesError_any s a l w hs ha hl ht)
  by_cases h0 : (textErr s).2 = 0
  · have Hf := Lib.hid (splOnly_ok (l := l) h0)
    have H0 := Lib.hid h0
    clear h0
    go_enter Tryz.func49, Tryz.ntmps49
    go_wp2_with (first
      | (go_at_call 31; refine (refTextError_any _ _ (by assumption)).mono ?_; rintro e w' ⟨rfl, rfl⟩; rw [H0.out])
      | (go_at_call 76; refine Hsp.out.mono ?_; rintro e w1 ⟨rfl, hb1⟩))
    go_ret
    exact ⟨ret_int (by rw [Hf.out]), hb1⟩
  · have ht : (((textErr s).2 : Int) != 0) = true := by simp; omega
    have Hf := Lib.hid (splErr_text (l := l) h0)
    clear h0
    go_enter Tryz.func49, Tryz.ntmps49
    go_wp2_with (go_at_call 31; refine (refTextError_any _ _ (by assumption)).mono ?_; rintro e w' ⟨rfl, rfl⟩)
    go_ret
    exact ⟨ret_int (by rw [Hf.out]), Below.refl _ _⟩

theorem str_of_list {o x : ByteArray} (h : o.data.toList = x.data.toList) : o = x := by
  obtain ⟨⟨a⟩⟩ := o
  obtain ⟨⟨b⟩⟩ := x
  simpa using h
theorem app_list (o x : ByteArray) : (o ++ x).data.toList = o.data.toList ++ x.data.toList := by simp [ByteArray.data_append]
theorem app_size (o x : ByteArray) : (o ++ x).size = o.size + x.size := by simp

set_option maxRecDepth 100000 in
set_option maxHeartbeats 4000000 in
theorem spliced_any (s : ByteArray) (a : Value) (l : List Sp) (w : World) (hs : s.size ≤ 100000) (ha : SlSp w a l) (hl : l.length ≤ 1000) (ht : ∀ x ∈ l, x.text.size ≤ 100000) (hr : right s.size l = true) :
    Calls Tryz.prog 50 #[.string s, a] w fun e w' => e = .returned (.string (edited s (eds s l))) ∧ Below w.heap.size w w' := by
  obtain ⟨A, ca, rfl, hA⟩ := ha
  go_enter Tryz.func50, Tryz.ntmps50
  go_wp2
  go_loopw [5, 6, 7] (fun v t i wr => ∃ (k a : Nat) (g : Int) (o : ByteArray), k ≤ l.length ∧ i = .int .i64 k ∧ t = .int .i64 a ∧ v = .string o ∧ a ≤ s.size ∧ rightFrom s.size a (l.drop k) = true ∧ editedFrom s 0 (eds s l) = o.data.toList ++ editedFrom s a (edsFrom s g (l.drop k)) ∧
    o.size ≤ k * 1000000 ∧ Below w.heap.size w wr) (fun _ _ i _ => l.length - (intOf i).toNat)
  case atStart => exact ⟨0, 0, 0, ⟨#[]⟩, Nat.zero_le _, rfl, rfl, rfl, Nat.zero_le _, hr, rfl, by decide, Below.refl _ _⟩
  case round =>
    obtain ⟨k, at_, g, o, hk, rfl, rfl, rfl, hat, hri, hE, hos, hbw⟩ := hrel
    by_cases hlt : k < l.length
    · obtain ⟨b1, o1, rfl, hb1, hc1⟩ := hA (by omega)
      obtain ⟨p1, p2, p3⟩ := hc1 k _ (List.getElem?_eq_getElem hlt)
      have p1' := (hbw.cell (p := ⟨b1, o1 + k * 3, none⟩) hb1).trans p1
      have p2' := (hbw.cell (p := ⟨b1, o1 + k * 3 + 1, none⟩) hb1).trans p2
      have p3' := (hbw.cell (p := ⟨b1, o1 + k * 3 + 2, none⟩) hb1).trans p3
      clear p1 p2 p3 hc1 hA
      have htx := ht _ (List.getElem_mem hlt)
      have hd : l.drop k = l[k] :: l.drop (k + 1) := List.drop_eq_getElem_cons hlt
      rw [hd] at hri hE
      obtain ⟨q1, q2, q3, hri'⟩ := rightFrom_cons hri
      generalize l[k] = x at p1' p2' p3' htx q1 q2 q3 hri' hE
      obtain ⟨xlo, xhi, xt⟩ := x
      rw [ed_cons, edt_cons] at hE
      dsimp only at p1' p2' p3' htx q1 q2 q3 hri' hE
      obtain ⟨lo, rfl⟩ := Int.eq_ofNat_of_zero_le (show 0 ≤ xlo by omega)
      obtain ⟨hi_, rfl⟩ := Int.eq_ofNat_of_zero_le (show 0 ≤ xhi by omega)
      rw [Int.toNat_natCast, Int.toNat_natCast] at hE
      have q4 : at_ ≤ lo := by omega
      have q5 : lo ≤ s.size := by omega
      have HE := Lib.hid hE
      have HR := Lib.hid hri'
      have ha1 := fun W => run_string_add_sum (P := Tryz.prog) W (s.extract at_ lo) xt (by simp; omega)
      have ha2 := fun W => run_string_add_sum (P := Tryz.prog) W o (s.extract at_ lo ++ xt) (by rw [app_size]; simp; omega)
      have HO := Lib.hid hos
      clear hE hri' hri hd hos
      go_wp2
      go_quiet (fail)
      go_wp2
      go_roundw
      case rel =>
        refine ⟨k + 1, hi_, g + ((xt.size : Int) - ((s.extract lo hi_).size : Int)), o ++ (s.extract at_ lo ++ xt), by omega, by go_num, rfl, rfl, by omega, HR.out, ?_, ?_, below_draws hbw _⟩
        · rw [HE.out, app_list, app_list, extract_list]; simp [List.append_assoc]
        · have h1 := HO.out
          have h2 : (s.extract at_ lo).size ≤ 100000 := by simp; omega
          rw [app_size, app_size]; omega
      case measure => simp [intOf]; omega
    · have hfin : edited s (eds s l) = o ++ s.extract at_ s.size := by
        refine str_of_list ?_
        rw [app_list, Lib.extract_to_end]
        show editedFrom s 0 (eds s l) = _
        rw [hE, List.drop_of_length_le (by omega), ed_nil, edt_nil]
      have Hf := Lib.hid hfin
      clear hfin hE hri hA
      go_wp2
      go_ret
      exact ⟨by rw [Hf.out]; rfl, hbw⟩

end Go.Proofs.YtocogbllhmiefaaGreatDoor.Lx
