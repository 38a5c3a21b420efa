/- The document's own Rename. -/
import Derived.Test.YtocogbllhmiefaaDoorWalkAK
import Derived.Test.YtocogbllhmiefaaDoorWalkZ
namespace Go.Proofs.YtocogbllhmiefaaDoor.Lx
open Go Go.Proofs Go.RowKit Go.Shelf

theorem tok_kind {s old : ByteArray} (h : (tokens s).2.2 = 0) (ho : goodTk ⟨1, old, 0⟩ = true) : ∀ x ∈ (tokens s).1, x.text.toList = old.toList → x.kind = 1 := by
  intro x hx e
  obtain ⟨h0, h1, _, h2, _⟩ := tokens_parts h
  obtain ⟨_, i2, _⟩ := tight_len s s.size 0 (by omega) h2
  have hg := (Good.of (i2 x (by rw [← h1]; exact hx))).kind_
  have hg2 := (Good.of ho).kind_
  rw [str_eq.1 e] at hg
  rw [hg] at hg2
  injection hg2

/-- What the document's Rename knows in the midst of its work. -/
structure RR (s old name : ByteArray) (T : List Tk) (k a m : Nat) (o : ByteArray) (b : Bool) : Prop where
  at_ : a ≤ s.size
  main : ∃ g, rightFrom s.size a (placesOf old name (T.drop k)) = true ∧ editedFrom s 0 (eds s (placesOf old name T)) = o.data.toList ++ editedFrom s a (edsFrom s g (placesOf old name (T.drop k)))
  many : (placesOf old name T).length = m + (placesOf old name (T.drop k)).length
  mle : m ≤ k
  twice : decide (0 < (placesOf name name T).length) = (b || decide (0 < (placesOf name name (T.drop k)).length))
  osz : o.size ≤ k * 1000000
theorem RR.start {s old name : ByteArray} {T : List Tk} (hr : right s.size (placesOf old name T) = true) : RR s old name T 0 0 0 ⟨#[]⟩ false :=
  ⟨Nat.zero_le _, ⟨0, by rw [List.drop_zero]; exact hr, by rw [List.drop_zero]; exact (List.nil_append _).symm⟩, by rw [List.drop_zero, Nat.zero_add], Nat.le_refl _, by rw [List.drop_zero, Bool.false_or], show (0 : Nat) ≤ _ from Nat.zero_le _⟩
theorem twice_step {name : ByteArray} {x : Tk} {r : List Tk} {b : Bool} : (b || decide (0 < (placesOf name name (x :: r)).length)) = ((b || decide (x.text.toList = name.toList)) || decide (0 < (placesOf name name r).length)) := by
  rw [placesOf_cons]
  by_cases h : x.text.toList = name.toList
  · rw [if_pos h, decide_eq_true h]; simp
  · rw [if_neg h, decide_eq_false h]; simp
theorem RR.miss {s old name : ByteArray} {T : List Tk} {k a m : Nat} {o : ByteArray} {b b' : Bool} (h : RR s old name T k a m o b) (hk : k < T.length) (hx : T[k].text.toList ≠ old.toList) (hb : b' = (b || decide (T[k].text.toList = name.toList))) : RR s old name T (k + 1) a m o b' := by
  obtain ⟨h1, ⟨g, h2, h3⟩, h4, h5, h6, h7⟩ := h
  have hd : T.drop k = T[k] :: T.drop (k + 1) := List.drop_eq_getElem_cons hk
  have hp : placesOf old name (T.drop k) = placesOf old name (T.drop (k + 1)) := by rw [hd, placesOf_cons, if_neg hx]
  rw [hp] at h2 h3 h4
  rw [hd, twice_step, ← hb] at h6
  exact ⟨h1, ⟨g, h2, h3⟩, h4, Nat.le_succ_of_le h5, h6, Nat.le_trans h7 (Nat.mul_le_mul_right _ (Nat.le_succ k))⟩
theorem RR.hit {s old name : ByteArray} {T : List Tk} {k a m : Nat} {o : ByteArray} {b b' : Bool} (h : RR s old name T k a m o b) (hk : k < T.length) (hx : T[k].text.toList = old.toList) (hb : b' = (b || decide (T[k].text.toList = name.toList))) (hs : s.size ≤ 100000) (hn : name.size ≤ 100000) :
    a ≤ T[k].pos ∧ T[k].pos + old.size ≤ s.size ∧ RR s old name T (k + 1) (T[k].pos + old.size) (m + 1) (o ++ (s.extract a T[k].pos ++ name)) b' := by
  obtain ⟨h1, ⟨g, h2, h3⟩, h4, h5, h6, h7⟩ := h
  have hd : T.drop k = T[k] :: T.drop (k + 1) := List.drop_eq_getElem_cons hk
  have hp : placesOf old name (T.drop k) = ⟨(T[k].pos : Int), (T[k].pos : Int) + old.size, name⟩ :: placesOf old name (T.drop (k + 1)) := by rw [hd, placesOf_cons, if_pos hx]
  rw [hp] at h2 h3 h4
  rw [hd, twice_step, ← hb] at h6
  obtain ⟨q1, q2, q3, q4⟩ := rightFrom_cons h2
  rw [ed_cons, edt_cons] at h3
  dsimp only at q1 q2 q3 q4 h3
  have e1 : ((T[k].pos : Int) + old.size).toNat = T[k].pos + old.size := by omega
  rw [e1, Int.toNat_natCast] at h3
  refine ⟨by omega, by omega, by omega, ⟨g + ((name.size : Int) - ((s.extract T[k].pos (T[k].pos + old.size)).size : Int)), ?_, ?_⟩, ?_, by omega, h6, ?_⟩
  · rw [show ((T[k].pos + old.size : Nat) : Int) = (T[k].pos : Int) + old.size by omega]; exact q4
  · rw [h3, app_list, app_list, extract_list]; simp [List.append_assoc]
  · rw [h4, List.length_cons]; omega
  · have h8 : (s.extract a T[k].pos).size ≤ 100000 := by simp; omega
    rw [app_size, app_size]; omega
theorem RR.done {s old name : ByteArray} {T : List Tk} {k a m : Nat} {o : ByteArray} {b : Bool} (h : RR s old name T k a m o b) (hk : T.length ≤ k) :
    edited s (eds s (placesOf old name T)) = o ++ s.extract a s.size ∧ (placesOf old name T).length = m ∧ decide (0 < (placesOf name name T).length) = b := by
  obtain ⟨h1, ⟨g, h2, h3⟩, h4, h5, h6, h7⟩ := h
  have hd : T.drop k = [] := List.drop_of_length_le hk
  rw [hd] at h3 h4 h6
  refine ⟨?_, ?_, ?_⟩
  · refine str_of_list ?_
    rw [app_list, Lib.extract_to_end]
    exact h3
  · rw [h4]; rfl
  · rw [h6]
    show (b || decide (0 < 0)) = b
    simp

set_option maxRecDepth 100000 in
set_option maxHeartbeats 4000000 in
theorem refRename_bad (s old name : ByteArray) (w : World) (hs : s.size ≤ 100000) (hos : old.size ≤ 100000) (hns : name.size ≤ 100000) (h : (tokens s).2.2 ≠ 0 ∨ goodTk ⟨1, old, 0⟩ = false ∨ goodTk ⟨1, name, 0⟩ = false) :
    Calls Tryd.prog 31 #[.string s, .string old, .string name] w (RenameP s old name w) := by
  have htk := fun W => refTokens_any s W hs
  have hn1 := fun W => refIsName_any old W hos
  have hn2 := fun W => refIsName_any name W hns
  by_cases h0 : (tokens s).2.2 = 0
  · have h' := h.resolve_left (by omega)
    have Hf := Lib.hid (renErr_arg (old := old) (name := name) h0 h')
    rw [h0] at htk
    have Htk := Lib.hid htk
    clear h htk
    cases ho : goodTk ⟨1, old, 0⟩ with
    | false =>
      rw [ho] at hn1
      have Hn1 := Lib.hid hn1
      clear hn1 hn2 ho h'
      go_enter Tryd.func31, Tryd.ntmps31
      go_wp2_with (first
        | (go_at_call 16; refine (Htk.out _).mono ?_; rintro e w1 ⟨v1, rfl, hown1, hb1⟩)
        | (go_at_call 55; refine (Hn1.out _).mono ?_; rintro e w2 ⟨rfl, hb2⟩))
      go_ret2
      exact RenameP.bad Hf.out (by decide) rfl (hb1.trans (hb2.mono hb1.size))
    | true =>
      rw [ho] at hn1
      have hnn : goodTk ⟨1, name, 0⟩ = false := h'.resolve_left (by rw [ho]; decide)
      rw [hnn] at hn2
      have Hn1 := Lib.hid hn1
      have Hn2 := Lib.hid hn2
      clear hn1 hn2 ho h' hnn
      go_enter Tryd.func31, Tryd.ntmps31
      go_wp2_with (first
        | (go_at_call 16; refine (Htk.out _).mono ?_; rintro e w1 ⟨v1, rfl, hown1, hb1⟩)
        | (go_at_call 55; have hpast := hb2; refine (Hn2.out _).mono ?_; rintro e w3 ⟨rfl, hb3⟩)
        | (go_at_call 55; refine (Hn1.out _).mono ?_; rintro e w2 ⟨rfl, hb2⟩))
      go_ret2
      have hB2 := hb1.trans (hb2.mono hb1.size)
      exact RenameP.bad Hf.out (by decide) rfl (hB2.trans (hb3.mono hB2.size))
  · have Hf := Lib.hid (renErr_tok (old := old) (name := name) h0)
    generalize (tokens s).2.2 = te at htk h0 Hf
    have ht3 : ((te : Int) != 0) = true := by simp; omega
    have Htk := Lib.hid htk
    have H0 := Lib.hid h0
    clear h htk hn1 hn2 h0
    go_enter Tryd.func31, Tryd.ntmps31
    go_wp2_with (go_at_call 16; refine (Htk.out _).mono ?_; rintro e w1 ⟨v1, rfl, hown1, hb1⟩)
    go_ret2
    exact RenameP.bad Hf.out H0.out rfl hb1

set_option maxRecDepth 100000 in
set_option maxHeartbeats 16000000 in
theorem refRename_good (s old name : ByteArray) (w : World) (hs : s.size ≤ 100000) (hos : old.size ≤ 100000) (hns : name.size ≤ 100000) (h0 : (tokens s).2.2 = 0) (ho : goodTk ⟨1, old, 0⟩ = true) (hn : goodTk ⟨1, name, 0⟩ = true) :
    Calls Tryd.prog 31 #[.string s, .string old, .string name] w (RenameP s old name w) := by
  obtain ⟨q0, q1, _, q2, q3⟩ := tokens_parts h0
  have hri : right s.size (placesOf old name (tokens s).1) = true := by rw [q1]; exact (places_right s old name _ 0 (Nat.le_refl _) q2).1
  have Hstart := Lib.hid (RR.start (s := s) hri)
  have htk := fun W => refTokens_any s W hs
  rw [h0] at htk
  have hn1 := fun W => refIsName_any old W hos
  have hn2 := fun W => refIsName_any name W hns
  rw [ho] at hn1
  rw [hn] at hn2
  have Hko := Lib.hid (tok_kind h0 ho)
  have Hkn := Lib.hid (tok_kind h0 hn)
  have Hnone := Lib.hid (renErr_none h0 ho hn)
  have Htwice := Lib.hid (renErr_twice h0 ho hn)
  have Hlong := Lib.hid (renErr_long h0 ho hn)
  have Hok := Lib.hid (renErr_ok h0 ho hn)
  have Hrn := Lib.hid (show renErr s old name = 0 → renamed s old name = edited s (eds s (placesOf old name (tokens s).1)) from fun h => if_pos h)
  generalize (tokens s).1 = T at *
  generalize (tokens s).2.1 = tp at htk
  have Htk := Lib.hid htk
  have Hn1 := Lib.hid hn1
  have Hn2 := Lib.hid hn2
  clear htk hn1 hn2 h0 ho hn hri q0 q1 q2
  go_enter Tryd.func31, Tryd.ntmps31
  go_wp2_with (first
    | (go_at_call 16; refine (Htk.out _).mono ?_; rintro e w1 ⟨v1, rfl, hown1, hb1⟩)
    | (go_at_call 55; have hpast := hb2; refine (Hn2.out _).mono ?_; rintro e w3 ⟨rfl, hb3⟩; have hB3 := (hb1.trans (hb2.mono hb1.size)).trans (hb3.mono (hb1.trans (hb2.mono hb1.size)).size); obtain ⟨A1, c1, rfl, hA⟩ := ((SlTk.of_own hown1).below hb2).below hb3)
    | (go_at_call 55; refine (Hn1.out _).mono ?_; rintro e w2 ⟨rfl, hb2⟩))
  have HB3 := Lib.hid hB3
  have HA := Lib.hid hA
  clear hb1 hb2 hb3 hB3 hA hown1
  go_loopw [11, 12, 13, 14, 15] (fun v t m tw i wr => ∃ (k a n : Nat) (o : ByteArray) (b : Bool), k ≤ T.length ∧ i = .int .i64 k ∧ v = .string o ∧ t = .int .i64 a ∧ m = .int .i64 n ∧ tw = .bool b ∧ RR s old name T k a n o b ∧ Below w3.heap.size w3 wr) (fun _ _ _ _ i _ => T.length - (intOf i).toNat)
  case atStart => exact ⟨0, 0, 0, ⟨#[]⟩, false, Nat.zero_le _, rfl, rfl, rfl, rfl, rfl, Hstart.out, Below.refl _ _⟩
  case round =>
    obtain ⟨k, a, n, o, b, hk, rfl, rfl, rfl, rfl, rfl, hR, hbw⟩ := hrel
    have HR := Lib.hid hR
    have hosz := hR.osz
    have hmle := hR.mle
    have hasz := hR.at_
    clear hR
    by_cases hlt : k < T.length
    · obtain ⟨b1, o1, rfl, hb1, hc1⟩ := HA.out (by omega)
      obtain ⟨p1, p2, p3⟩ := hc1 k _ (List.getElem?_eq_getElem hlt)
      have p1' := (hbw.cell (p := ⟨b1, o1 + k * 3, none⟩) hb1).trans p1
      have p2' := (hbw.cell (p := ⟨b1, o1 + k * 3 + 1, none⟩) hb1).trans p2
      have p3' := (hbw.cell (p := ⟨b1, o1 + k * 3 + 2, none⟩) hb1).trans p3
      clear p1 p2 p3 hc1
      have Hmiss := Lib.hid (fun b' hx hb => HR.out.miss (b' := b') hlt hx hb)
      have Hhit := Lib.hid (fun b' hx hb => HR.out.hit (b' := b') hlt hx hb hs hns)
      have Hk1 := Lib.hid (Hko.out _ (List.getElem_mem hlt))
      have Hk2 := Lib.hid (Hkn.out _ (List.getElem_mem hlt))
      generalize T[k] = x at p1' p2' p3' Hmiss Hhit Hk1 Hk2
      obtain ⟨xk, xt, xp⟩ := x
      dsimp only at p1' p2' p3' Hmiss Hhit Hk1 Hk2
      by_cases hxk : xk = 1
      · subst hxk
        by_cases hxo : xt.toList = old.toList
        · obtain ⟨z1, z2, _⟩ := Hhit.out _ hxo rfl
          have a1 := fun W => run_string_add_sum (P := Tryd.prog) W (s.extract a xp) name (by simp; omega)
          have a2 := fun W => run_string_add_sum (P := Tryd.prog) W o (s.extract a xp ++ name) (by rw [app_size]; simp; omega)
          have e1 : (xt.toList == old.toList) = true := by simp [hxo]
          by_cases hxn : xt.toList = name.toList
          · have Hs := Lib.hid (Hhit.out true hxo (by rw [decide_eq_true hxn, Bool.or_true])).2.2
            have e2 : (xt.toList == name.toList) = true := by simp [hxn]
            clear hxo hxn
            go_wp2
            repeat (go_quiet (fail); go_wp2)
            go_roundw
            case rel => exact ⟨k + 1, _, _, _, _, by omega, by go_num, rfl, rfl, rfl, rfl, Hs.out, by first | exact hbw | exact below_draws hbw _ | exact below_draws (below_draws hbw _) _ | exact below_draws (below_draws (below_draws hbw _) _) _⟩
            case measure => simp [intOf]; omega
          · have Hs := Lib.hid (Hhit.out b hxo (by rw [decide_eq_false hxn, Bool.or_false])).2.2
            have e2 : (xt.toList == name.toList) = false := by simp [hxn]
            clear hxo hxn
            go_wp2
            repeat (go_quiet (fail); go_wp2)
            go_roundw
            case rel => exact ⟨k + 1, _, _, _, _, by omega, by go_num, rfl, rfl, rfl, rfl, Hs.out, by first | exact hbw | exact below_draws hbw _ | exact below_draws (below_draws hbw _) _ | exact below_draws (below_draws (below_draws hbw _) _) _⟩
            case measure => simp [intOf]; omega
        · have e1 : (xt.toList == old.toList) = false := by simp [hxo]
          by_cases hxn : xt.toList = name.toList
          · have Hs := Lib.hid (Hmiss.out true hxo (by rw [decide_eq_true hxn, Bool.or_true]))
            have e2 : (xt.toList == name.toList) = true := by simp [hxn]
            clear hxo hxn
            go_wp2
            repeat (go_quiet (fail); go_wp2)
            go_roundw
            case rel => exact ⟨k + 1, _, _, _, _, by omega, by go_num, rfl, rfl, rfl, rfl, Hs.out, by first | exact hbw | exact below_draws hbw _ | exact below_draws (below_draws hbw _) _ | exact below_draws (below_draws (below_draws hbw _) _) _⟩
            case measure => simp [intOf]; omega
          · have Hs := Lib.hid (Hmiss.out b hxo (by rw [decide_eq_false hxn, Bool.or_false]))
            have e2 : (xt.toList == name.toList) = false := by simp [hxn]
            clear hxo hxn
            go_wp2
            repeat (go_quiet (fail); go_wp2)
            go_roundw
            case rel => exact ⟨k + 1, _, _, _, _, by omega, by go_num, rfl, rfl, rfl, rfl, Hs.out, by first | exact hbw | exact below_draws hbw _ | exact below_draws (below_draws hbw _) _ | exact below_draws (below_draws (below_draws hbw _) _) _⟩
            case measure => simp [intOf]; omega
      · have hxo : xt.toList ≠ old.toList := fun e => hxk (Hk1.out e)
        have hxn : xt.toList ≠ name.toList := fun e => hxk (Hk2.out e)
        have Hs := Lib.hid (Hmiss.out b hxo (by rw [decide_eq_false hxn, Bool.or_false]))
        have e0 : ((xk : Int) == 1) = false := by simp; omega
        clear hxo hxn hxk
        go_wp2
        repeat (go_quiet (fail); go_wp2)
        go_roundw
        case rel => exact ⟨k + 1, _, _, _, _, by omega, by go_num, rfl, rfl, rfl, rfl, Hs.out, by first | exact hbw | exact below_draws hbw _ | exact below_draws (below_draws hbw _) _ | exact below_draws (below_draws (below_draws hbw _) _) _⟩
        case measure => simp [intOf]; omega
    · obtain ⟨d1, d2, d3⟩ := HR.out.done (by omega)
      have hbB := HB3.out.trans (hbw.mono HB3.out.size)
      have a1 := fun W => run_string_add_sum (P := Tryd.prog) W o (s.extract a s.size) (by simp; omega)
      rw [d1] at Hlong Hok Hrn
      rw [d2] at Hnone Htwice Hlong Hok
      rw [show 0 < (placesOf name name T).length ↔ b = true from by rw [← d3]; simp] at Htwice Hlong Hok
      have hosz2 : (o ++ s.extract a s.size).size ≤ 2000000000 := by rw [app_size]; simp; omega
      generalize o ++ s.extract a s.size = out at *
      have hbB' := Lib.hid hbB
      clear d1 d2 d3 hbB
      by_cases h3 : n = 0
      · have Hf := Lib.hid (Hnone.out h3)
        have q1 : ((n : Int) == 0) = true := by rw [h3]; rfl
        clear h3
        go_wp2
        repeat (go_quiet (fail); go_wp2)
        go_ret2
        exact RenameP.bad Hf.out (by decide) rfl (by first | exact hbB'.out | exact below_draws hbB'.out _)
      · have q1 : ((n : Int) == 0) = false := by simp; omega
        cases b with
        | true =>
          have Hf := Lib.hid (Htwice.out h3 rfl)
          clear h3
          go_wp2
          repeat (go_quiet (fail); go_wp2)
          go_ret2
          exact RenameP.bad Hf.out (by decide) rfl (by first | exact hbB'.out | exact below_draws hbB'.out _)
        | false =>
          by_cases h5 : 2500 < out.size
          · have Hf := Lib.hid (Hlong.out h3 (by decide) h5)
            clear h3
            go_wp2
            repeat (go_quiet (fail); go_wp2)
            go_ret2
            exact RenameP.bad Hf.out (by decide) rfl (by first | exact hbB'.out | exact below_draws hbB'.out _)
          · have Hf := Lib.hid (Hok.out h3 (by decide) h5)
            clear h3
            go_wp2
            repeat (go_quiet (fail); go_wp2)
            go_ret2
            exact ⟨by rw [Hf.out, Hrn.out Hf.out]; rfl, by first | exact hbB'.out | exact below_draws hbB'.out _⟩

theorem refRename_any (s old name : ByteArray) (w : World) (hs : s.size ≤ 100000) (hos : old.size ≤ 100000) (hns : name.size ≤ 100000) :
    Calls Tryd.prog 31 #[.string s, .string old, .string name] w (RenameP s old name w) := by
  by_cases hbad : (tokens s).2.2 ≠ 0 ∨ goodTk ⟨1, old, 0⟩ = false ∨ goodTk ⟨1, name, 0⟩ = false
  · exact refRename_bad s old name w hs hos hns hbad
  · rw [not_or, not_or, Bool.not_eq_false, Bool.not_eq_false] at hbad
    exact refRename_good s old name w hs hos hns (by omega) hbad.2.1 hbad.2.2

end Go.Proofs.YtocogbllhmiefaaDoor.Lx
