/- Rename of package lex: its walk. -/
import Derived.Test.YthjnoboceibjjaaGreatDoorWalkY
import Derived.Test.YthjnoboceibjjaaGreatDoorSpecL
namespace Go.Proofs.YthjnoboceibjjaaGreatDoor.Lx
open Go Go.Proofs Go.RowKit Go.Shelf

theorem renErr_tok {s old name : ByteArray} (h : (tokens s).2.2 ≠ 0) : renErr s old name = (tokens s).2.2 := if_pos h
theorem renErr_arg {s old name : ByteArray} (h : (tokens s).2.2 = 0) (h2 : goodTk ⟨1, old, 0⟩ = false ∨ goodTk ⟨1, name, 0⟩ = false) : renErr s old name = 2 := by unfold renErr; rw [if_neg (by omega), if_pos h2]
theorem renErr_none {s old name : ByteArray} (h : (tokens s).2.2 = 0) (h1 : goodTk ⟨1, old, 0⟩ = true) (h2 : goodTk ⟨1, name, 0⟩ = true) (h3 : (placesOf old name (tokens s).1).length = 0) : renErr s old name = 7 := by
  unfold renErr; rw [if_neg (by omega), if_neg (by simp [h1, h2]), if_pos h3]
theorem renErr_twice {s old name : ByteArray} (h : (tokens s).2.2 = 0) (h1 : goodTk ⟨1, old, 0⟩ = true) (h2 : goodTk ⟨1, name, 0⟩ = true) (h3 : ¬ (placesOf old name (tokens s).1).length = 0) (h4 : 0 < (placesOf name name (tokens s).1).length) : renErr s old name = 6 := by
  unfold renErr; rw [if_neg (by omega), if_neg (by simp [h1, h2]), if_neg h3, if_pos h4]
theorem renErr_long {s old name : ByteArray} (h : (tokens s).2.2 = 0) (h1 : goodTk ⟨1, old, 0⟩ = true) (h2 : goodTk ⟨1, name, 0⟩ = true) (h3 : ¬ (placesOf old name (tokens s).1).length = 0) (h4 : ¬ 0 < (placesOf name name (tokens s).1).length) (h5 : 2500 < (edited s (eds s (placesOf old name (tokens s).1))).size) : renErr s old name = 5 := by
  unfold renErr; rw [if_neg (by omega), if_neg (by simp [h1, h2]), if_neg h3, if_neg h4, if_pos h5]
theorem renErr_ok {s old name : ByteArray} (h : (tokens s).2.2 = 0) (h1 : goodTk ⟨1, old, 0⟩ = true) (h2 : goodTk ⟨1, name, 0⟩ = true) (h3 : ¬ (placesOf old name (tokens s).1).length = 0) (h4 : ¬ 0 < (placesOf name name (tokens s).1).length) (h5 : ¬ 2500 < (edited s (eds s (placesOf old name (tokens s).1))).size) : renErr s old name = 0 := by
  unfold renErr; rw [if_neg (by omega), if_neg (by simp [h1, h2]), if_neg h3, if_neg h4, if_neg h5]
theorem renErr_parts {s old name : ByteArray} (h : renErr s old name = 0) : (tokens s).2.2 = 0 ∧ goodTk ⟨1, old, 0⟩ = true ∧ goodTk ⟨1, name, 0⟩ = true ∧ ¬ (placesOf old name (tokens s).1).length = 0 ∧ ¬ 0 < (placesOf name name (tokens s).1).length ∧ (edited s (eds s (placesOf old name (tokens s).1))).size ≤ 2500 := by
  unfold renErr at h
  split at h
  · contradiction
  · split at h
    · contradiction
    · rename_i h1 h2
      split at h
      · contradiction
      · split at h
        · contradiction
        · split at h
          · contradiction
          · rename_i h3 h4 h5
            simp only [not_or, Bool.not_eq_false] at h2
            exact ⟨by omega, h2.1, h2.2, h3, h4, by omega⟩

theorem places_small {old name : ByteArray} {l : List Tk} {n : Nat} (h : name.size ≤ n) : ∀ x ∈ placesOf old name l, x.text.size ≤ n := by
  intro x hx
  simp only [placesOf, List.mem_map] at hx
  obtain ⟨t, _, rfl⟩ := hx
  exact h
theorem toks_near {s : ByteArray} (hs : s.size ≤ 100000) (h : (tokens s).2.2 = 0) : ∀ t ∈ (tokens s).1, t.pos ≤ 100000 := by
  intro t ht
  rw [(tokens_parts h).2.1] at ht
  have := toks_lt' s _ 0 (Nat.le_refl _) t ht
  omega

def RenameP (s old name : ByteArray) (w : World) (e : Ending) (w' : World) : Prop := e = .returned (.tuple #[.string (renamed s old name), .int .i64 (renErr s old name : Int)]) ∧ Below w.heap.size w w'
theorem RenameP.bad {s old name : ByteArray} {w w' : World} {n : Nat} {k : Int} (h : renErr s old name = n) (hn : n ≠ 0) (hk : k = (n : Int)) (hb : Below w.heap.size w w') : RenameP s old name w (.returned (.tuple #[.string ⟨#[]⟩, .int .i64 k])) w' := by
  refine ⟨?_, hb⟩
  unfold renamed
  rw [if_neg (by omega), h, hk]

set_option maxRecDepth 100000 in
set_option maxHeartbeats 4000000 in
theorem rename_bad (s old name : ByteArray) (w : World) (hs : s.size ≤ 100000) (hos : old.size ≤ 100000) (hns : name.size ≤ 100000) (hG : Gl w) (h : (tokens s).2.2 ≠ 0 ∨ goodTk ⟨1, old, 0⟩ = false ∨ goodTk ⟨1, name, 0⟩ = false) :
    Calls Tryz.prog 14 #[.string s, .string old, .string name] w (RenameP s old name w) := by
  have htk := fun W hG' => tokens_any s W hs hG'
  have hn1 := fun W hG' => isName_any old W hos hG'
  have hn2 := fun W hG' => isName_any name W hns hG'
  by_cases h0 : (tokens s).2.2 = 0
  · have h' := h.resolve_left (by omega)
    have Hf := Lib.hid (renErr_arg (old := old) (name := name) h0 h')
    rw [h0] at htk
    have Htk := Lib.hid htk
    clear h htk
    cases ho : goodTk ⟨1, old, 0⟩ with
    | false =>
      rw [ho] at hn1
      have Hn1 := Lib.hid hn1
      clear hn1 hn2 ho h'
      go_enter Tryz.func14, Tryz.ntmps14
      go_wp2_with (first
        | (go_at_call 11; refine (Htk.out _ hG).mono ?_; rintro e w1 ⟨v1, rfl, hown1, hb1⟩)
        | (go_at_call 30; refine (Hn1.out _ (hG.next hb1)).mono ?_; rintro e w2 ⟨rfl, hb2⟩))
      go_ret2
      exact RenameP.bad Hf.out (by decide) rfl (hb1.trans (hb2.mono hb1.size))
    | true =>
      rw [ho] at hn1
      have hnn : goodTk ⟨1, name, 0⟩ = false := h'.resolve_left (by rw [ho]; decide)
      rw [hnn] at hn2
      have Hn1 := Lib.hid hn1
      have Hn2 := Lib.hid hn2
      clear hn1 hn2 ho h' hnn
      go_enter Tryz.func14, Tryz.ntmps14
      go_wp2_with (first
        | (go_at_call 11; refine (Htk.out _ hG).mono ?_; rintro e w1 ⟨v1, rfl, hown1, hb1⟩)
        | (go_at_call 30; have hpast := hb2; refine (Hn2.out _ (hG.next (hb1.trans (hb2.mono hb1.size)))).mono ?_; rintro e w3 ⟨rfl, hb3⟩)
        | (go_at_call 30; refine (Hn1.out _ (hG.next hb1)).mono ?_; rintro e w2 ⟨rfl, hb2⟩))
      go_ret2
      have hB2 := hb1.trans (hb2.mono hb1.size)
      exact RenameP.bad Hf.out (by decide) rfl (hB2.trans (hb3.mono hB2.size))
  · have Hf := Lib.hid (renErr_tok (old := old) (name := name) h0)
    generalize (tokens s).2.2 = te at htk h0 Hf
    have ht3 : ((te : Int) != 0) = true := by simp; omega
    have Htk := Lib.hid htk
    have H0 := Lib.hid h0
    clear h htk hn1 hn2 h0
    go_enter Tryz.func14, Tryz.ntmps14
    go_wp2_with (go_at_call 11; refine (Htk.out _ hG).mono ?_; rintro e w1 ⟨v1, rfl, hown1, hb1⟩)
    go_ret2
    exact RenameP.bad Hf.out H0.out rfl hb1

set_option maxRecDepth 100000 in
set_option maxHeartbeats 8000000 in
theorem rename_any (s old name : ByteArray) (w : World) (hs : s.size ≤ 100000) (hos : old.size ≤ 100000) (hns : name.size ≤ 100000) (hG : Gl w) :
    Calls Tryz.prog 14 #[.string s, .string old, .string name] w (RenameP s old name w) := by
  by_cases hbad : (tokens s).2.2 ≠ 0 ∨ goodTk ⟨1, old, 0⟩ = false ∨ goodTk ⟨1, name, 0⟩ = false
  · exact rename_bad s old name w hs hos hns hG hbad
  · have h0 : (tokens s).2.2 = 0 := by
      rcases Nat.eq_zero_or_pos (tokens s).2.2 with h | h
      · exact h
      · exact absurd (.inl (by omega)) hbad
    have ho : goodTk ⟨1, old, 0⟩ = true := by
      cases h : goodTk ⟨1, old, 0⟩ with
      | true => rfl
      | false => exact absurd (.inr (.inl h)) hbad
    have hn : goodTk ⟨1, name, 0⟩ = true := by
      cases h : goodTk ⟨1, name, 0⟩ with
      | true => rfl
      | false => exact absurd (.inr (.inr h)) hbad
    obtain ⟨q0, q1, _, q2, q3⟩ := tokens_parts h0
    have hri : right s.size (placesOf old name (tokens s).1) = true := by rw [q1]; exact (places_right s old name _ 0 (Nat.le_refl _) q2).1
    have hnear := toks_near hs h0
    have htk := fun W hG' => tokens_any s W hs hG'
    rw [h0] at htk
    have hn1 := fun W hG' => isName_any old W hos hG'
    have hn2 := fun W hG' => isName_any name W hns hG'
    rw [ho] at hn1
    rw [hn] at hn2
    have hlen : (placesOf old name (tokens s).1).length ≤ 1000 := Nat.le_trans (placesOf_len _ _ _) (by omega)
    have hp1 := fun W a ha => placesOf_any a (tokens s).1 old name W ha (by omega) hnear hos
    have hp2 := fun W a ha => placesOf_any a (tokens s).1 name name W ha (by omega) hnear hns
    have he1 := fun W a ha => editsOf_any s a (placesOf old name (tokens s).1) W hs ha hlen (fun x hx => Nat.le_trans (places_small hns x hx) (by decide)) hri
    have he2 := fun W a ha => edited_any s a (eds s (placesOf old name (tokens s).1)) W hs ha (by rw [eds_length]; exact hlen) (fun x hx => Nat.le_trans (ed_small hx hs (places_small hns)).1 (by decide)) (by rw [eds_sp]; exact hri)
    have Hnone := Lib.hid (renErr_none h0 ho hn)
    have Htwice := Lib.hid (renErr_twice h0 ho hn)
    have Hlong := Lib.hid (renErr_long h0 ho hn)
    have Hok := Lib.hid (renErr_ok h0 ho hn)
    have Hrn := Lib.hid (show renErr s old name = 0 → renamed s old name = edited s (eds s (placesOf old name (tokens s).1)) from fun h => if_pos h)
    generalize (tokens s).1 = T at *
    generalize (tokens s).2.1 = tp at htk
    have Htk := Lib.hid htk
    have Hn1 := Lib.hid hn1
    have Hn2 := Lib.hid hn2
    have Hp1 := Lib.hid hp1
    have Hp2 := Lib.hid hp2
    have He1 := Lib.hid he1
    have He2 := Lib.hid he2
    clear htk hn1 hn2 hp1 hp2 he1 he2 h0 ho hn hbad hri hnear q0 q1 q2 q3
    generalize eds s (placesOf old name T) = E at He1 He2 Hlong Hok Hrn
    generalize edited s E = out at He2 Hlong Hok Hrn
    generalize placesOf old name T = P at *
    generalize placesOf name name T = Q at *
    by_cases h3 : P.length = 0
    · have Hf := Lib.hid (Hnone.out h3)
      have h3i : ((P.length : Int) == 0) = true := by rw [h3]; rfl
      clear h3
      go_enter Tryz.func14, Tryz.ntmps14
      go_wp2_with (first
        | (go_at_call 31; refine (Hp1.out _ _ (((SlTk.of_own hown1).below hb2).below hb3)).mono ?_; rintro e w4 ⟨v4, rfl, hown4, hb4⟩; obtain ⟨A4, c4, rfl⟩ := own_form hown4)
        | (go_at_call 30; have hpast := hb2; refine (Hn2.out _ (hG.next (hb1.trans (hb2.mono hb1.size)))).mono ?_; rintro e w3 ⟨rfl, hb3⟩)
        | (go_at_call 30; refine (Hn1.out _ (hG.next hb1)).mono ?_; rintro e w2 ⟨rfl, hb2⟩)
        | (go_at_call 11; refine (Htk.out _ hG).mono ?_; rintro e w1 ⟨v1, rfl, hown1, hb1⟩))
      go_ret2
      have hB2 := hb1.trans (hb2.mono hb1.size)
      have hB3 := hB2.trans (hb3.mono hB2.size)
      exact RenameP.bad Hf.out (by decide) rfl (hB3.trans (hb4.mono hB3.size))
    · have h3i : ((P.length : Int) == 0) = false := by rw [beq_eq_false_iff_ne]; omega
      by_cases h4 : 0 < Q.length
      · have Hf := Lib.hid (Htwice.out h3 h4)
        go_enter Tryz.func14, Tryz.ntmps14
        go_wp2_with (first
          | (go_at_call 31; have hpast := hb4; refine (Hp2.out _ _ ((((SlTk.of_own hown1).below hb2).below hb3).below hb4)).mono ?_; rintro e w5 ⟨v5, rfl, hown5, hb5⟩; obtain ⟨A5, c5, rfl⟩ := own_form hown5)
          | (go_at_call 31; refine (Hp1.out _ _ (((SlTk.of_own hown1).below hb2).below hb3)).mono ?_; rintro e w4 ⟨v4, rfl, hown4, hb4⟩; obtain ⟨A4, c4, rfl⟩ := own_form hown4)
          | (go_at_call 30; have hpast := hb2; refine (Hn2.out _ (hG.next (hb1.trans (hb2.mono hb1.size)))).mono ?_; rintro e w3 ⟨rfl, hb3⟩)
          | (go_at_call 30; refine (Hn1.out _ (hG.next hb1)).mono ?_; rintro e w2 ⟨rfl, hb2⟩)
          | (go_at_call 11; refine (Htk.out _ hG).mono ?_; rintro e w1 ⟨v1, rfl, hown1, hb1⟩))
        go_ret2
        have hB2 := hb1.trans (hb2.mono hb1.size)
        have hB3 := hB2.trans (hb3.mono hB2.size)
        have hB4 := hB3.trans (hb4.mono hB3.size)
        exact RenameP.bad Hf.out (by decide) rfl (hB4.trans (hb5.mono hB4.size))
      · by_cases h5 : 2500 < out.size
        · have Hf := Lib.hid (Hlong.out h3 h4 h5)
          go_enter Tryz.func14, Tryz.ntmps14
          go_wp2_with (first
            | (go_at_call 29; refine (He2.out _ _ (SlEd.of_own hown6)).mono ?_; rintro e w7 ⟨rfl, hb7⟩)
            | (go_at_call 32; refine (He1.out _ _ ((SlSp.of_own hown4).below hb5)).mono ?_; rintro e w6 ⟨v6, rfl, hown6, hb6⟩)
            | (go_at_call 31; have hpast := hb4; refine (Hp2.out _ _ ((((SlTk.of_own hown1).below hb2).below hb3).below hb4)).mono ?_; rintro e w5 ⟨v5, rfl, hown5, hb5⟩; obtain ⟨A5, c5, rfl⟩ := own_form hown5)
            | (go_at_call 31; refine (Hp1.out _ _ (((SlTk.of_own hown1).below hb2).below hb3)).mono ?_; rintro e w4 ⟨v4, rfl, hown4, hb4⟩; obtain ⟨A4, c4, rfl⟩ := own_form hown4)
            | (go_at_call 30; have hpast := hb2; refine (Hn2.out _ (hG.next (hb1.trans (hb2.mono hb1.size)))).mono ?_; rintro e w3 ⟨rfl, hb3⟩)
            | (go_at_call 30; refine (Hn1.out _ (hG.next hb1)).mono ?_; rintro e w2 ⟨rfl, hb2⟩)
            | (go_at_call 11; refine (Htk.out _ hG).mono ?_; rintro e w1 ⟨v1, rfl, hown1, hb1⟩))
          go_ret2
          have hB2 := hb1.trans (hb2.mono hb1.size)
          have hB3 := hB2.trans (hb3.mono hB2.size)
          have hB4 := hB3.trans (hb4.mono hB3.size)
          have hB5 := hB4.trans (hb5.mono hB4.size)
          have hB6 := hB5.trans (hb6.mono hB5.size)
          exact RenameP.bad Hf.out (by decide) rfl (hB6.trans (hb7.mono hB6.size))
        · have Hf := Lib.hid (Hok.out h3 h4 h5)
          go_enter Tryz.func14, Tryz.ntmps14
          go_wp2_with (first
            | (go_at_call 29; refine (He2.out _ _ (SlEd.of_own hown6)).mono ?_; rintro e w7 ⟨rfl, hb7⟩)
            | (go_at_call 32; refine (He1.out _ _ ((SlSp.of_own hown4).below hb5)).mono ?_; rintro e w6 ⟨v6, rfl, hown6, hb6⟩)
            | (go_at_call 31; have hpast := hb4; refine (Hp2.out _ _ ((((SlTk.of_own hown1).below hb2).below hb3).below hb4)).mono ?_; rintro e w5 ⟨v5, rfl, hown5, hb5⟩; obtain ⟨A5, c5, rfl⟩ := own_form hown5)
            | (go_at_call 31; refine (Hp1.out _ _ (((SlTk.of_own hown1).below hb2).below hb3)).mono ?_; rintro e w4 ⟨v4, rfl, hown4, hb4⟩; obtain ⟨A4, c4, rfl⟩ := own_form hown4)
            | (go_at_call 30; have hpast := hb2; refine (Hn2.out _ (hG.next (hb1.trans (hb2.mono hb1.size)))).mono ?_; rintro e w3 ⟨rfl, hb3⟩)
            | (go_at_call 30; refine (Hn1.out _ (hG.next hb1)).mono ?_; rintro e w2 ⟨rfl, hb2⟩)
            | (go_at_call 11; refine (Htk.out _ hG).mono ?_; rintro e w1 ⟨v1, rfl, hown1, hb1⟩))
          go_ret2
          have hB2 := hb1.trans (hb2.mono hb1.size)
          have hB3 := hB2.trans (hb3.mono hB2.size)
          have hB4 := hB3.trans (hb4.mono hB3.size)
          have hB5 := hB4.trans (hb5.mono hB4.size)
          have hB6 := hB5.trans (hb6.mono hB5.size)
          exact ⟨by rw [Hf.out, Hrn.out Hf.out]; rfl, hB6.trans (hb7.mono hB6.size)⟩

end Go.Proofs.YthjnoboceibjjaaGreatDoor.Lx
