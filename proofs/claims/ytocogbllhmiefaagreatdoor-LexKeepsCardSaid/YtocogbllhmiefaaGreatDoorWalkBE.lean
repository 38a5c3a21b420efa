/- The document's own Kept, with its errors. -/
import Derived.Test.YtocogbllhmiefaaGreatDoorWalkBA
namespace Go.Proofs.YtocogbllhmiefaaGreatDoor.Lx
open Go Go.Proofs Go.RowKit Go.Shelf

set_option maxRecDepth 100000 in
set_option maxHeartbeats 4000000 in
theorem refKept_err (s : ByteArray) (x : Sp) (w : World) (hs : s.size ≤ 100000) (hx : x.text.size ≤ 100000) (h0 : keptErr s x ≠ 0) :
    Calls Tryz.prog 19 #[.string s, .agg #[.int .i64 x.lo, .int .i64 x.hi, .string x.text]] w (KeptP s x w) := by
  have Hh := Lib.hid (show keptHead s x = 0 from if_neg h0)
  have Ht := Lib.hid (show keptTail s x = 0 from if_neg h0)
  have hch := fun W a ha => check_any s a [x] W hs ha (by simp) (by simpa using hx)
  have Hlit : Hid (∀ W : World, SlSp (W.alloc (.cells #[.int .i64 x.lo, .int .i64 x.hi, .string x.text] 40)) (.slice (some ⟨W.heap.size, 0, none⟩) 1 1) [x]) := fun W => SlSp.lit W [x] 1
  have Hlit0 : Hid (SlSp ((w.alloc (.cells #[.int .i64 x.lo, .int .i64 x.hi, .string x.text] 40)).alloc (.cells #[.int .i64 x.lo, .int .i64 x.hi, .string x.text] 40)) (.slice (some ⟨w.heap.size + 1, 0, none⟩) 1 1) [x]) := by
    have h := SlSp.lit (w.alloc (.cells #[.int .i64 x.lo, .int .i64 x.hi, .string x.text] 40)) [x] 1
    rw [alloc_sz] at h
    exact h
  have Hb0 := Lib.hid ((Below.refl (w.alloc (.cells #[.int .i64 x.lo, .int .i64 x.hi, .string x.text] 40)).heap.size (w.alloc (.cells #[.int .i64 x.lo, .int .i64 x.hi, .string x.text] 40))).alloc (Nat.le_refl _) (.cells #[.int .i64 x.lo, .int .i64 x.hi, .string x.text] 40))
  by_cases h1 : splErr s [x] = 0
  · have hts : (applied s [x]).size ≤ 2500 := (text_ok (text_after h1).1).1
    have hap : applied s [x] = edited s (eds s [x]) := if_pos h1
    have hsp := fun W a ha => spliced_any s a [x] W hs ha (by simp) (by simpa using hx) (splErr_parts h1).2.2.1
    rw [← hap] at hsp
    rw [h1] at hch
    have htk1 := fun W => refTokens_any s W hs
    by_cases h2 : (tokens s).2.2 = 0
    · have hE : keptErr s x = (tokens (applied s [x])).2.2 := by unfold keptErr; rw [if_neg (by simp [h1]), if_neg (by simp [h2])]
      have htk2 := fun W => refTokens_any (applied s [x]) W (by omega)
      rw [h2] at htk1
      rw [hE] at h0
      generalize applied s [x] = t at *
      generalize (tokens t).2.2 = te at *
      generalize (tokens t).2.1 = p2 at *
      generalize (tokens t).1 = M at *
      generalize (tokens s).2.1 = p1 at *
      generalize (tokens s).1 = L at *
      have ht3 : ((te : Int) != 0) = true := by simp; omega
      have HE := Lib.hid hE
      have Hch := Lib.hid hch
      have Hsp := Lib.hid hsp
      have Htk1 := Lib.hid htk1
      have Htk2 := Lib.hid htk2
      clear hch hsp htk1 htk2 h1 h2 h0 hE hts hap
      go_enter Tryz.func19, Tryz.ntmps19
      go_wp2_with (first
        | (go_at_call 51; refine (Htk2.out w3).mono ?_; rintro e w4 ⟨v4, rfl, hown4, hb4⟩; have hB4 := hB3.trans (hb4.mono hB3.size); obtain ⟨A4, c4, rfl⟩ := own_form hown4)
        | (go_at_call 51; refine (Htk1.out w2).mono ?_; rintro e w3 ⟨v3, rfl, hown3, hb3⟩; have hB3 := hB2.trans (hb3.mono hB2.size); obtain ⟨A3, c3, rfl⟩ := own_form hown3)
        | (go_at_call 50; refine (Hsp.out _ _ (Hlit.out w1)).mono ?_; rintro e w2 ⟨rfl, hb2⟩; have hB2 := (hB1.alloc hB1.size _).trans (hb2.mono (by have := hB1.size; rw [alloc_sz w1]; omega)))
        | (go_at_call 49; refine (Hch.out _ _ Hlit0.out).mono ?_; rintro e w1 ⟨rfl, hb1⟩; obtain ⟨hB1, u0, u1, u2⟩ := box3 (Hb0.out.trans (hb1.mono Hb0.out.size))))
      go_ret3
      exact ⟨by rw [Hh.out, Ht.out, HE.out]; rfl, hB4⟩
    · have hE : keptErr s x = (tokens s).2.2 := by unfold keptErr; rw [if_neg (by simp [h1]), if_pos (by simp [h2])]
      rw [hE] at h0
      generalize applied s [x] = t at *
      generalize (tokens s).2.2 = te at *
      generalize (tokens s).2.1 = p1 at *
      generalize (tokens s).1 = L at *
      have ht3 : ((te : Int) != 0) = true := by simp; omega
      have HE := Lib.hid hE
      have Hch := Lib.hid hch
      have Hsp := Lib.hid hsp
      have Htk1 := Lib.hid htk1
      clear hch hsp htk1 h1 h2 h0 hE hts hap
      go_enter Tryz.func19, Tryz.ntmps19
      go_wp2_with (first
        | (go_at_call 51; refine (Htk1.out w2).mono ?_; rintro e w3 ⟨v3, rfl, hown3, hb3⟩; have hB3 := hB2.trans (hb3.mono hB2.size); obtain ⟨A3, c3, rfl⟩ := own_form hown3)
        | (go_at_call 50; refine (Hsp.out _ _ (Hlit.out w1)).mono ?_; rintro e w2 ⟨rfl, hb2⟩; have hB2 := (hB1.alloc hB1.size _).trans (hb2.mono (by have := hB1.size; rw [alloc_sz w1]; omega)))
        | (go_at_call 49; refine (Hch.out _ _ Hlit0.out).mono ?_; rintro e w1 ⟨rfl, hb1⟩; obtain ⟨hB1, u0, u1, u2⟩ := box3 (Hb0.out.trans (hb1.mono Hb0.out.size))))
      go_ret3
      exact ⟨by rw [Hh.out, Ht.out, HE.out]; rfl, hB3⟩
  · have hE : keptErr s x = splErr s [x] := by unfold keptErr; rw [if_pos h1]
    generalize splErr s [x] = te at *
    have ht3 : ((te : Int) != 0) = true := by simp; omega
    have HE := Lib.hid hE
    have Hch := Lib.hid hch
    clear hch h1 h0 hE
    go_enter Tryz.func19, Tryz.ntmps19
    go_wp2_with (go_at_call 49; refine (Hch.out _ _ Hlit0.out).mono ?_; rintro e w1 ⟨rfl, hb1⟩; obtain ⟨hB1, u0, u1, u2⟩ := box3 (Hb0.out.trans (hb1.mono Hb0.out.size)))
    go_ret3
    exact ⟨by rw [Hh.out, Ht.out, HE.out]; rfl, hB1⟩

theorem refKept_any (s : ByteArray) (x : Sp) (w : World) (hs : s.size ≤ 100000) (hx : x.text.size ≤ 100000) :
    Calls Tryz.prog 19 #[.string s, .agg #[.int .i64 x.lo, .int .i64 x.hi, .string x.text]] w (KeptP s x w) := by
  by_cases h0 : keptErr s x = 0
  · exact refKept_good s x w hs hx h0
  · exact refKept_err s x w hs hx h0

end Go.Proofs.YtocogbllhmiefaaGreatDoor.Lx
