/- Kept, with its errors. -/
import Derived.Test.YtocogbllhmiefaaGreatDoorWalkAW
namespace Go.Proofs.YtocogbllhmiefaaGreatDoor.Lx
open Go Go.Proofs Go.RowKit Go.Shelf

set_option maxRecDepth 100000 in
set_option maxHeartbeats 4000000 in
theorem kept_err (s : ByteArray) (x : Sp) (w : World) (hs : s.size ≤ 100000) (hx : x.text.size ≤ 100000) (hG : Gl w) (h0 : keptErr s x ≠ 0) :
    Calls Tryz.prog 18 #[.string s, .agg #[.int .i64 x.lo, .int .i64 x.hi, .string x.text]] w (KeptP s x w) := by
  have Hh := Lib.hid (show keptHead s x = 0 from if_neg h0)
  have Ht := Lib.hid (show keptTail s x = 0 from if_neg h0)
  have hap := fun W a ha => apply_any s a [x] W hs ha (by simp) (by simpa using hx)
  have Hlit : Hid (SlSp ((w.alloc (.cells #[.int .i64 x.lo, .int .i64 x.hi, .string x.text] 40)).alloc (.cells #[.int .i64 x.lo, .int .i64 x.hi, .string x.text] 40)) (.slice (some ⟨w.heap.size + 1, 0, none⟩) 1 1) [x]) := by
    have h := SlSp.lit (w.alloc (.cells #[.int .i64 x.lo, .int .i64 x.hi, .string x.text] 40)) [x] 1
    rw [alloc_sz] at h
    exact h
  have Hb0 := Lib.hid (((Below.refl w.heap.size w).alloc (Nat.le_refl _) (.cells #[.int .i64 x.lo, .int .i64 x.hi, .string x.text] 40)).alloc (by rw [alloc_sz]; omega) (.cells #[.int .i64 x.lo, .int .i64 x.hi, .string x.text] 40))
  by_cases h1 : splErr s [x] = 0
  · have hts : (applied s [x]).size ≤ 2500 := (text_ok (text_after h1).1).1
    rw [h1] at hap
    have htk1 := fun W hG' => tokens_any s W hs hG'
    by_cases h2 : (tokens s).2.2 = 0
    · have hE : keptErr s x = (tokens (applied s [x])).2.2 := by unfold keptErr; rw [if_neg (by simp [h1]), if_neg (by simp [h2])]
      have htk2 := fun W hG' => tokens_any (applied s [x]) W (by omega) hG'
      rw [h2] at htk1
      rw [hE] at h0
      generalize applied s [x] = t at *
      generalize (tokens t).2.2 = te at *
      generalize (tokens t).2.1 = p2 at *
      generalize (tokens t).1 = M at *
      generalize (tokens s).2.1 = p1 at *
      generalize (tokens s).1 = L at *
      have ht3 : ((te : Int) != 0) = true := by simp; omega
      have HE := Lib.hid hE
      have Hap := Lib.hid hap
      have Htk1 := Lib.hid htk1
      have Htk2 := Lib.hid htk2
      clear hap htk1 htk2 h1 h2 h0 hE hts
      go_enter Tryz.func18, Tryz.ntmps18
      go_wp2_with (first
        | (go_at_call 20; refine (Htk2.out _ (hG.next hB2)).mono ?_; rintro e w3 ⟨v3, rfl, hown3, hb3⟩; have hB3 := hB2.trans (hb3.mono hB2.size); obtain ⟨A3, c3, rfl⟩ := own_form hown3)
        | (go_at_call 20; refine (Htk1.out _ (hG.next hB1)).mono ?_; rintro e w2 ⟨v2, rfl, hown2, hb2⟩; have hB2 := hB1.trans (hb2.mono hB1.size); obtain ⟨A2, c2, rfl⟩ := own_form hown2)
        | (go_at_call 26; refine (Hap.out _ _ Hlit.out).mono ?_; rintro e w1 ⟨rfl, hb1⟩; have hB1 := Hb0.out.trans (hb1.mono Hb0.out.size)))
      go_ret3
      exact ⟨by rw [Hh.out, Ht.out, HE.out]; rfl, hB3⟩
    · have hE : keptErr s x = (tokens s).2.2 := by unfold keptErr; rw [if_neg (by simp [h1]), if_pos (by simp [h2])]
      rw [hE] at h0
      generalize applied s [x] = t at *
      generalize (tokens s).2.2 = te at *
      generalize (tokens s).2.1 = p1 at *
      generalize (tokens s).1 = L at *
      have ht3 : ((te : Int) != 0) = true := by simp; omega
      have HE := Lib.hid hE
      have Hap := Lib.hid hap
      have Htk1 := Lib.hid htk1
      clear hap htk1 h1 h2 h0 hE hts
      go_enter Tryz.func18, Tryz.ntmps18
      go_wp2_with (first
        | (go_at_call 20; refine (Htk1.out _ (hG.next hB1)).mono ?_; rintro e w2 ⟨v2, rfl, hown2, hb2⟩; have hB2 := hB1.trans (hb2.mono hB1.size); obtain ⟨A2, c2, rfl⟩ := own_form hown2)
        | (go_at_call 26; refine (Hap.out _ _ Hlit.out).mono ?_; rintro e w1 ⟨rfl, hb1⟩; have hB1 := Hb0.out.trans (hb1.mono Hb0.out.size)))
      go_ret3
      exact ⟨by rw [Hh.out, Ht.out, HE.out]; rfl, hB2⟩
  · have hE : keptErr s x = splErr s [x] := by unfold keptErr; rw [if_pos h1]
    generalize applied s [x] = t at *
    generalize splErr s [x] = te at *
    have ht3 : ((te : Int) != 0) = true := by simp; omega
    have HE := Lib.hid hE
    have Hap := Lib.hid hap
    clear hap h1 h0 hE
    go_enter Tryz.func18, Tryz.ntmps18
    go_wp2_with (go_at_call 26; refine (Hap.out _ _ Hlit.out).mono ?_; rintro e w1 ⟨rfl, hb1⟩; have hB1 := Hb0.out.trans (hb1.mono Hb0.out.size))
    go_ret3
    exact ⟨by rw [Hh.out, Ht.out, HE.out]; rfl, hB1⟩

theorem kept_any (s : ByteArray) (x : Sp) (w : World) (hs : s.size ≤ 100000) (hx : x.text.size ≤ 100000) (hG : Gl w) :
    Calls Tryz.prog 18 #[.string s, .agg #[.int .i64 x.lo, .int .i64 x.hi, .string x.text]] w (KeptP s x w) := by
  by_cases h0 : keptErr s x = 0
  · exact kept_good s x w hs hx hG h0
  · exact kept_err s x w hs hx hG h0

end Go.Proofs.YtocogbllhmiefaaGreatDoor.Lx
