/- LexFar: for every text and every splice it returns true. -/
import Derived.Test.YtocogbllhmiefaaDoorWalkAY
namespace Go.Proofs.YtocogbllhmiefaaDoor.Lx
open Go Go.Proofs Go.RowKit Go.Shelf

set_option maxRecDepth 100000 in
set_option maxHeartbeats 4000000 in
theorem lexFar_any (s : ByteArray) (x : Sp) (w : World) (hG : Gl w) :
    Calls Tryd.prog 10 #[.string s, .agg #[.int .i64 x.lo, .int .i64 x.hi, .string x.text]] w (AwakeP w) := by
  have Hb0 := Lib.hid ((Below.refl w.heap.size w).alloc (Nat.le_refl _) (.cells #[.int .i64 x.lo, .int .i64 x.hi, .string x.text] 55))
  by_cases hs : 3000 < s.size
  · go_enter Tryd.func10, Tryd.ntmps10
    go_wp2_with (go_at_call 14; refine (awake_any _ (hG.next Hb0.out)).mono ?_; rintro e w1 ⟨rfl, hb1⟩)
    go_ret
    exact ⟨rfl, Hb0.out.trans (hb1.mono Hb0.out.size)⟩
  · by_cases hx : 3000 < x.text.size
    · go_enter Tryd.func10, Tryd.ntmps10
      go_wp2_with (go_at_call 14; refine (awake_any _ (hG.next Hb0.out)).mono ?_; rintro e w1 ⟨rfl, hb1⟩)
      go_ret
      exact ⟨rfl, Hb0.out.trans (hb1.mono Hb0.out.size)⟩
    · by_cases h0 : keptErr s x = 0
      · obtain ⟨lo, hi, q1, q2, -, -, -⟩ := one_splice (kept_parts h0).1
        obtain ⟨l, h, t⟩ := x
        have q1' : l = (lo : Int) := q1
        have q2' : h = (hi : Int) := q2
        subst q1'
        subst q2'
        exact lexFar_in s t lo hi w hG (by omega) (by have : ¬ 3000 < t.size := hx
                                                      omega) h0
      · have hke := fun W hG' => kept_any s x W (by omega) (by omega) hG'
        unfold KeptP at hke
        generalize keptErr s x = te at *
        generalize keptHead s x = hd at *
        generalize keptTail s x = tl at *
        have ht3 : ((te : Int) != 0) = true := by simp; omega
        have Hke := Lib.hid hke
        clear hke h0
        go_enter Tryd.func10, Tryd.ntmps10
        go_wp2_with (first
          | (go_at_call 14; refine (awake_any _ (hG.next hB1)).mono ?_; rintro e w2 ⟨rfl, hb2⟩)
          | (go_at_call 37; refine (Hke.out _ (hG.next Hb0.out)).mono ?_; rintro e w1 ⟨rfl, hb1⟩; have hB1 := Hb0.out.trans (hb1.mono Hb0.out.size)))
        go_ret
        exact ⟨rfl, hB1.trans (hb2.mono hB1.size)⟩

end Go.Proofs.YtocogbllhmiefaaDoor.Lx
