/- LexKeeps: for every text and every splice it returns true. -/
import Derived.Test.YtocogbllhmiefaaGreatDoorWalkBE
import Derived.Test.YtocogbllhmiefaaGreatDoorWalkV
namespace Go.Proofs.YtocogbllhmiefaaGreatDoor.Lx
open Go Go.Proofs Go.RowKit Go.Shelf

set_option maxRecDepth 100000 in
set_option maxHeartbeats 4000000 in
theorem lexKeeps_any (s : ByteArray) (x : Sp) (w : World) (hG : Gl w) :
    Calls Tryz.prog 5 #[.string s, .agg #[.int .i64 x.lo, .int .i64 x.hi, .string x.text]] w (AwakeP w) := by
  have Hb0 := Lib.hid ((Below.refl w.heap.size w).alloc (Nat.le_refl _) (.cells #[.int .i64 x.lo, .int .i64 x.hi, .string x.text] 40))
  by_cases hs : 3000 < s.size
  · go_enter Tryz.func5, Tryz.ntmps5
    go_wp2_with (go_at_call 7; refine (awake_any _ (hG.next Hb0.out)).mono ?_; rintro e w1 ⟨rfl, hb1⟩)
    go_ret
    exact ⟨rfl, Hb0.out.trans (hb1.mono Hb0.out.size)⟩
  · by_cases hx : 3000 < x.text.size
    · go_enter Tryz.func5, Tryz.ntmps5
      go_wp2_with (go_at_call 7; refine (awake_any _ (hG.next Hb0.out)).mono ?_; rintro e w1 ⟨rfl, hb1⟩)
      go_ret
      exact ⟨rfl, Hb0.out.trans (hb1.mono Hb0.out.size)⟩
    · have hke := fun W hG' => kept_any s x W (by omega) (by omega) hG'
      have hre := fun W => refKept_any s x W (by omega) (by omega)
      unfold KeptP at hke hre
      generalize keptErr s x = te at *
      generalize keptHead s x = hd at *
      generalize keptTail s x = tl at *
      have Hke := Lib.hid hke
      have Hre := Lib.hid hre
      clear hke hre
      go_enter Tryz.func5, Tryz.ntmps5
      go_wp2_with (first
        | (go_at_call 7; refine (awake_any _ (hG.next hB2)).mono ?_; rintro e w3 ⟨rfl, hb3⟩)
        | (go_at_call 19; refine (Hre.out _).mono ?_; rintro e w2 ⟨rfl, hb2⟩; have hB2 := hB1.trans (hb2.mono hB1.size))
        | (go_at_call 18; refine (Hke.out _ (hG.next Hb0.out)).mono ?_; rintro e w1 ⟨rfl, hb1⟩; obtain ⟨hB1, u0, u1, u2⟩ := box3 hb1))
      go_ret
      exact ⟨rfl, hB2.trans (hb3.mono hB2.size)⟩

end Go.Proofs.YtocogbllhmiefaaGreatDoor.Lx
