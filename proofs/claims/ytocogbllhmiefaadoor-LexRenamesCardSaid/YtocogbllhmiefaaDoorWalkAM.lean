/- LexRenames: its walk. -/
import Derived.Test.YtocogbllhmiefaaDoorWalkAL
namespace Go.Proofs.YtocogbllhmiefaaDoor.Lx
open Go Go.Proofs Go.RowKit Go.Shelf

set_option maxRecDepth 100000 in
set_option maxHeartbeats 4000000 in
theorem lexRenames_out (s old name : ByteArray) (w : World) (hG : Gl w) (h : 3000 < s.size ∨ 100 < old.size ∨ 100 < name.size) :
    Calls Tryd.prog 6 #[.string s, .string old, .string name] w (AwakeP w) := by
  by_cases h1 : 3000 < s.size
  · clear h
    go_enter Tryd.func6, Tryd.ntmps6
    go_wp2_with (go_at_call 14; refine (awake_any _ hG).mono ?_; rintro e w1 ⟨rfl, hb1⟩)
    go_ret
    exact ⟨rfl, hb1⟩
  · by_cases h2 : 100 < old.size
    · clear h
      go_enter Tryd.func6, Tryd.ntmps6
      go_wp2_with (go_at_call 14; refine (awake_any _ hG).mono ?_; rintro e w1 ⟨rfl, hb1⟩)
      go_ret
      exact ⟨rfl, hb1⟩
    · have h3 : 100 < name.size := by omega
      clear h
      go_enter Tryd.func6, Tryd.ntmps6
      go_wp2_with (go_at_call 14; refine (awake_any _ hG).mono ?_; rintro e w1 ⟨rfl, hb1⟩)
      go_ret
      exact ⟨rfl, hb1⟩

set_option maxRecDepth 100000 in
set_option maxHeartbeats 4000000 in
theorem lexRenames_any (s old name : ByteArray) (w : World) (hG : Gl w) :
    Calls Tryd.prog 6 #[.string s, .string old, .string name] w fun e w' => e = .returned (.bool true) ∧ Below w.heap.size w w' := by
  by_cases hl : 3000 < s.size ∨ 100 < old.size ∨ 100 < name.size
  · exact lexRenames_out s old name w hG hl
  · have hr1 := fun W hG' => rename_any s old name W (by omega) (by omega) (by omega) hG'
    have hr2 := fun W => refRename_any s old name W (by omega) (by omega) (by omega)
    unfold RenameP at hr1 hr2
    generalize renErr s old name = er at hr1 hr2
    generalize renamed s old name = rn at hr1 hr2
    have n1 : ¬ 3000 < s.size := by omega
    have n2 : ¬ 100 < old.size := by omega
    have n3 : ¬ 100 < name.size := by omega
    have q1 : ((er : Int) == (er : Int)) = true := by simp
    have q2 : (rn.toList == rn.toList) = true := by simp
    have Hr1 := Lib.hid hr1
    have Hr2 := Lib.hid hr2
    clear hr1 hr2 hl
    go_enter Tryd.func6, Tryd.ntmps6
    go_wp2_with (first
      | (go_at_call 30; refine (Hr1.out _ hG).mono ?_; rintro e w1 ⟨rfl, hb1⟩)
      | (go_at_call 31; refine (Hr2.out _).mono ?_; rintro e w2 ⟨rfl, hb2⟩)
      | (go_at_call 14; refine (awake_any _ (hG.next (hb1.trans (hb2.mono hb1.size)))).mono ?_; rintro e w3 ⟨rfl, hb3⟩))
    go_ret
    have hB := hb1.trans (hb2.mono hb1.size)
    exact ⟨rfl, hB.trans (hb3.mono hB.size)⟩

end Go.Proofs.YtocogbllhmiefaaDoor.Lx
