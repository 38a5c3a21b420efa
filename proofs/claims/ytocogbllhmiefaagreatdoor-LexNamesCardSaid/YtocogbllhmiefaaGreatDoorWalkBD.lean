/- LexSpots: for every text, place and spot it returns true. -/
import Derived.Test.YtocogbllhmiefaaGreatDoorWalkBC
import Derived.Test.YtocogbllhmiefaaGreatDoorWalkV
namespace Go.Proofs.YtocogbllhmiefaaGreatDoor.Lx
open Go Go.Proofs Go.RowKit Go.Shelf

theorem spot_more {w w1 : World} {x y : Value} {t : TypeId} (hb : Below (w.alloc (.cells #[x, y] t)).heap.size (w.alloc (.cells #[x, y] t)) w1) :
    Below w.heap.size w w1 ∧ w1.cell? ⟨w.heap.size, 0, none⟩ = some x ∧ w1.cell? ⟨w.heap.size, 1, none⟩ = some y ∧ w.heap.size < w1.heap.size := by
  obtain ⟨h1, h2, h3, _, _⟩ := spot_cells hb
  refine ⟨h1, h2, h3, ?_⟩
  have := hb.size
  rw [alloc_sz] at this
  omega

set_option maxRecDepth 100000 in
set_option maxHeartbeats 8000000 in
theorem lexSpots_in (s : ByteArray) (p line col : Int) (w : World) (hG : Gl w) (hM : Mx w) (hcol : col < 9223372036854775808) (hs : s.size ≤ 3000) (hr : s.size ≤ 600 ∨ 2490 < s.size) :
    Calls Tryz.prog 3 #[.string s, .int .i64 p, .agg #[.int .i64 line, .int .i64 col]] w (AwakeP w) := by
  have Hb0 := Lib.hid ((Below.refl w.heap.size w).alloc (Nat.le_refl _) (.cells #[.int .i64 line, .int .i64 col] 23))
  have h1 := fun W => spot_any s p W (by omega)
  have h2 := fun W => refSpot_any s p W (by omega)
  have h3 := fun W hW => at_any s line col W (by omega) hW hcol
  have h4 := fun W => refAt_any s line col W (by omega)
  unfold SpotP spotVals at h1 h2
  unfold AtP at h3 h4
  unfold spotVals at h3
  generalize (if spotErr s p = 0 then lineOf s p.toNat else 0) = X at *
  generalize (if spotErr s p = 0 then colOf s p.toNat else 0) = Y at *
  generalize spotErr s p = te at *
  generalize atRes s line col = av at *
  generalize atErr s line col = ae at *
  have he := fun W => (spot_equal X Y X Y W).trans (by rw [show spEq X Y X Y = true by unfold spEq; rw [decide_eq_true rfl, decide_eq_true rfl]; rfl])
  have H1 := Lib.hid h1
  have H2 := Lib.hid h2
  have H3 := Lib.hid h3
  have H4 := Lib.hid h4
  clear h1 h2 h3 h4
  rcases hr with hr | hr
  · go_enter Tryz.func3, Tryz.ntmps3
    go_wp2_with (first
      | (go_at_call 7; refine (awake_any _ (hG.next hB4)).mono ?_; rintro e w5 ⟨rfl, hb5⟩)
      | (go_at_call 11; refine (H4.out _).mono ?_; rintro e w4 ⟨rfl, hb4⟩; have hB4 := hB3.trans (hb4.mono hB3.size))
      | (go_at_call 10; refine (H3.out _ (hM.below (hB2.alloc hB2.size _))).mono ?_; rintro e w3 ⟨rfl, hb3⟩; have hk3 := (hk2.alloc hk2.size (.cells #[.int .i64 X, .int .i64 Y] 23)).trans (hb3.mono (by have := hk2.size; rw [alloc_sz w2]; omega)); obtain ⟨hB3, v0, v1, v2⟩ := spot_more hk3)
      | (go_at_call 9; refine (H2.out _).mono ?_; rintro e w2 ⟨rfl, hb2⟩; obtain ⟨-, c0, c1, c2⟩ := spot_more hb2; have hk2 := (hb1.alloc hb1.size (.cells #[.int .i64 X, .int .i64 Y] 23)).trans (hb2.mono (by have := hb1.size; rw [alloc_sz w1]; omega)); obtain ⟨hB2, u0, u1, u2⟩ := spot_more hk2)
      | (go_at_call 8; refine (H1.out _).mono ?_; rintro e w1 ⟨rfl, hb1⟩))
    go_ret
    exact ⟨rfl, hB4.trans (hb5.mono hB4.size)⟩
  · have hr6 : 600 < s.size := by omega
    go_enter Tryz.func3, Tryz.ntmps3
    go_wp2_with (first
      | (go_at_call 7; refine (awake_any _ (hG.next (hB2.alloc hB2.size _))).mono ?_; rintro e w5 ⟨rfl, hb5⟩)
      | (go_at_call 9; refine (H2.out _).mono ?_; rintro e w2 ⟨rfl, hb2⟩; obtain ⟨-, c0, c1, c2⟩ := spot_more hb2; have hk2 := (hb1.alloc hb1.size (.cells #[.int .i64 X, .int .i64 Y] 23)).trans (hb2.mono (by have := hb1.size; rw [alloc_sz w1]; omega)); obtain ⟨hB2, u0, u1, u2⟩ := spot_more hk2)
      | (go_at_call 8; refine (H1.out _).mono ?_; rintro e w1 ⟨rfl, hb1⟩))
    go_ret
    exact ⟨rfl, (hB2.alloc hB2.size _).trans (hb5.mono (by have := hB2.size; rw [alloc_sz]; omega))⟩

set_option maxRecDepth 100000 in
set_option maxHeartbeats 4000000 in
theorem lexSpots_any (s : ByteArray) (p line col : Int) (w : World) (hG : Gl w) (hM : Mx w) (hcol : col < 9223372036854775808) :
    Calls Tryz.prog 3 #[.string s, .int .i64 p, .agg #[.int .i64 line, .int .i64 col]] w (AwakeP w) := by
  have Hb0 := Lib.hid ((Below.refl w.heap.size w).alloc (Nat.le_refl _) (.cells #[.int .i64 line, .int .i64 col] 23))
  by_cases h1 : 3000 < s.size
  · have h6 : ¬ s.size ≤ 2490 := by omega
    go_enter Tryz.func3, Tryz.ntmps3
    go_wp2_with (go_at_call 7; refine (awake_any _ (hG.next Hb0.out)).mono ?_; rintro e w1 ⟨rfl, hb1⟩)
    go_ret
    exact ⟨rfl, Hb0.out.trans (hb1.mono Hb0.out.size)⟩
  · by_cases h2 : 600 < s.size ∧ s.size ≤ 2490
    · obtain ⟨h3, h4⟩ := h2
      go_enter Tryz.func3, Tryz.ntmps3
      go_wp2_with (go_at_call 7; refine (awake_any _ (hG.next Hb0.out)).mono ?_; rintro e w1 ⟨rfl, hb1⟩)
      go_ret
      exact ⟨rfl, Hb0.out.trans (hb1.mono Hb0.out.size)⟩
    · exact lexSpots_in s p line col w hG hM hcol (by omega) (by omega)

end Go.Proofs.YtocogbllhmiefaaGreatDoor.Lx
