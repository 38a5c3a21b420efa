/- Show: an arena's text, or its error. -/
import Derived.Test.YtoncdnelacolaaaGreatDoorAShow
namespace Go.Proofs.YtoncdnelacolaaaGreatDoor.Ar
open Go Go.Proofs Go.RowKit Lx Ps

/-- What Show returns. -/
def showR (a : Ar) : Value := if checkE a = 0 then .tuple #[.string (strB (arenaT a)), .int .i64 0] else .tuple #[.string (strB []), .int .i64 (checkE a : Int)]

set_option maxRecDepth 100000 in
set_option maxHeartbeats 1000000 in
/-- Given arenaText's contract. -/
theorem show_of (ids : Value) (a : Ar) (w : World) (hin : ArIn w ids a)
    (hT : checkE a = 0 → ∀ V, Below w.heap.size w V → Calls Tryz.prog 63 #[arV ids a] V fun e w' => e = .returned (.string (strB (arenaT a))) ∧ Below V.heap.size V w') :
    Calls Tryz.prog 21 #[arV ids a] w fun e w' => e = .returned (showR a) ∧ Below w.heap.size w w' := by
  have hC : ∀ V, Below w.heap.size w V → Calls Tryz.prog 19 #[arV ids a] V fun e w' => e = .returned (.int .i64 (checkE a : Int)) ∧ Below V.heap.size V w' := fun V hb => check_any ids a V (hin.below hb)
  obtain ⟨A, cap, rfl, -⟩ := hin.sl
  clear hin
  have hb0 : Below w.heap.size w (w.alloc (.cells #[.slice A a.ids.length cap, .bool a.root.cell, .int .i64 a.root.n, .bool a.jumps] 26)) := (Below.refl _ _).alloc (Nat.le_refl _) _
  have K := heap_alloc_new w (.cells #[.slice A a.ids.length cap, .bool a.root.cell, .int .i64 a.root.n, .bool a.jumps] 26)
  unfold showR
  by_cases h0 : checkE a = 0
  · rw [if_pos h0]
    have hT := hT h0
    rw [h0] at hC
    have HC := Lib.hid hC
    have HT := Lib.hid hT
    clear hC hT h0
    generalize strB (arenaT a) = sa at *
    unfold arV at *
    go_enter Tryz.func21, Tryz.ntmps21
    go_upto_region 1 with (fail)
    generalize w.alloc (.cells #[.slice A a.ids.length cap, .bool a.root.cell, .int .i64 a.root.n, .bool a.jumps] 26) = V at K hb0 ⊢
    obtain ⟨⟨c0, c1, c2, c3⟩, -, hVl⟩ := four_c K
    have HK := Lib.hid K
    clear K
    go_wp2_with (first
      | (go_at_call 19; refine (HC.out _ hb0).mono ?_; rintro e w1 ⟨rfl, hb1⟩; obtain ⟨⟨d0, d1, d2, d3⟩, -, hVl1⟩ := four_c (heap_below hb1 hVl HK.out); have hb2 := hb0.trans (hb1.mono hb0.size))
      | (go_at_call 63; refine (HT.out _ hb2).mono ?_; rintro e w3 ⟨rfl, hb3⟩))
    refine bodyPost_ret (v := .tuple #[.string sa, .int .i64 0]) (by simp [results, Tryz.results21, go_sem]) rfl ⟨rfl, ?_⟩
    exact hb2.trans (hb3.mono hb2.size)
  · rw [if_neg h0]
    have hne : ((checkE a : Int) != 0) = true := by simp; omega
    generalize checkE a = e at *
    have HC := Lib.hid hC
    clear hC hT h0
    unfold arV at *
    go_enter Tryz.func21, Tryz.ntmps21
    go_upto_region 1 with (fail)
    generalize w.alloc (.cells #[.slice A a.ids.length cap, .bool a.root.cell, .int .i64 a.root.n, .bool a.jumps] 26) = V at K hb0 ⊢
    obtain ⟨⟨c0, c1, c2, c3⟩, -, hVl⟩ := four_c K
    clear K
    go_wp2_with (go_at_call 19; refine (HC.out _ hb0).mono ?_; rintro e1 w1 ⟨rfl, hb1⟩; have hb2 := hb0.trans (hb1.mono hb0.size))
    refine bodyPost_ret (v := .tuple #[.string ⟨#[]⟩, .int .i64 (e : Int)]) (by simp [results, Tryz.results21, go_sem]) rfl ⟨rfl, ?_⟩
    exact hb2

end Go.Proofs.YtoncdnelacolaaaGreatDoor.Ar
