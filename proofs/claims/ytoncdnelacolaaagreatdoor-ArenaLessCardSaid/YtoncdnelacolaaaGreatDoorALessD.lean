/- Less. -/
import Derived.Test.YtoncdnelacolaaaGreatDoorALessC
import Derived.Deep.RegionLaw
import Derived.Deep.RegionWith
import Derived.RegionTactic
import Derived.BigRegion
import Derived.Deep.RegionHeld3
namespace Go.Proofs.YtoncdnelacolaaaGreatDoor.Ar
open Go Go.Proofs Go.RowKit Lx Ps

set_option maxRecDepth 100000 in
set_option maxHeartbeats 1000000 in
theorem less_any (x y : Mv) (w : World) :
    Calls Tryz.prog 47 #[mvV x, mvV y] w fun e w' => e = .returned (.bool (lessM x y)) ∧ Below w.heap.size w w' := by
  rw [← cmp_less]
  have hO : ∀ V : World, Calls Tryz.prog 105 #[.slice (some ⟨V.heap.size, 0, none⟩) 4 4] (V.alloc (.cells #[.int .i64 (Lib.compareInt x.id y.id), .int .i64 (Lib.compareInt x.arg y.arg), .int .i64 (Lib.compareInt x.kind y.kind), .int .i64 (Lib.compareInt x.n y.n)] 3)).drew fun e w' => e = .returned (.int .i64 (orL (cmpL x y))) ∧ w' = (V.alloc (.cells #[.int .i64 (Lib.compareInt x.id y.id), .int .i64 (Lib.compareInt x.arg y.arg), .int .i64 (Lib.compareInt x.kind y.kind), .int .i64 (Lib.compareInt x.n y.n)] 3)).drew := fun V => or_any V.heap.size (cmpL x y) _ (by simp [cmpL]) (fun k u hu => by
    obtain ⟨⟨h0, h1, h2, h3⟩, -, -⟩ := four_c (heap_alloc_new V (.cells #[.int .i64 (Lib.compareInt x.id y.id), .int .i64 (Lib.compareInt x.arg y.arg), .int .i64 (Lib.compareInt x.kind y.kind), .int .i64 (Lib.compareInt x.n y.n)] 3))
    match k with
    | 0 => simp [cmpL] at hu; subst hu; exact h0
    | 1 => simp [cmpL] at hu; subst hu; exact h1
    | 2 => simp [cmpL] at hu; subst hu; exact h2
    | 3 => simp [cmpL] at hu; subst hu; exact h3
    | k + 4 => simp [cmpL] at hu)
  have HO := Lib.hid hO
  clear hO
  obtain ⟨k0, k1⟩ := blocks2 w (.cells #[.int .i64 x.id, .int .i64 x.arg, .int .u8 (x.kind : Int), .int .i64 x.n] 40) (.cells #[.int .i64 y.id, .int .i64 y.arg, .int .u8 (y.kind : Int), .int .i64 y.n] 40)
  have hba : Below w.heap.size w ((w.alloc (.cells #[.int .i64 x.id, .int .i64 x.arg, .int .u8 (x.kind : Int), .int .i64 x.n] 40)).alloc (.cells #[.int .i64 y.id, .int .i64 y.arg, .int .u8 (y.kind : Int), .int .i64 y.n] 40)) := below_two
  unfold mvV
  go_enter Tryz.func47, Tryz.ntmps47
  go_upto_region 1 with (fail)
  generalize (w.alloc (.cells #[.int .i64 x.id, .int .i64 x.arg, .int .u8 (x.kind : Int), .int .i64 x.n] 40)).alloc (.cells #[.int .i64 y.id, .int .i64 y.arg, .int .u8 (y.kind : Int), .int .i64 y.n] 40) = V at k0 k1 hba ⊢
  obtain ⟨⟨c0, c1, c2, c3⟩, -, hl0⟩ := four_c k0
  obtain ⟨⟨d0, d1, d2, d3⟩, -, hl1⟩ := four_c k1
  clear k0 k1
  have HC := Lib.hid (fun a b W => Tryz.cmp_Compare_int a b W)
  have H8 := Lib.hid (fun a b W => compare8_any a b W)
  go_region_held3 (fun w' => w'.cell? ⟨w.heap.size, 0, none⟩ = some (.int .i64 x.id) ∧ w'.cell? ⟨w.heap.size, 1, none⟩ = some (.int .i64 x.arg) ∧ w'.cell? ⟨w.heap.size, 2, none⟩ = some (.int .u8 (x.kind : Int)) ∧ w'.cell? ⟨w.heap.size, 3, none⟩ = some (.int .i64 x.n) ∧ w'.cell? ⟨w.heap.size + 1, 0, none⟩ = some (.int .i64 y.id) ∧ w'.cell? ⟨w.heap.size + 1, 1, none⟩ = some (.int .i64 y.arg) ∧ w'.cell? ⟨w.heap.size + 1, 2, none⟩ = some (.int .u8 (y.kind : Int)) ∧ w'.cell? ⟨w.heap.size + 1, 3, none⟩ = some (.int .i64 y.n))
    (first
      | (go_split_ands; all_goals (first | exact c0 | exact c1 | exact c2 | exact c3 | exact d0 | exact d1 | exact d2 | exact d3 | assumption))
      | go_keep)
    ((first
      | (go_at_call 106; refine (HC.out _ _ _).mono ?_; rintro e _ ⟨rfl, rfl⟩)
      | (go_at_call 107; refine (H8.out _ _ _).mono ?_; rintro e _ ⟨rfl, rfl⟩)
      | (go_at_call 105; refine (HO.out _).mono ?_; rintro e _ ⟨rfl, rfl⟩)))
  have hbe := (hba.alloc hba.size (.cells #[.int .i64 (Lib.compareInt x.id y.id), .int .i64 (Lib.compareInt x.arg y.arg), .int .i64 (Lib.compareInt x.kind y.kind), .int .i64 (Lib.compareInt x.n y.n)] 3)).drew
  go_wp2
  go_ret
  exact ⟨rfl, hbe⟩

end Go.Proofs.YtoncdnelacolaaaGreatDoor.Ar
