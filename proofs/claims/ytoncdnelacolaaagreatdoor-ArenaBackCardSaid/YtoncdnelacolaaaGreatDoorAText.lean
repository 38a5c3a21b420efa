/- What the texts need of the package-level variables; the texts of base types. -/
import Derived.Test.YtoncdnelacolaaaGreatDoorALists
import Derived.Test.YtoncdnelacolaaaGreatDoorASpecB
import Derived.Test.YtoncdnelacolaaaGreatDoorShelf
import Derived.Lib.ItoaLen
import Derived.Lib.AppendIntMem
import Derived.Laws.Concat
namespace Go.Proofs.YtoncdnelacolaaaGreatDoor.Ar
open Go Go.Proofs Go.RowKit Lx Ps

/-- What the walks need of the package-level variables. -/
structure Ga (w : World) : Prop where
  size : 8 ≤ w.heap.size
  tab : Lib.TabIs Tryz.prog w "internal/strconv.uint64pow10" .u64 Lib.pow10Tab
  rng : ∃ te pe, w.cell? ⟨3, 0, none⟩ = some (.iface te pe)
  syn : ∃ te pe, w.cell? ⟨2, 0, none⟩ = some (.iface te pe)
  mx : ∃ m, w.cell? ⟨0, 0, none⟩ = some (.int .i64 m)
theorem global_pow : Tryz.prog.globalNamed "internal/strconv.uint64pow10" = some 1 := by kernel_rfl
theorem Ga.below {w w' : World} (h : Ga w) {B : Nat} (hB : 8 ≤ B) (hb : Below B w w') : Ga w' := by
  obtain ⟨h1, h2, ⟨te, pe, h3⟩, ⟨te2, pe2, h4⟩, m, h5⟩ := h
  exact ⟨Nat.le_trans h1 hb.size, var?_below hb global_pow (by omega) h2,
    ⟨te, pe, (hb.cell (p := ⟨3, 0, none⟩) (by show (3 : Nat) < B; omega)).trans h3⟩,
    ⟨te2, pe2, (hb.cell (p := ⟨2, 0, none⟩) (by show (2 : Nat) < B; omega)).trans h4⟩,
    m, (hb.cell (p := ⟨0, 0, none⟩) (by show (0 : Nat) < B; omega)).trans h5⟩
theorem Ga.next {w w' : World} (h : Ga w) (hb : Below w.heap.size w w') : Ga w' := h.below h.size hb
theorem Ga.up {w V w' : World} (h : Ga w) (h1 : Below w.heap.size w V) (h2 : Below V.heap.size V w') : Ga w' := h.next (h1.trans (h2.mono h1.size))

theorem strB_app (a b : List UInt8) : strB a ++ strB b = strB (a ++ b) := by
  apply ByteArray.ext
  simp [strB]
theorem strB_size (a : List UInt8) : (strB a).size = a.length := by simp [strB, ByteArray.size]

theorem itoa_any (n : Int) (w : World) (h0 : -9223372036854775808 ≤ n) (h1 : n ≤ 9223372036854775807) (hG : Ga w) :
    Calls Tryz.prog 126 #[.int .i64 n] w fun e w' => e = .returned (.string (strB (Lib.itoa n))) ∧ Below w.heap.size w w' :=
  (Tryz.strconv_Itoa n h0 h1 w hG.tab).mono fun _ _ ⟨he, k, os, hw⟩ => ⟨he, hw ▸ Lib.below_grow _ w (Nat.le_refl _) k os⟩

set_option maxRecDepth 100000 in
set_option maxHeartbeats 1000000 in
theorem baseText_any (b : Bs) (w : World) (h0 : -9223372036854775808 ≤ b.n) (h1 : b.n ≤ 9223372036854775807) (hG : Ga w) :
    Calls Tryz.prog 111 #[bsV b] w fun e w' => e = .returned (.string (strB (baseT b))) ∧ Below w.heap.size w w' := by
  have hI : ∀ V, Below w.heap.size w V → Calls Tryz.prog 126 #[.int .i64 b.n] V fun e w' => e = .returned (.string (strB (Lib.itoa b.n))) ∧ Below V.heap.size V w' := fun V hb => itoa_any b.n V h0 h1 (hG.next hb)
  have hl := Lib.itoa_length_le b.n h0 h1
  have hb0 : Below w.heap.size w (w.alloc (.cells #[.bool b.cell, .int .i64 b.n] 24)) := (Below.refl _ _).alloc (Nat.le_refl _) _
  have a1 := fun W => run_string_add_sum (P := Tryz.prog) W ⟨#[99, 101, 108, 108, 32]⟩ (strB (Lib.itoa b.n)) (by rw [strB_size]; simp [ByteArray.size]; omega)
  have a2 := fun W => run_string_add_sum (P := Tryz.prog) W ⟨#[105, 110, 116, 32]⟩ (strB (Lib.itoa b.n)) (by rw [strB_size]; simp [ByteArray.size]; omega)
  have e1 : (⟨#[99, 101, 108, 108, 32]⟩ : ByteArray) ++ strB (Lib.itoa b.n) = strB ([99, 101, 108, 108, 32] ++ Lib.itoa b.n) := strB_app [99, 101, 108, 108, 32] _
  have e2 : (⟨#[105, 110, 116, 32]⟩ : ByteArray) ++ strB (Lib.itoa b.n) = strB ([105, 110, 116, 32] ++ Lib.itoa b.n) := strB_app [105, 110, 116, 32] _
  have hs : baseT b = if b.cell then [99, 101, 108, 108, 32] ++ Lib.itoa b.n else [105, 110, 116, 32] ++ Lib.itoa b.n := rfl
  have HI := Lib.hid hI
  have HS := Lib.hid hs
  have E1 := Lib.hid e1
  have E2 := Lib.hid e2
  clear hI hs e1 e2 hl
  generalize strB (Lib.itoa b.n) = si at *
  unfold bsV
  cases hc : b.cell
  · rw [hc] at HS hb0
    have Hc := Lib.hid hc
    clear hc
    go_enter Tryz.func111, Tryz.ntmps111
    go_wp2_with (go_at_call 126; refine (HI.out _ hb0).mono ?_; rintro e w1 ⟨rfl, hb1⟩)
    go_ret
    exact ⟨by rw [HS.out, E2.out]; rfl, hb0.trans (hb1.mono hb0.size)⟩
  · rw [hc] at HS hb0
    have Hc := Lib.hid hc
    clear hc
    go_enter Tryz.func111, Tryz.ntmps111
    go_wp2_with (go_at_call 126; refine (HI.out _ hb0).mono ?_; rintro e w1 ⟨rfl, hb1⟩)
    go_ret
    exact ⟨by rw [HS.out, E1.out]; rfl, hb0.trans (hb1.mono hb0.size)⟩

end Go.Proofs.YtoncdnelacolaaaGreatDoor.Ar
