/- moves: the moves of a small arena, which ascend. -/
import Derived.Test.YtoncdnelacolaaaGreatDoorARefQ
import Derived.Test.YtoncdnelacolaaaGreatDoorASpecI
import Derived.Test.YtoncdnelacolaaaGreatDoorALessD
import Derived.Deep.RegionHeld3
namespace Go.Proofs.YtoncdnelacolaaaGreatDoor.Ar
open Go Go.Proofs Go.RowKit Go.Sort Lx Ps

set_option maxRecDepth 100000 in
set_option maxHeartbeats 2000000 in
theorem lawMoves_any (ids : Value) (a : Ar) (w : World) (hin : ArIn w ids a) (h0 : checkE a = 0) (hs : (allM a).length ≤ 300) (hl : a.ids.length ≤ 1000) (hls : ∀ t ∈ a.ids, t.params.length ≤ 1000) :
    Calls Tryz.prog 51 #[arV ids a] w fun e w' => ∃ v, e = .returned (.tuple #[v, .bool true]) ∧ SlM w' v (allM a) ∧ Below w.heap.size w w' := by
  have hCp := fun V (hb : Below w.heap.size w V) => copy_any ids a V (hin.below hb) hl hls
  have hM := fun (A5 : Option Addr) (c5 : Nat) V (h : ArIn V (.slice A5 a.ids.length c5) a) => moves_any _ a V h h0
  have hup := fun (i : Nat) (x y : Mv) (hx : (allM a)[i]? = some x) (hy : (allM a)[i + 1]? = some y) => all_step hx hy
  obtain ⟨A, cap, rfl, -⟩ := hin.sl
  clear hin h0 hl hls
  generalize allM a = L at *
  have k0 := heap_alloc_new w (.cells #[.slice A a.ids.length cap, .bool a.root.cell, .int .i64 a.root.n, .bool a.jumps] 26)
  have hb0 : Below w.heap.size w (w.alloc (.cells #[.slice A a.ids.length cap, .bool a.root.cell, .int .i64 a.root.n, .bool a.jumps] 26)) := (Below.refl _ _).alloc (Nat.le_refl _) _
  unfold arV at *
  have HC := Lib.hid hCp
  have HM := Lib.hid hM
  have HUP := Lib.hid hup
  have HLS := Lib.hid (fun x y V => less_any x y V)
  clear hCp hM hup
  go_enter Tryz.func51, Tryz.ntmps51
  go_upto_region 1 with (fail)
  generalize w.alloc (.cells #[.slice A a.ids.length cap, .bool a.root.cell, .int .i64 a.root.n, .bool a.jumps] 26) = V at k0 hb0 ⊢
  obtain ⟨⟨c0, c1, c2, c3⟩, -, hl0⟩ := four_c k0
  clear k0
  go_upto_region 4 with (first
    | (go_at_call 20; refine (HM.out _ _ _ hin5).mono ?_; rintro r w4 ⟨v6, rfl, hown, hb7⟩; have hb4 := hb3.trans (hb7.mono hb3.size); have hsl := SlM.of_own hown; obtain ⟨A6, c6, rfl⟩ := own_slice hown)
    | (go_at_call 18; refine (HC.out _ hb0).mono ?_; rintro r w3 ⟨v5, rfl, hin5, hb8⟩; have hb3 := hb0.trans (hb8.mono hb0.size); have hin5' := hin5; obtain ⟨A5, c5, rfl, -⟩ := hin5'.sl))
  clear c0 c1 c2 c3 hl0 hb0 hb3 hb7 hb8 hin5 hin5' hown HC HM
  generalize w4 = U at *
  have HSL := Lib.hid hsl
  clear hsl
  go_wp2
  go_loopw [6] (fun c wr => ∃ k : Nat, c = .int .i64 ((k : Int) + 1) ∧ k ≤ L.length ∧ Below U.heap.size U wr) (fun c _ => L.length + 1 - (intOf c).toNat)
  case atStart => exact ⟨0, rfl, Nat.zero_le _, Below.refl _ _⟩
  case round =>
    obtain ⟨k, rfl, hk, hb⟩ := hrel
    have hslr := HSL.out.below hb
    by_cases hlt : k + 1 < L.length
    · have hlt' : ((k : Int) + 1) < (L.length : Int) := by omega
      have hx := List.getElem?_eq_getElem (show k < L.length by omega)
      have hy := List.getElem?_eq_getElem hlt
      have hle := HUP.out k _ _ hx hy
      obtain ⟨AA, cc, hAe, hA⟩ := hslr
      obtain ⟨b, off, hAb, hbl, hc⟩ := hA (by omega)
      simp only [Value.slice.injEq] at hAe
      obtain ⟨rfl, -, rfl⟩ := hAe
      subst hAb
      obtain ⟨x0, x1, x2, x3⟩ := hc k _ hx
      obtain ⟨y0, y1, y2, y3⟩ := hc (k + 1) _ hy
      generalize L[k] = x at *
      generalize L[k + 1] = y at *
      have hwr : IntKind.i64.wrap (((k : Int) + 1) - 1) = (k : Int) := by rw [IntWalk.i64_in _ (by omega)]; omega
      have hLS := HLS.out x y
      rw [hle] at hLS
      unfold mvV at hLS
      have HLE := Lib.hid hLS
      clear hx hy hc hA hle hLS HUP
      go_upto_region 7 with (fail)
      have hb9 : b < wr.heap.size := hbl
      have hwr2 : IntKind.i64.wrap (k : Int) = (k : Int) := IntWalk.i64_in _ (by omega)
      have j0 : (0 : Int) ≤ (k : Int) := by omega
      have j1 : (k : Int) < (L.length : Int) := by omega
      have j2 : (0 : Int) ≤ (k : Int) + 1 := by omega
      have j3 : ((k : Int) + 1).toNat = k + 1 := by omega
      have j4 : ¬ ((k : Int) < 0) := by omega
      have j5 : ¬ ((k : Int) + 1 < 0) := by omega
      have j6 : ¬ ((L.length : Int) ≤ (k : Int)) := by omega
      have j7 : ¬ ((L.length : Int) ≤ (k : Int) + 1) := by omega
      have j8 : k < L.length := by omega
      go_region_held3 (fun w' => w'.cell? ⟨b, off + k * 4, none⟩ = some (.int .i64 x.id) ∧ w'.cell? ⟨b, off + k * 4 + 1, none⟩ = some (.int .i64 x.arg) ∧ w'.cell? ⟨b, off + k * 4 + 2, none⟩ = some (.int .u8 (x.kind : Int)) ∧ w'.cell? ⟨b, off + k * 4 + 3, none⟩ = some (.int .i64 x.n) ∧ w'.cell? ⟨b, off + (k + 1) * 4, none⟩ = some (.int .i64 y.id) ∧ w'.cell? ⟨b, off + (k + 1) * 4 + 1, none⟩ = some (.int .i64 y.arg) ∧ w'.cell? ⟨b, off + (k + 1) * 4 + 2, none⟩ = some (.int .u8 (y.kind : Int)) ∧ w'.cell? ⟨b, off + (k + 1) * 4 + 3, none⟩ = some (.int .i64 y.n))
        (first
          | (go_split_ands; all_goals (first | assumption))
          | go_keep)
        ((first
          | (go_at_call 47; refine (HLE.out _).mono ?_; rintro r w5 ⟨rfl, hb8⟩; have hb5 : Below wr.heap.size wr w5 := ⟨hb8.os, hb8.tape, hb8.output, hb8.size, hb8.block⟩; have q0 := (hb5.cell (p := ⟨b, off + k * 4, none⟩) hb9).trans x0; have q1 := (hb5.cell (p := ⟨b, off + k * 4 + 1, none⟩) hb9).trans x1; have q2 := (hb5.cell (p := ⟨b, off + k * 4 + 2, none⟩) hb9).trans x2; have q3 := (hb5.cell (p := ⟨b, off + k * 4 + 3, none⟩) hb9).trans x3; have q4 := (hb5.cell (p := ⟨b, off + (k + 1) * 4, none⟩) hb9).trans y0; have q5 := (hb5.cell (p := ⟨b, off + (k + 1) * 4 + 1, none⟩) hb9).trans y1; have q6 := (hb5.cell (p := ⟨b, off + (k + 1) * 4 + 2, none⟩) hb9).trans y2; have q7 := (hb5.cell (p := ⟨b, off + (k + 1) * 4 + 3, none⟩) hb9).trans y3)))
      go_wp2
      go_roundw
      case rel => exact ⟨k + 1, by go_num, by omega, hb.trans (hb5.mono hb.size)⟩
      case measure => simp [intOf]; omega
    · have hlt' : ¬ ((k : Int) + 1) < (L.length : Int) := by omega
      go_wp2
      go_ret2
      exact ⟨_, rfl, hslr, hb4.trans (hb.mono hb4.size)⟩

end Go.Proofs.YtoncdnelacolaaaGreatDoor.Ar
