/- ArenaTexts: the text of any move, and the move with any text, or the errors, are what the document says. -/
import Derived.Test.YtoncdnelacolaaaGreatDoorARefW
import Derived.Test.YtoncdnelacolaaaGreatDoorAAwake
namespace Go.Proofs.YtoncdnelacolaaaGreatDoor.Ar
open Go Go.Proofs Go.RowKit Go.Sort Lx Ps

theorem refR_form (s : List UInt8) : ∃ (x : Mv) (e : Nat), refR s = .tuple #[mvV x, .int .i64 (e : Int)] := by
  unfold refR
  split
  · exact ⟨_, 4, rfl⟩
  · split
    · exact ⟨_, 0, rfl⟩
    · exact ⟨_, 4, rfl⟩
theorem textR_form (m : Mv) : ∃ (x : ByteArray) (e : Nat), textR m = .tuple #[.string x, .int .i64 (e : Int)] := by
  unfold textR
  split
  · exact ⟨_, 0, rfl⟩
  · exact ⟨_, 4, rfl⟩

set_option maxRecDepth 100000 in
set_option maxHeartbeats 4000000 in
theorem arenaTexts_any (m : Mv) (sb : ByteArray) (w : World) (hm : MvOk m) (hG : Ga w) :
    Calls Tryz.prog 7 #[mvV m, .string sb] w fun e w' => e = .returned (.bool true) ∧ Below w.heap.size w w' := by
  obtain ⟨s, rfl⟩ : ∃ s, sb = strB s := ⟨sb.data.toList, (strB_eta sb).symm⟩
  have HA := Lib.hid (fun V (hb : Below w.heap.size w V) => awake_any V (hG.next hb))
  have hT := fun V (hb : Below w.heap.size w V) => text_any m V hm (hG.next hb)
  have hRT := fun V => refText_any m V hm
  have hRP := fun V => refParse_any s V
  have hP : s.length ≤ 200 → ∀ V, Below w.heap.size w V → Calls Tryz.prog 42 #[.string (strB s)] V fun e w' => e = .returned (refR s) ∧ Below V.heap.size V w' := fun hl V hb =>
    (parse_any s V (by omega) (hG.next hb)).mono fun e w' ⟨v, h1, h2, h3⟩ => ⟨by rw [h1, parseP_ref h2], h3⟩
  obtain ⟨x, ex, hx⟩ := refR_form s
  obtain ⟨tx, et, ht⟩ := textR_form m
  rw [hx] at hRP
  simp only [hx] at hP
  rw [ht] at hT hRT
  have hsz := strB_size s
  have k0 := heap_alloc_new w (.cells #[.int .i64 m.id, .int .i64 m.arg, .int .u8 (m.kind : Int), .int .i64 m.n] 40)
  have hb0 : Below w.heap.size w (w.alloc (.cells #[.int .i64 m.id, .int .i64 m.arg, .int .u8 (m.kind : Int), .int .i64 m.n] 40)) := (Below.refl _ _).alloc (Nat.le_refl _) _
  have hE : ∀ U : World, (Op.equalIn 10000 40 (.agg #[.int .i64 x.id, .int .i64 x.arg, .int .u8 (x.kind : Int), .int .i64 x.n]) (.agg #[.int .i64 x.id, .int .i64 x.arg, .int .u8 (x.kind : Int), .int .i64 x.n])).run Tryz.prog U = .ok true U := fun U => by rw [mv_equal x x U, (sameMv_iff x x).2 rfl]
  unfold mvV at *
  by_cases hl : s.length ≤ 200
  · have hl1 : ¬ (200 : Int) < (s.length : Int) := by omega
    have hP := hP hl
    have HT := Lib.hid hT
    have HRT := Lib.hid hRT
    have HRP := Lib.hid hRP
    have HP := Lib.hid hP
    clear hT hRT hRP hP hl hG hm hx ht
    generalize strB s = S at *
    go_enter Tryz.func7, Tryz.ntmps7
    go_upto_region 1 with (fail)
    generalize w.alloc (.cells #[.int .i64 m.id, .int .i64 m.arg, .int .u8 (m.kind : Int), .int .i64 m.n] 40) = V at k0 hb0 ⊢
    obtain ⟨⟨c0, c1, c2, c3⟩, -, hl0⟩ := four_c k0
    have HK := Lib.hid k0
    clear k0
    go_upto_region 5 with (first
      | (go_at_call 41; refine (HT.out _ hb0).mono ?_; rintro r w1 ⟨rfl, hb1⟩; have hb2 := hb0.trans (hb1.mono hb0.size))
      | (go_at_call 42; refine (HP.out _ hb2).mono ?_; rintro r w2 ⟨rfl, hb3⟩))
    have hv3 := hb1.trans (hb3.mono hb1.size)
    have hX : Below w2.heap.size w2 (w2.alloc (.cells #[.int .i64 x.id, .int .i64 x.arg, .int .u8 (x.kind : Int), .int .i64 x.n] 40)) := (Below.refl _ _).alloc (Nat.le_refl _) _
    have hvX := hv3.trans (hX.mono hv3.size)
    have NX := heap_alloc_new w2 (.cells #[.int .i64 x.id, .int .i64 x.arg, .int .u8 (x.kind : Int), .int .i64 x.n] 40)
    obtain ⟨⟨e0, e1, e2, e3⟩, -, -⟩ := four_c (heap_below hvX hl0 HK.out)
    clear c0 c1 c2 c3 hb1 hb2 hb3 hv3 hX HT HP
    generalize w2.alloc (.cells #[.int .i64 x.id, .int .i64 x.arg, .int .u8 (x.kind : Int), .int .i64 x.n] 40) = X at *
    generalize w2.heap.size = B2 at *
    have HNX := Lib.hid NX
    have hlX := (Array.getElem?_eq_some_iff.1 NX).1
    clear NX
    go_upto_region 7 with (first
      | (go_at_call 43; refine (HRT.out _).mono ?_; rintro r w4 ⟨rfl, hb4⟩)
      | (go_at_call 44; refine (HRP.out _).mono ?_; rintro r w5 ⟨rfl, hb5⟩))
    have hx5 := hb4.trans (hb5.mono hb4.size)
    have hY : Below w5.heap.size w5 (w5.alloc (.cells #[.int .i64 x.id, .int .i64 x.arg, .int .u8 (x.kind : Int), .int .i64 x.n] 40)) := (Below.refl _ _).alloc (Nat.le_refl _) _
    have hxY := hx5.trans (hY.mono hx5.size)
    have NY := heap_alloc_new w5 (.cells #[.int .i64 x.id, .int .i64 x.arg, .int .u8 (x.kind : Int), .int .i64 x.n] 40)
    have MY := heap_below hxY hlX HNX.out
    have hbY := hb0.trans ((hvX.trans (hxY.mono hvX.size)).mono hb0.size)
    clear e0 e1 e2 e3 hb4 hb5 hx5 hY hxY hvX HRT HRP HNX hlX hl0 HK hb0
    generalize w5.alloc (.cells #[.int .i64 x.id, .int .i64 x.arg, .int .u8 (x.kind : Int), .int .i64 x.n] 40) = Y at *
    generalize w5.heap.size = B5 at *
    obtain ⟨⟨c0, c1, c2, c3⟩, -, -⟩ := four_c NY
    obtain ⟨⟨e0, e1, e2, e3⟩, -, -⟩ := four_c MY
    clear NY MY
    go_wp2_with (go_at_call 17; refine (HA.out _ hbY).mono ?_; rintro r w9 ⟨rfl, hb9⟩)
    go_ret
    exact ⟨rfl, hbY.trans (hb9.mono hbY.size)⟩
  · have hl1 : (200 : Int) < (s.length : Int) := by omega
    clear hT hRT hRP hP hl hG hm hE hx ht
    generalize strB s = S at *
    go_enter Tryz.func7, Tryz.ntmps7
    go_wp2_with (go_at_call 17; refine (HA.out _ hb0).mono ?_; rintro r w9 ⟨rfl, hb9⟩)
    go_ret
    exact ⟨rfl, hb0.trans (hb9.mono hb0.size)⟩

end Go.Proofs.YtoncdnelacolaaaGreatDoor.Ar
