/- Lists of what the elements of a list become. -/
import Derived.Test.YtoncdnelacolaaaGreatDoorAMoves
namespace Go.Proofs.YtoncdnelacolaaaGreatDoor.Ar
open Go Go.Proofs Go.RowKit Lx Ps

theorem ty_info : (Tryz.prog.info? 64).map (fun i => (i.zero, i.size, i.bytes)) = some (some (.agg #[.slice none 0 0, .bool false, .int .i64 0]), 3, 40) := by kernel_rfl
theorem str_info : (Tryz.prog.info? 9).map (fun i => (i.zero, i.size, i.bytes)) = some (some (.string ByteArray.empty), 1, 16) := by kernel_rfl
theorem take_flat {α β : Type} (F : α → List β) {l : List α} {k : Nat} (h : k < l.length) : (l.take (k + 1)).flatMap F = (l.take k).flatMap F ++ F l[k] := by
  rw [List.take_succ_eq_append_getElem h, List.flatMap_append]; simp
/-- The cells of a type without params. -/
def tyCells (b : Bs) : List Value := [.slice none 0 0, .bool b.cell, .int .i64 b.n]

set_option maxRecDepth 100000 in
set_option maxHeartbeats 1000000 in
theorem listBT (v : Value) (l : List Bs) (w : World) (hv : SlB w v l) (hl : l.length ≤ 100000)
    (hf : ∀ (x : Bs) (V : World), x ∈ l → Below w.heap.size w V → Calls Tryz.prog 88 #[bsV x] V fun e V' => e = .returned (.agg #[.slice none 0 0, .bool x.cell, .int .i64 x.n]) ∧ Below V.heap.size V V') :
    Calls Tryz.prog 87 #[v, .func (.func 88) #[] #[]] w fun e w' => ∃ u, e = .returned u ∧ w'.ownsRow w.heap.size 64 3 u l.length (l.flatMap tyCells) ∧ Below w.heap.size w w' := by
  obtain ⟨A, cap, rfl, hA⟩ := hv
  obtain ⟨i0, hi, hz0, hz1, hz2⟩ := info_parts ty_info
  have Hf := Lib.hid hf
  clear hf
  go_enter Tryz.func87, Tryz.ntmps87
  go_wp2
  go_loopw [5, 7, 10] (fun u _ c wr => ∃ k : Nat, k ≤ l.length ∧ c = .int .i64 (k : Int) ∧ wr.ownsRow w.heap.size 64 3 u k ((l.take k).flatMap tyCells) ∧ Below w.heap.size w wr) (fun _ _ c _ => l.length - (intOf c).toNat)
  case atStart => exact ⟨0, Nat.zero_le _, rfl, World.ownsRow_nil _ _ _ _, Below.refl _ _⟩
  case round =>
    obtain ⟨k, hk, rfl, hown, hb⟩ := hrel
    obtain ⟨Ao, co, rfl⟩ := own_slice hown
    by_cases hlt : k < l.length
    · obtain ⟨b1, o1, rfl, hb1, hc1⟩ := hA (by omega)
      obtain ⟨p1, p2⟩ := hc1 k _ (List.getElem?_eq_getElem hlt)
      have p1' := (hb.cell (p := ⟨b1, o1 + k * 2, none⟩) hb1).trans p1
      have p2' := (hb.cell (p := ⟨b1, o1 + k * 2 + 1, none⟩) hb1).trans p2
      clear p1 p2 hc1 hA
      have Hx := Lib.hid (take_flat tyCells hlt)
      have Hm := Lib.hid (List.getElem_mem hlt)
      generalize l[k] = x at p1' p2' Hx Hm
      have hbs : Below wr.heap.size wr (wr.alloc (.cells #[.bool x.cell, .int .i64 x.n] 24)) := (Below.refl _ _).alloc (Nat.le_refl _) _
      have hbz := hb.trans (hbs.mono hb.size)
      have hcall := Hf.out x _ Hm.out hbz
      unfold bsV at hcall
      have Hc := Lib.hid hcall
      have Hown := Lib.hid (own_below hown hbs)
      have hb1r : b1 < wr.heap.size := Nat.lt_of_lt_of_le hb1 hb.size
      clear hcall hown
      skip
      go_wp2_with (first
        | (go_at_call 88; refine Hc.out.mono ?_; rintro e w1 ⟨rfl, hb3⟩; have hown1 := own_below Hown.out hb3; have hb4 := hbz.trans (hb3.mono hbz.size); have hz4 := hb4.size)
        | (at_builtin; refine wpList_append_own _ rfl _ _ 22 rfl w.heap.size 64 i0 _ 3 40 Tryz.underlying22 hi hz0 hz1 hz2 rfl (by decide) _ _ _ rfl (hown1.alloc _) ⟨w1.heap.size, 0, none⟩ 1 1 [.slice none 0 0, .bool x.cell, .int .i64 x.n] rfl rfl (lit_new2 _ _ _ rfl _) (fun u hu => by simp at hu; rcases hu with rfl | rfl | rfl <;> rfl) (by unfold maxLen; omega) (by omega) (by simp; omega) ?_; intro v' w2 hown' hgrow _))
      go_roundw
      case rel =>
        refine ⟨k + 1, by omega, by go_num, by rw [Hx.out]; exact hown', ?_⟩
        exact (hb4.alloc hb4.size _).grown hgrow (by simp; omega) (fun j e => (World.ownsRow.lt hown1 j e).1)
      case measure => simp [intOf]; omega
    · have hkN : k = l.length := by omega
      subst hkN
      rw [List.take_length] at hown
      go_wp2
      go_ret
      exact ⟨_, rfl, hown, hb⟩

set_option maxRecDepth 100000 in
set_option maxHeartbeats 1000000 in
theorem listTS (T : Ty → ByteArray) (v : Value) (l : List Ty) (w : World) (hv : SlT w v l) (hl : l.length ≤ 100000)
    (hf : ∀ (x : Ty) (pv : Value) (V : World), x ∈ l → SlB V pv x.params → Below w.heap.size w V → Calls Tryz.prog 113 #[tyV pv x] V fun e V' => e = .returned (.string (T x)) ∧ Below V.heap.size V V') :
    Calls Tryz.prog 112 #[v, .func (.func 113) #[] #[]] w fun e w' => ∃ u, e = .returned u ∧ w'.ownsRow w.heap.size 9 1 u l.length (l.flatMap (fun x => [Value.string (T x)])) ∧ Below w.heap.size w w' := by
  obtain ⟨A, cap, rfl, hA⟩ := hv
  obtain ⟨i0, hi, hz0, hz1, hz2⟩ := info_parts str_info
  have Hf := Lib.hid hf
  clear hf
  go_enter Tryz.func112, Tryz.ntmps112
  go_wp2
  go_loopw [5, 7, 10] (fun u _ c wr => ∃ k : Nat, k ≤ l.length ∧ c = .int .i64 (k : Int) ∧ wr.ownsRow w.heap.size 9 1 u k ((l.take k).flatMap (fun x => [Value.string (T x)])) ∧ Below w.heap.size w wr) (fun _ _ c _ => l.length - (intOf c).toNat)
  case atStart => exact ⟨0, Nat.zero_le _, rfl, World.ownsRow_nil _ _ _ _, Below.refl _ _⟩
  case round =>
    obtain ⟨k, hk, rfl, hown, hb⟩ := hrel
    obtain ⟨Ao, co, rfl⟩ := own_slice hown
    by_cases hlt : k < l.length
    · obtain ⟨b1, o1, rfl, hb1, hc1⟩ := hA (by omega)
      obtain ⟨pv, p0, p1, p2, p3⟩ := hc1 k _ (List.getElem?_eq_getElem hlt)
      have p1' := (hb.cell (p := ⟨b1, o1 + k * 3, none⟩) hb1).trans p1
      have p2' := (hb.cell (p := ⟨b1, o1 + k * 3 + 1, none⟩) hb1).trans p2
      have p3' := (hb.cell (p := ⟨b1, o1 + k * 3 + 2, none⟩) hb1).trans p3
      have p0' := p0.below hb
      clear p0 p1 p2 p3 hc1 hA
      have Hx := Lib.hid (take_flat (fun x => [Value.string (T x)]) hlt)
      have Hm := Lib.hid (List.getElem_mem hlt)
      generalize l[k] = x at p0' p1' p2' p3' Hx Hm
      have hbs : Below wr.heap.size wr (wr.alloc (.cells #[pv, .bool x.result.cell, .int .i64 x.result.n] 64)) := (Below.refl _ _).alloc (Nat.le_refl _) _
      have hbz := hb.trans (hbs.mono hb.size)
      have hcall := Hf.out x _ _ Hm.out (p0'.below hbs) hbz
      unfold tyV at hcall
      have Hc := Lib.hid hcall
      have Hown := Lib.hid (own_below hown hbs)
      have hb1r : b1 < wr.heap.size := Nat.lt_of_lt_of_le hb1 hb.size
      clear hcall hown
      obtain ⟨A2, c2, rfl, -⟩ := p0'
      go_wp2_with (first
        | (go_at_call 113; refine Hc.out.mono ?_; rintro e w1 ⟨rfl, hb3⟩; have hown1 := own_below Hown.out hb3; have hb4 := hbz.trans (hb3.mono hbz.size); have hz4 := hb4.size)
        | (at_builtin; refine wpList_append_own _ rfl _ _ 125 rfl w.heap.size 9 i0 _ 1 16 Tryz.underlying125 hi hz0 hz1 hz2 rfl (by decide) _ _ _ rfl (hown1.alloc _) ⟨w1.heap.size, 0, none⟩ 1 1 [.string (T x)] rfl rfl (lit_new2 _ _ _ rfl _) (fun u hu => by simp at hu; subst hu; rfl) (by unfold maxLen; omega) (by omega) (by simp; omega) ?_; intro v' w2 hown' hgrow _))
      go_roundw
      case rel =>
        refine ⟨k + 1, by omega, by go_num, by rw [Hx.out]; exact hown', ?_⟩
        exact (hb4.alloc hb4.size _).grown hgrow (by simp; omega) (fun j e => (World.ownsRow.lt hown1 j e).1)
      case measure => simp [intOf]; omega
    · have hkN : k = l.length := by omega
      subst hkN
      rw [List.take_length] at hown
      go_wp2
      go_ret
      exact ⟨_, rfl, hown, hb⟩

set_option maxRecDepth 100000 in
set_option maxHeartbeats 1000000 in
theorem listBS (T : Bs → ByteArray) (v : Value) (l : List Bs) (w : World) (hv : SlB w v l) (hl : l.length ≤ 100000)
    (hf : ∀ (x : Bs) (V : World), x ∈ l → Below w.heap.size w V → Calls Tryz.prog 111 #[bsV x] V fun e V' => e = .returned (.string (T x)) ∧ Below V.heap.size V V') :
    Calls Tryz.prog 138 #[v, .func (.func 111) #[] #[]] w fun e w' => ∃ u, e = .returned u ∧ w'.ownsRow w.heap.size 9 1 u l.length (l.flatMap (fun x => [Value.string (T x)])) ∧ Below w.heap.size w w' := by
  obtain ⟨A, cap, rfl, hA⟩ := hv
  obtain ⟨i0, hi, hz0, hz1, hz2⟩ := info_parts str_info
  have Hf := Lib.hid hf
  clear hf
  go_enter Tryz.func138, Tryz.ntmps138
  go_wp2
  go_loopw [5, 7, 10] (fun u _ c wr => ∃ k : Nat, k ≤ l.length ∧ c = .int .i64 (k : Int) ∧ wr.ownsRow w.heap.size 9 1 u k ((l.take k).flatMap (fun x => [Value.string (T x)])) ∧ Below w.heap.size w wr) (fun _ _ c _ => l.length - (intOf c).toNat)
  case atStart => exact ⟨0, Nat.zero_le _, rfl, World.ownsRow_nil _ _ _ _, Below.refl _ _⟩
  case round =>
    obtain ⟨k, hk, rfl, hown, hb⟩ := hrel
    obtain ⟨Ao, co, rfl⟩ := own_slice hown
    by_cases hlt : k < l.length
    · obtain ⟨b1, o1, rfl, hb1, hc1⟩ := hA (by omega)
      obtain ⟨p1, p2⟩ := hc1 k _ (List.getElem?_eq_getElem hlt)
      have p1' := (hb.cell (p := ⟨b1, o1 + k * 2, none⟩) hb1).trans p1
      have p2' := (hb.cell (p := ⟨b1, o1 + k * 2 + 1, none⟩) hb1).trans p2
      clear p1 p2 hc1 hA
      have Hx := Lib.hid (take_flat (fun x => [Value.string (T x)]) hlt)
      have Hm := Lib.hid (List.getElem_mem hlt)
      generalize l[k] = x at p1' p2' Hx Hm
      have hbs : Below wr.heap.size wr (wr.alloc (.cells #[.bool x.cell, .int .i64 x.n] 24)) := (Below.refl _ _).alloc (Nat.le_refl _) _
      have hbz := hb.trans (hbs.mono hb.size)
      have hcall := Hf.out x _ Hm.out hbz
      unfold bsV at hcall
      have Hc := Lib.hid hcall
      have Hown := Lib.hid (own_below hown hbs)
      have hb1r : b1 < wr.heap.size := Nat.lt_of_lt_of_le hb1 hb.size
      clear hcall hown
      skip
      go_wp2_with (first
        | (go_at_call 111; refine Hc.out.mono ?_; rintro e w1 ⟨rfl, hb3⟩; have hown1 := own_below Hown.out hb3; have hb4 := hbz.trans (hb3.mono hbz.size); have hz4 := hb4.size)
        | (at_builtin; refine wpList_append_own _ rfl _ _ 125 rfl w.heap.size 9 i0 _ 1 16 Tryz.underlying125 hi hz0 hz1 hz2 rfl (by decide) _ _ _ rfl (hown1.alloc _) ⟨w1.heap.size, 0, none⟩ 1 1 [.string (T x)] rfl rfl (lit_new2 _ _ _ rfl _) (fun u hu => by simp at hu; subst hu; rfl) (by unfold maxLen; omega) (by omega) (by simp; omega) ?_; intro v' w2 hown' hgrow _))
      go_roundw
      case rel =>
        refine ⟨k + 1, by omega, by go_num, by rw [Hx.out]; exact hown', ?_⟩
        exact (hb4.alloc hb4.size _).grown hgrow (by simp; omega) (fun j e => (World.ownsRow.lt hown1 j e).1)
      case measure => simp [intOf]; omega
    · have hkN : k = l.length := by omega
      subst hkN
      rw [List.take_length] at hown
      go_wp2
      go_ret
      exact ⟨_, rfl, hown, hb⟩

end Go.Proofs.YtoncdnelacolaaaGreatDoor.Ar
