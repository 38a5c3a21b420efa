/- The reference: SameType, Same, at any arenas. -/
import Derived.Test.YtoncdnelacolaaaGreatDoorARefF
namespace Go.Proofs.YtoncdnelacolaaaGreatDoor.Ar
open Go Go.Proofs Go.RowKit Go.Sort Lx Ps

def sameTy (t u : Ty) : Bool := decide (t.params.length = u.params.length) && (sameBs t.result u.result && (t.params.zip u.params).all fun p => sameBs p.1 p.2)
def sameAr (a c : Ar) : Bool := decide (a.ids.length = c.ids.length) && (sameBs a.root c.root && ((a.jumps == c.jumps) && (a.ids.zip c.ids).all fun p => sameTy p.1 p.2))
theorem sameBs_eq {x y : Bs} (h : sameBs x y = true) : x = y := by
  unfold sameBs at h
  simp only [Bool.and_eq_true, beq_iff_eq] at h
  obtain ⟨c, n⟩ := x
  obtain ⟨d, m⟩ := y
  simp at h
  rw [h.1, h.2]
theorem zip_all {α : Type} (f : α → α → Bool) (hf : ∀ x y, f x y = true → x = y) : ∀ l m : List α, l.length = m.length → (l.zip m).all (fun p => f p.1 p.2) = true → l = m
  | [], [], _, _ => rfl
  | x :: l, y :: m, h, h2 => by
    simp only [List.zip_cons_cons, List.all_cons, Bool.and_eq_true] at h2
    rw [hf x y h2.1, zip_all f hf l m (by simpa using h) h2.2]
theorem sameTy_eq {t u : Ty} (h : sameTy t u = true) : t = u := by
  unfold sameTy at h
  simp only [Bool.and_eq_true, decide_eq_true_eq] at h
  obtain ⟨p, r⟩ := t
  obtain ⟨q, s⟩ := u
  have h1 := sameBs_eq h.2.1
  have h2 := zip_all sameBs (fun x y h => sameBs_eq h) p q h.1 h.2.2
  simp at h1
  rw [h1, h2]
theorem sameAr_eq {a c : Ar} (h : sameAr a c = true) : a = c := by
  unfold sameAr at h
  simp only [Bool.and_eq_true, decide_eq_true_eq, beq_iff_eq] at h
  obtain ⟨i, r, j⟩ := a
  obtain ⟨k, s, l⟩ := c
  have h1 := sameBs_eq h.2.1
  have h2 := zip_all sameTy (fun x y h => sameTy_eq h) i k h.1 h.2.2.2
  have h3 := h.2.2.1
  simp at h1 h3
  rw [h1, h2, h3]
theorem zip_get {α : Type} {l m : List α} {k : Nat} {x y : α} (hx : l[k]? = some x) (hy : m[k]? = some y) : (l.zip m)[k]? = some (x, y) := by
  rw [List.getElem?_zip_eq_some]; exact ⟨hx, hy⟩
theorem all_succ {α : Type} (f : α → Bool) {l : List α} {k : Nat} {x : α} (hx : l[k]? = some x) : (l.take (k + 1)).all f = ((l.take k).all f && f x) := by
  rw [List.take_add_one, hx, List.all_append]; simp
theorem all_bad {α : Type} (f : α → Bool) {l : List α} {k : Nat} {x : α} (hx : l[k]? = some x) (h : f x = false) : l.all f = false := by
  rw [List.all_eq_false]
  exact ⟨x, List.mem_of_getElem? hx, by simp [h]⟩

set_option maxRecDepth 100000 in
set_option maxHeartbeats 1000000 in
theorem sameType_any (t u : Ty) (pv qv : Value) (w : World) (hp : SlB w pv t.params) (hq : SlB w qv u.params) (hl : t.params.length ≤ 1000) (_hl2 : u.params.length ≤ 1000) :
    Calls Tryz.prog 69 #[tyV pv t, tyV qv u] w fun e w' => e = .returned (.bool (sameTy t u)) ∧ Below w.heap.size w w' := by
  obtain ⟨A, c1, rfl, hA⟩ := hp
  obtain ⟨B, c2, rfl, hB⟩ := hq
  obtain ⟨k0, k1⟩ := blocks2 w (.cells #[.slice A t.params.length c1, .bool t.result.cell, .int .i64 t.result.n] 64) (.cells #[.slice B u.params.length c2, .bool u.result.cell, .int .i64 u.result.n] 64)
  have hba : Below w.heap.size w ((w.alloc (.cells #[.slice A t.params.length c1, .bool t.result.cell, .int .i64 t.result.n] 64)).alloc (.cells #[.slice B u.params.length c2, .bool u.result.cell, .int .i64 u.result.n] 64)) := below_two
  have hE := bs_equal t.result u.result
  have HS := Lib.hid (show sameTy t u = (decide (t.params.length = u.params.length) && (sameBs t.result u.result && (t.params.zip u.params).all fun p => sameBs p.1 p.2)) from rfl)
  unfold tyV
  by_cases hlen : t.params.length = u.params.length
  · cases hr : sameBs t.result u.result
    · rw [hr] at hE HS
      have HF := Lib.hid (show sameTy t u = false by rw [HS.out]; simp)
      rw [← hlen] at k0 k1 hba ⊢
      clear hA hB hr hlen HS
      go_enter Tryz.func69, Tryz.ntmps69
      go_upto_region 1 with (fail)
      generalize (w.alloc (.cells #[.slice A t.params.length c1, .bool t.result.cell, .int .i64 t.result.n] 64)).alloc (.cells #[.slice B t.params.length c2, .bool u.result.cell, .int .i64 u.result.n] 64) = V at k0 k1 hba ⊢
      have r0 := cell_of_row _ _ 0 _ _ _ k0
      have r1 := cell_of_row _ _ 1 _ _ _ k0
      have r2 := cell_of_row _ _ 2 _ _ _ k0
      have s0 := cell_of_row _ _ 0 _ _ _ k1
      have s1 := cell_of_row _ _ 1 _ _ _ k1
      have s2 := cell_of_row _ _ 2 _ _ _ k1
      go_wp2
      go_ret
      exact ⟨by rw [HF.out]; rfl, hba⟩
    · rw [hr] at hE HS
      have HF := Lib.hid (show sameTy t u = (t.params.zip u.params).all fun p => sameBs p.1 p.2 by rw [HS.out, decide_eq_true hlen]; simp)
      have hzl : (t.params.zip u.params).length = t.params.length := by rw [List.length_zip]; omega
      have HZ := Lib.hid hzl
      have HL := Lib.hid hlen
      rw [← hlen] at k0 k1 hba hB ⊢
      clear hr hlen HS hzl
      go_enter Tryz.func69, Tryz.ntmps69
      go_upto_region 1 with (fail)
      generalize (w.alloc (.cells #[.slice A t.params.length c1, .bool t.result.cell, .int .i64 t.result.n] 64)).alloc (.cells #[.slice B t.params.length c2, .bool u.result.cell, .int .i64 u.result.n] 64) = V at k0 k1 hba ⊢
      have r0 := cell_of_row _ _ 0 _ _ _ k0
      have r1 := cell_of_row _ _ 1 _ _ _ k0
      have r2 := cell_of_row _ _ 2 _ _ _ k0
      have s0 := cell_of_row _ _ 0 _ _ _ k1
      have s1 := cell_of_row _ _ 1 _ _ _ k1
      have s2 := cell_of_row _ _ 2 _ _ _ k1
      go_wp2
      go_loopw [5] (fun i wr => ∃ k : Nat, k ≤ t.params.length ∧ i = .int .i64 k ∧ ((t.params.zip u.params).take k).all (fun p => sameBs p.1 p.2) = true ∧ Below V.heap.size V wr) (fun i _ => t.params.length - (intOf i).toNat)
      case atStart => exact ⟨0, Nat.zero_le _, rfl, rfl, Below.refl _ _⟩
      case round =>
        obtain ⟨k, hk, rfl, hall, hb⟩ := hrel
        have HALL := Lib.hid hall
        have r0' := (hb.cell (p := ⟨w.heap.size, 0, none⟩) (Array.getElem?_eq_some_iff.1 k0).1).trans r0
        have s0' := (hb.cell (p := ⟨w.heap.size + 1, 0, none⟩) (Array.getElem?_eq_some_iff.1 k1).1).trans s0
        clear r0 r1 r2 s0 s1 s2 k0 k1 hE hall
        have hbb := hba.trans (hb.mono hba.size)
        by_cases hlt : k < t.params.length
        · obtain ⟨b1, o1, rfl, hb1, hc1⟩ := hA (by omega)
          obtain ⟨b2, o2, rfl, hb2, hc2⟩ := hB (by omega)
          have hx := List.getElem?_eq_getElem hlt
          have hy := List.getElem?_eq_getElem (show k < u.params.length by have := HL.out; omega)
          obtain ⟨p1, p2⟩ := hc1 k _ hx
          obtain ⟨q1, q2⟩ := hc2 k _ hy
          have p1' := (hbb.cell (p := ⟨b1, o1 + k * 2, none⟩) hb1).trans p1
          have p2' := (hbb.cell (p := ⟨b1, o1 + k * 2 + 1, none⟩) hb1).trans p2
          have q1' := (hbb.cell (p := ⟨b2, o2 + k * 2, none⟩) hb2).trans q1
          have q2' := (hbb.cell (p := ⟨b2, o2 + k * 2 + 1, none⟩) hb2).trans q2
          have HZG := Lib.hid (zip_get hx hy)
          have hX := bs_equal t.params[k] (u.params[k]'(by have := HL.out; omega))
          clear p1 p2 q1 q2 hc1 hc2 hA hB hx hy
          generalize t.params[k] = x at p1' p2' hX HZG
          generalize u.params[k]'(by have := HL.out; omega) = y at q1' q2' hX HZG
          cases hs : sameBs x y
          · rw [hs] at hX
            have HF2 := Lib.hid (show sameTy t u = false by rw [HF.out]; exact all_bad (fun p : Bs × Bs => sameBs p.1 p.2) HZG.out hs)
            clear hs
            go_wp2
            go_quiet (fail)
            go_wp2
            go_ret
            exact ⟨by rw [HF2.out]; rfl, below_drewN hbb _⟩
          · rw [hs] at hX
            have HN := Lib.hid (show ((t.params.zip u.params).take (k + 1)).all (fun p => sameBs p.1 p.2) = true by rw [all_succ _ HZG.out, HALL.out, hs]; rfl)
            clear hs
            go_wp2
            go_quiet (fail)
            go_wp2
            go_roundw
            case rel => exact ⟨k + 1, by omega, by go_num, HN.out, below_drewN hb _⟩
            case measure => simp [intOf]; omega
        · have HF2 := Lib.hid (show sameTy t u = true by
            rw [HF.out]
            have h9 := HALL.out
            rw [List.take_of_length_le (by have := HZ.out; omega)] at h9
            exact h9)
          go_wp2
          go_ret
          exact ⟨by rw [HF2.out]; rfl, hbb⟩
  · have HF := Lib.hid (show sameTy t u = false by rw [HS.out, decide_eq_false hlen]; rfl)
    have hne : ((t.params.length : Int) != (u.params.length : Int)) = true := by rw [bne_iff_ne]; omega
    clear hA hB hlen HS hE
    go_enter Tryz.func69, Tryz.ntmps69
    go_upto_region 1 with (fail)
    generalize (w.alloc (.cells #[.slice A t.params.length c1, .bool t.result.cell, .int .i64 t.result.n] 64)).alloc (.cells #[.slice B u.params.length c2, .bool u.result.cell, .int .i64 u.result.n] 64) = V at k0 k1 hba ⊢
    have r0 := cell_of_row _ _ 0 _ _ _ k0
    have r1 := cell_of_row _ _ 1 _ _ _ k0
    have r2 := cell_of_row _ _ 2 _ _ _ k0
    have s0 := cell_of_row _ _ 0 _ _ _ k1
    have s1 := cell_of_row _ _ 1 _ _ _ k1
    have s2 := cell_of_row _ _ 2 _ _ _ k1
    go_wp2
    go_ret
    exact ⟨by rw [HF.out]; rfl, hba⟩

set_option maxRecDepth 100000 in
set_option maxHeartbeats 2000000 in
theorem same_any (a c : Ar) (v u : Value) (w : World) (hp : ArIn w v a) (hq : ArIn w u c) (hl : a.ids.length ≤ 1000) (hls : ∀ t ∈ a.ids, t.params.length ≤ 1000) (hls2 : ∀ t ∈ c.ids, t.params.length ≤ 1000) :
    Calls Tryz.prog 26 #[arV v a, arV u c] w fun e w' => e = .returned (.bool (sameAr a c)) ∧ Below w.heap.size w w' := by
  obtain ⟨A, c1, rfl, hA⟩ := hp.sl
  obtain ⟨B, c2, rfl, hB⟩ := hq.sl
  clear hp hq
  obtain ⟨k0, k1⟩ := blocks2 w (.cells #[.slice A a.ids.length c1, .bool a.root.cell, .int .i64 a.root.n, .bool a.jumps] 26) (.cells #[.slice B c.ids.length c2, .bool c.root.cell, .int .i64 c.root.n, .bool c.jumps] 26)
  have hba : Below w.heap.size w ((w.alloc (.cells #[.slice A a.ids.length c1, .bool a.root.cell, .int .i64 a.root.n, .bool a.jumps] 26)).alloc (.cells #[.slice B c.ids.length c2, .bool c.root.cell, .int .i64 c.root.n, .bool c.jumps] 26)) := below_two
  have hE := bs_equal a.root c.root
  have HS := Lib.hid (show sameAr a c = (decide (a.ids.length = c.ids.length) && (sameBs a.root c.root && ((a.jumps == c.jumps) && (a.ids.zip c.ids).all fun p => sameTy p.1 p.2))) from rfl)
  unfold arV
  by_cases hlen : a.ids.length = c.ids.length
  · cases hr : sameBs a.root c.root
    · rw [hr] at hE HS
      have HF := Lib.hid (show sameAr a c = false by rw [HS.out]; simp)
      rw [← hlen] at k0 k1 hba ⊢
      clear hA hB hr hlen HS
      go_enter Tryz.func26, Tryz.ntmps26
      go_upto_region 1 with (fail)
      generalize (w.alloc (.cells #[.slice A a.ids.length c1, .bool a.root.cell, .int .i64 a.root.n, .bool a.jumps] 26)).alloc (.cells #[.slice B a.ids.length c2, .bool c.root.cell, .int .i64 c.root.n, .bool c.jumps] 26) = V at k0 k1 hba ⊢
      obtain ⟨⟨r0, r1, r2, r3⟩, -, hl0⟩ := four_c k0
      obtain ⟨⟨s0, s1, s2, s3⟩, -, hl1⟩ := four_c k1
      go_wp2
      go_ret
      exact ⟨by rw [HF.out]; rfl, hba⟩
    · rw [hr] at hE HS
      by_cases hj : a.jumps = c.jumps
      · have HF := Lib.hid (show sameAr a c = (a.ids.zip c.ids).all fun p => sameTy p.1 p.2 by rw [HS.out, decide_eq_true hlen, hj]; simp)
        have hzl : (a.ids.zip c.ids).length = a.ids.length := by rw [List.length_zip]; omega
        have HZ := Lib.hid hzl
        have HL := Lib.hid hlen
        rw [← hlen, ← hj] at k0 k1 hba ⊢
        rw [← hlen] at hB
        clear hr hlen HS hzl hj
        go_enter Tryz.func26, Tryz.ntmps26
        go_upto_region 1 with (fail)
        generalize (w.alloc (.cells #[.slice A a.ids.length c1, .bool a.root.cell, .int .i64 a.root.n, .bool a.jumps] 26)).alloc (.cells #[.slice B a.ids.length c2, .bool c.root.cell, .int .i64 c.root.n, .bool a.jumps] 26) = V at k0 k1 hba ⊢
        obtain ⟨⟨r0, r1, r2, r3⟩, -, hl0⟩ := four_c k0
        obtain ⟨⟨s0, s1, s2, s3⟩, -, hl1⟩ := four_c k1
        go_wp2
        go_loopw [5] (fun i wr => ∃ k : Nat, k ≤ a.ids.length ∧ i = .int .i64 k ∧ ((a.ids.zip c.ids).take k).all (fun p => sameTy p.1 p.2) = true ∧ Below V.heap.size V wr) (fun i _ => a.ids.length - (intOf i).toNat)
        case atStart => exact ⟨0, Nat.zero_le _, rfl, rfl, Below.refl _ _⟩
        case round =>
          obtain ⟨k, hk, rfl, hall, hb⟩ := hrel
          have HALL := Lib.hid hall
          have r0' := (hb.cell (p := ⟨w.heap.size, 0, none⟩) hl0).trans r0
          have s0' := (hb.cell (p := ⟨w.heap.size + 1, 0, none⟩) hl1).trans s0
          clear r0 r1 r2 r3 s0 s1 s2 s3 k0 k1 hE hall
          have hbb := hba.trans (hb.mono hba.size)
          by_cases hlt : k < a.ids.length
          · obtain ⟨b1, o1, rfl, hb1, hc1⟩ := hA (by omega)
            obtain ⟨b2, o2, rfl, hb2, hc2⟩ := hB (by omega)
            have hx := List.getElem?_eq_getElem hlt
            have hlc : k < c.ids.length := by have := HL.out; omega
            have hy := List.getElem?_eq_getElem hlc
            obtain ⟨pv, p0, p1, p2, p3⟩ := hc1 k _ hx
            obtain ⟨qv, q0, q1, q2, q3⟩ := hc2 k _ hy
            have p1' := cell_regrown ((hbb.cell (p := ⟨b1, o1 + k * 3, none⟩) hb1).trans p1)
            have p2' := cell_regrown ((hbb.cell (p := ⟨b1, o1 + k * 3 + 1, none⟩) hb1).trans p2)
            have p3' := cell_regrown ((hbb.cell (p := ⟨b1, o1 + k * 3 + 2, none⟩) hb1).trans p3)
            have q1' := cell_regrown ((hbb.cell (p := ⟨b2, o2 + k * 3, none⟩) hb2).trans q1)
            have q2' := cell_regrown ((hbb.cell (p := ⟨b2, o2 + k * 3 + 1, none⟩) hb2).trans q2)
            have q3' := cell_regrown ((hbb.cell (p := ⟨b2, o2 + k * 3 + 2, none⟩) hb2).trans q3)
            have r0g := cell_regrown r0'
            have s0g := cell_regrown s0'
            have p0' := p0.below hbb
            have q0' := q0.below hbb
            have hxl := hls _ (List.getElem_mem hlt)
            have hyl := hls2 _ (List.getElem_mem hlc)
            have HZG := Lib.hid (zip_get hx hy)
            clear p0 q0 p1 p2 p3 q1 q2 q3 hc1 hc2 hA hB hx hy
            generalize a.ids[k] = x at p0' p1' p2' p3' hxl HZG
            generalize c.ids[k] = y at q0' q1' q2' q3' hyl HZG
            have hcal := fun d os => Calls.regrown_of (sameType_any x y pv qv («Sort».grow (redrawn wr d) os) (p0'.below (below_regrown wr d os)) (q0'.below (below_regrown wr d os)) hxl hyl)
            unfold tyV at hcal
            obtain ⟨A2, d2, rfl, -⟩ := p0'
            obtain ⟨B2, e2, rfl, -⟩ := q0'
            cases hs : sameTy x y
            · simp only [hs] at hcal
              have HF2 := Lib.hid (show sameAr a c = false by rw [HF.out]; exact all_bad (fun p : Ty × Ty => sameTy p.1 p.2) HZG.out hs)
              clear hs
              go_upto_region 6 with (fail)
              refine wp_region_quiet_below (by kernel_rfl) (by kernel_rfl) ?_
              repeat (go_big_quiet_step ((exact hcal _ _)))
              refine wpQuiet_nil ?_
              intro _ hw'
              obtain ⟨⟨dq, osq⟩, hw''⟩ := hw'
              subst hw''
              go_wp2
              go_ret
              exact ⟨by rw [HF2.out]; rfl, hba.trans ((hb.trans ((below_regrown wr dq osq).mono hb.size)).mono hba.size)⟩
            · simp only [hs] at hcal
              have HN := Lib.hid (show ((a.ids.zip c.ids).take (k + 1)).all (fun p => sameTy p.1 p.2) = true by rw [all_succ _ HZG.out, HALL.out, hs]; rfl)
              clear hs
              go_upto_region 6 with (fail)
              refine wp_region_quiet_below (by kernel_rfl) (by kernel_rfl) ?_
              repeat (go_big_quiet_step ((exact hcal _ _)))
              refine wpQuiet_nil ?_
              intro _ hw'
              obtain ⟨⟨dq, osq⟩, hw''⟩ := hw'
              subst hw''
              go_wp2
              go_roundw
              case rel => exact ⟨k + 1, by omega, by go_num, HN.out, hb.trans ((below_regrown wr dq osq).mono hb.size)⟩
              case measure => simp [intOf]; omega
          · have HF2 := Lib.hid (show sameAr a c = true by
              rw [HF.out]
              have h9 := HALL.out
              rw [List.take_of_length_le (by have := HZ.out; omega)] at h9
              exact h9)
            go_wp2
            go_ret
            exact ⟨by rw [HF2.out]; rfl, hbb⟩
      · have HF := Lib.hid (show sameAr a c = false by
          have : (a.jumps == c.jumps) = false := by rw [beq_eq_false_iff_ne]; exact hj
          rw [HS.out, this]; simp)
        have hjj : (a.jumps = true ∧ c.jumps = false) ∨ (a.jumps = false ∧ c.jumps = true) := by
          cases h1 : a.jumps <;> cases h2 : c.jumps
          · exact absurd (h1.trans h2.symm) hj
          · exact .inr ⟨rfl, rfl⟩
          · exact .inl ⟨rfl, rfl⟩
          · exact absurd (h1.trans h2.symm) hj
        rw [← hlen] at k0 k1 hba ⊢
        clear hA hB hr hlen HS hj
        rcases hjj with ⟨g1, g2⟩ | ⟨g1, g2⟩
        · rw [g1, g2] at k0 k1 hba
          rw [g1, g2]
          clear g1 g2
          go_enter Tryz.func26, Tryz.ntmps26
          go_upto_region 1 with (fail)
          generalize (w.alloc (.cells #[.slice A a.ids.length c1, .bool a.root.cell, .int .i64 a.root.n, .bool true] 26)).alloc (.cells #[.slice B a.ids.length c2, .bool c.root.cell, .int .i64 c.root.n, .bool false] 26) = V at k0 k1 hba ⊢
          obtain ⟨⟨r0, r1, r2, r3⟩, -, hl0⟩ := four_c k0
          obtain ⟨⟨s0, s1, s2, s3⟩, -, hl1⟩ := four_c k1
          go_wp2
          go_ret
          exact ⟨by rw [HF.out]; rfl, hba⟩
        · rw [g1, g2] at k0 k1 hba
          rw [g1, g2]
          clear g1 g2
          go_enter Tryz.func26, Tryz.ntmps26
          go_upto_region 1 with (fail)
          generalize (w.alloc (.cells #[.slice A a.ids.length c1, .bool a.root.cell, .int .i64 a.root.n, .bool false] 26)).alloc (.cells #[.slice B a.ids.length c2, .bool c.root.cell, .int .i64 c.root.n, .bool true] 26) = V at k0 k1 hba ⊢
          obtain ⟨⟨r0, r1, r2, r3⟩, -, hl0⟩ := four_c k0
          obtain ⟨⟨s0, s1, s2, s3⟩, -, hl1⟩ := four_c k1
          go_wp2
          go_ret
          exact ⟨by rw [HF.out]; rfl, hba⟩
  · have HF := Lib.hid (show sameAr a c = false by rw [HS.out, decide_eq_false hlen]; rfl)
    have hne : ((a.ids.length : Int) != (c.ids.length : Int)) = true := by rw [bne_iff_ne]; omega
    clear hA hB hlen HS hE
    go_enter Tryz.func26, Tryz.ntmps26
    go_upto_region 1 with (fail)
    generalize (w.alloc (.cells #[.slice A a.ids.length c1, .bool a.root.cell, .int .i64 a.root.n, .bool a.jumps] 26)).alloc (.cells #[.slice B c.ids.length c2, .bool c.root.cell, .int .i64 c.root.n, .bool c.jumps] 26) = V at k0 k1 hba ⊢
    obtain ⟨⟨r0, r1, r2, r3⟩, -, hl0⟩ := four_c k0
    obtain ⟨⟨s0, s1, s2, s3⟩, -, hl1⟩ := four_c k1
    go_wp2
    go_ret
    exact ⟨by rw [HF.out]; rfl, hba⟩

end Go.Proofs.YtoncdnelacolaaaGreatDoor.Ar
