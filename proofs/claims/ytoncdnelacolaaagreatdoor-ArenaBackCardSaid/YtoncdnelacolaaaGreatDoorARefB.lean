/- The reference: Check, Place, Found. -/
import Derived.Test.YtoncdnelacolaaaGreatDoorAWalkC
import Derived.Test.YtoncdnelacolaaaGreatDoorABlocks
import Derived.Test.YtoncdnelacolaaaGreatDoorAWalkE
namespace Go.Proofs.YtoncdnelacolaaaGreatDoor.Ar
open Go Go.Proofs Go.RowKit Lx Ps

set_option maxHeartbeats 400000 in
theorem refIn_any (n l m : Int) (w : World) :
    Calls Tryz.prog 90 #[.int .i64 n, .int .i64 l, .int .i64 m] w fun e w' => e = .returned (.bool (decide (l ≤ n) && decide (n ≤ m))) ∧ w' = w := by
  by_cases h1 : l ≤ n
  · by_cases h2 : n ≤ m
    · go_enter Tryz.func90, Tryz.ntmps90
      go_wp2
      go_ret
      exact ⟨ret_bool (by simp [h2]; exact h1), rfl⟩
    · go_enter Tryz.func90, Tryz.ntmps90
      go_wp2
      go_ret
      exact ⟨ret_bool (by simp; omega), rfl⟩
  · go_enter Tryz.func90, Tryz.ntmps90
    go_wp2
    go_ret
    exact ⟨ret_bool (by simp [show ¬ l ≤ n by omega]), rfl⟩

set_option maxHeartbeats 400000 in
theorem refIsBase_any (b : Bs) (w : World) :
    Calls Tryz.prog 68 #[bsV b] w fun e w' => e = .returned (.bool (!badB b)) ∧ Below w.heap.size w w' := by
  unfold bsV
  have HI := Lib.hid (fun V => refIn_any b.n 1 64 V)
  have hb : Below w.heap.size w (w.alloc (.cells #[.bool b.cell, .int .i64 b.n] 24)) := (Below.refl _ _).alloc (Nat.le_refl _) _
  go_enter Tryz.func68, Tryz.ntmps68
  go_wp2_with (go_at_call 90; refine (HI.out _).mono ?_; rintro e _ ⟨rfl, rfl⟩)
  go_ret
  exact ⟨ret_bool (by rw [Bool.eq_iff_iff]; simp [badB]), hb⟩

set_option maxRecDepth 100000 in
set_option maxHeartbeats 1000000 in
theorem refIsType_any (t : Ty) (pv : Value) (w : World) (hp : SlB w pv t.params) (hl : t.params.length ≤ 140737488355328) :
    Calls Tryz.prog 67 #[tyV pv t] w fun e w' => e = .returned (.bool (!badT t)) ∧ Below w.heap.size w w' := by
  obtain ⟨A, cap, rfl, hA⟩ := hp
  have hba : Below w.heap.size w (w.alloc (.cells #[.slice A t.params.length cap, .bool t.result.cell, .int .i64 t.result.n] 64)) := (Below.refl _ _).alloc (Nat.le_refl _) _
  have K := heap_alloc_new w (.cells #[.slice A t.params.length cap, .bool t.result.cell, .int .i64 t.result.n] 64)
  unfold tyV
  go_enter Tryz.func67, Tryz.ntmps67
  go_wp2
  go_loopw [3] (fun i wr => ∃ k : Nat, k ≤ t.params.length ∧ i = .int .i64 k ∧ (t.params.take k).any badB = false ∧ Below w.heap.size w wr ∧ wr.heap[w.heap.size]? = some (.cells #[.slice A t.params.length cap, .bool t.result.cell, .int .i64 t.result.n] 64 (0, 0))) (fun i _ => t.params.length - (intOf i).toNat)
  case atStart => exact ⟨0, Nat.zero_le _, rfl, rfl, hba, K⟩
  case round =>
    obtain ⟨k, hk, rfl, ht, hb, K1⟩ := hrel
    have Ht := Lib.hid ht
    have HK1 := Lib.hid K1
    have r0 := cell_of_row _ _ 0 _ _ _ K1
    have r1 := cell_of_row _ _ 1 _ _ _ K1
    have r2 := cell_of_row _ _ 2 _ _ _ K1
    have hlw := (Array.getElem?_eq_some_iff.1 K1).1
    clear ht K1 K hba
    by_cases hlt : k < t.params.length
    · obtain ⟨b1, o1, rfl, hb1, hc1⟩ := hA (by omega)
      obtain ⟨p1, p2⟩ := hc1 k _ (List.getElem?_eq_getElem hlt)
      have p1' := (hb.cell (p := ⟨b1, o1 + k * 2, none⟩) hb1).trans p1
      have p2' := (hb.cell (p := ⟨b1, o1 + k * 2 + 1, none⟩) hb1).trans p2
      clear p1 p2 hc1 hA
      have Hx := Lib.hid (show (t.params.take (k + 1)).any badB = badB t.params[k] by rw [List.take_succ_eq_append_getElem hlt, List.any_append, Ht.out]; simp)
      have Hm := Lib.hid (List.getElem_mem hlt)
      generalize t.params[k] = x at p1' p2' Hx Hm
      have hcal := fun W => refIsBase_any x W
      unfold bsV at hcal
      cases hx : badB x
      · rw [hx] at Hx hcal
        have Hc := Lib.hid hcal
        clear hcal hx
        go_wp2_with (go_at_call 68; refine (Hc.out _).mono ?_; rintro e w1 ⟨rfl, hb1⟩)
        go_roundw
        case rel => exact ⟨k + 1, by omega, by go_num, Hx.out, hb.trans (hb1.mono hb.size), heap_below hb1 hlw HK1.out⟩
        case measure => simp [intOf]; omega
      · have Hx2 := Lib.hid hx
        rw [hx] at hcal
        have Hc := Lib.hid hcal
        clear hcal hx
        go_wp2_with (go_at_call 68; refine (Hc.out _).mono ?_; rintro e w1 ⟨rfl, hb1⟩)
        go_ret
        exact ⟨ret_bool (by have : t.params.any badB = true := List.any_eq_true.2 ⟨x, Hm.out, Hx2.out⟩
                            simp [badT, this]), hb.trans (hb1.mono hb.size)⟩
    · have hall := Ht.out
      rw [List.take_of_length_le (by omega)] at hall
      have HT := Lib.hid (show badT t = (badB t.result || (t.result.cell && decide (0 < t.params.length))) by unfold badT; rw [hall]; simp)
      have hcal := fun W => refIsBase_any t.result W
      unfold bsV at hcal
      clear hall Ht
      cases h1 : badB t.result
      · rw [h1] at HT hcal
        have Hc := Lib.hid hcal
        clear hcal h1
        by_cases h2 : t.params.length = 0
        · have e2 : ((t.params.length : Int) == 0) = true := by simp [List.eq_nil_of_length_eq_zero h2]
          go_wp2_with (go_at_call 68; refine (Hc.out _).mono ?_; rintro e w1 ⟨rfl, hb1⟩; have hb2 := hb.trans (hb1.mono hb.size); have r0' := (hb1.cell (p := ⟨w.heap.size, 0, none⟩) hlw).trans r0; have r1' := (hb1.cell (p := ⟨w.heap.size, 1, none⟩) hlw).trans r1)
          go_ret
          exact ⟨ret_bool (by rw [HT.out]; simp [h2]), hb2⟩
        · have e2 : ((t.params.length : Int) == 0) = false := by simpa using h2
          go_wp2_with (go_at_call 68; refine (Hc.out _).mono ?_; rintro e w1 ⟨rfl, hb1⟩; have hb2 := hb.trans (hb1.mono hb.size); have r0' := (hb1.cell (p := ⟨w.heap.size, 0, none⟩) hlw).trans r0; have r1' := (hb1.cell (p := ⟨w.heap.size, 1, none⟩) hlw).trans r1)
          go_ret
          exact ⟨ret_bool (by rw [HT.out]; simp [show 0 < t.params.length by omega]), hb2⟩
      · rw [h1] at HT hcal
        have Hc := Lib.hid hcal
        clear hcal h1
        go_wp2_with (go_at_call 68; refine (Hc.out _).mono ?_; rintro e w1 ⟨rfl, hb1⟩; have hb2 := hb.trans (hb1.mono hb.size))
        go_ret
        exact ⟨ret_bool (by rw [HT.out]; simp), hb2⟩

end Go.Proofs.YtoncdnelacolaaaGreatDoor.Ar

namespace Go.Proofs.YtoncdnelacolaaaGreatDoor.Ar
open Go Go.Proofs Go.RowKit Lx Ps

set_option maxRecDepth 100000 in
set_option maxHeartbeats 1000000 in
theorem refCheck_any (ids : Value) (a : Ar) (w : World) (hin : ArIn w ids a) :
    Calls Tryz.prog 24 #[arV ids a] w fun e w' => e = .returned (.int .i64 (checkE a : Int)) ∧ Below w.heap.size w w' := by
  have hlen := hin.len
  have hls := hin.lens
  obtain ⟨A, cap, rfl, hA⟩ := hin.sl
  clear hin
  have hba : Below w.heap.size w (w.alloc (.cells #[.slice A a.ids.length cap, .bool a.root.cell, .int .i64 a.root.n, .bool a.jumps] 26)) := (Below.refl _ _).alloc (Nat.le_refl _) _
  have K := heap_alloc_new w (.cells #[.slice A a.ids.length cap, .bool a.root.cell, .int .i64 a.root.n, .bool a.jumps] 26)
  unfold arV
  by_cases h1 : 8 < a.ids.length
  · have HE := Lib.hid (checkE_5a h1)
    have h1' : (8 : Int) < (a.ids.length : Int) := by omega
    clear hA
    go_enter Tryz.func24, Tryz.ntmps24
    go_wp2
    go_ret
    exact ⟨ret_int (by rw [HE.out]; rfl), hba⟩
  · have h1' : ¬ (8 : Int) < (a.ids.length : Int) := by omega
    have H1 := Lib.hid h1
    clear h1
    go_enter Tryz.func24, Tryz.ntmps24
    go_wp2
    go_loopw [3] (fun i wr => ∃ k : Nat, k ≤ a.ids.length ∧ i = .int .i64 k ∧ (a.ids.take k).any wideT = false ∧ Below w.heap.size w wr ∧ wr.heap[w.heap.size]? = some (.cells #[.slice A a.ids.length cap, .bool a.root.cell, .int .i64 a.root.n, .bool a.jumps] 26 (0, 0))) (fun i _ => a.ids.length - (intOf i).toNat)
    case atStart => exact ⟨0, Nat.zero_le _, rfl, rfl, hba, K⟩
    case round =>
      obtain ⟨k, hk, rfl, ht, hb, K1⟩ := hrel
      have Ht := Lib.hid ht
      have HK1 := Lib.hid K1
      obtain ⟨⟨r0, r1, r2, r3⟩, -, hlw⟩ := four_c K1
      clear ht K1 K hba
      by_cases hlt : k < a.ids.length
      · obtain ⟨b1, o1, rfl, hb1, hc1⟩ := hA (by omega)
        obtain ⟨pv, p0, p1, p2, p3⟩ := hc1 k _ (List.getElem?_eq_getElem hlt)
        have p1' := (hb.cell (p := ⟨b1, o1 + k * 3, none⟩) hb1).trans p1
        obtain ⟨A2, c2, rfl, -⟩ := p0
        clear p1 p2 p3 hc1 hA
        have Hx := Lib.hid (show (a.ids.take (k + 1)).any wideT = wideT a.ids[k] by rw [List.take_succ_eq_append_getElem hlt, List.any_append, Ht.out]; simp)
        have Hm := Lib.hid (List.getElem_mem hlt)
        generalize a.ids[k] = x at p1' Hx Hm
        by_cases hx : 5 < x.params.length
        · have Hx2 := Lib.hid (show wideT x = true by simp [wideT]; omega)
          have hx' : (5 : Int) < (x.params.length : Int) := by omega
          clear hx
          go_wp2
          go_ret
          exact ⟨ret_int (by rw [checkE_5b (List.any_eq_true.2 ⟨x, Hm.out, Hx2.out⟩)]; rfl), hb⟩
        · have Hx2 := Lib.hid (Hx.out.trans (show wideT x = false by simp [wideT]; omega))
          have hx' : ¬ (5 : Int) < (x.params.length : Int) := by omega
          clear hx
          go_wp2
          go_roundw
          case rel => exact ⟨k + 1, by omega, by go_num, Hx2.out, hb, HK1.out⟩
          case measure => simp [intOf]; omega
      · have hall := Ht.out
        rw [List.take_of_length_le (by omega)] at hall
        have Hall := Lib.hid hall
        clear hall Ht
        obtain rfl : k = a.ids.length := by omega
        go_wp2
        go_loopw [4] (fun i wr => ∃ k : Nat, k ≤ a.ids.length ∧ i = .int .i64 k ∧ (a.ids.take k).any badT = false ∧ Below w.heap.size w wr ∧ wr.heap[w.heap.size]? = some (.cells #[.slice A a.ids.length cap, .bool a.root.cell, .int .i64 a.root.n, .bool a.jumps] 26 (0, 0))) (fun i _ => a.ids.length - (intOf i).toNat)
        case atStart => exact ⟨0, Nat.zero_le _, rfl, rfl, hb, HK1.out⟩
        case round =>
          clear hb HK1 r0 r1 r2 r3 hlw hlt hk
          obtain ⟨k, hk, rfl, ht, hb, K1⟩ := hrel
          have Ht := Lib.hid ht
          have HK1 := Lib.hid K1
          obtain ⟨⟨r0, r1, r2, r3⟩, -, hlw⟩ := four_c K1
          clear ht K1
          by_cases hlt : k < a.ids.length
          · obtain ⟨b1, o1, rfl, hb1, hc1⟩ := hA (by omega)
            obtain ⟨pv, p0, p1, p2, p3⟩ := hc1 k _ (List.getElem?_eq_getElem hlt)
            have p1' := (hb.cell (p := ⟨b1, o1 + k * 3, none⟩) hb1).trans p1
            have p2' := (hb.cell (p := ⟨b1, o1 + k * 3 + 1, none⟩) hb1).trans p2
            have p3' := (hb.cell (p := ⟨b1, o1 + k * 3 + 2, none⟩) hb1).trans p3
            have p0' := p0.below hb
            clear p0 p1 p2 p3 hc1 hA
            have Hx := Lib.hid (show (a.ids.take (k + 1)).any badT = badT a.ids[k] by rw [List.take_succ_eq_append_getElem hlt, List.any_append, Ht.out]; simp)
            have Hm := Lib.hid (List.getElem_mem hlt)
            have hxl := hls _ (List.getElem_mem hlt)
            generalize a.ids[k] = x at p0' p1' p2' p3' Hx Hm hxl
            have hcal := refIsType_any x pv wr p0' hxl
            unfold tyV at hcal
            obtain ⟨A2, c2, rfl, -⟩ := p0'
            cases hx : badT x
            · rw [hx] at Hx hcal
              have Hc := Lib.hid hcal
              clear hcal hx
              go_wp2_with (go_at_call 67; refine Hc.out.mono ?_; rintro e w1 ⟨rfl, hb1⟩)
              go_roundw
              case rel => exact ⟨k + 1, by omega, by go_num, Hx.out, hb.trans (hb1.mono hb.size), heap_below hb1 hlw HK1.out⟩
              case measure => simp [intOf]; omega
            · have HE := Lib.hid (checkE_4b H1.out Hall.out (List.any_eq_true.2 ⟨x, Hm.out, hx⟩))
              rw [hx] at hcal
              have Hc := Lib.hid hcal
              clear hcal hx
              go_wp2_with (go_at_call 67; refine Hc.out.mono ?_; rintro e w1 ⟨rfl, hb1⟩)
              go_ret
              exact ⟨ret_int (by rw [HE.out]; rfl), hb.trans (hb1.mono hb.size)⟩
          · have hall := Ht.out
            rw [List.take_of_length_le (by omega)] at hall
            have hcal := fun W => refIsBase_any a.root W
            unfold bsV at hcal
            clear hA
            cases hx : badB a.root
            · have HE := Lib.hid (checkE_0 H1.out Hall.out hx hall)
              rw [hx] at hcal
              have Hc := Lib.hid hcal
              clear hcal hx hall
              go_wp2_with (go_at_call 68; refine (Hc.out _).mono ?_; rintro e w1 ⟨rfl, hb1⟩)
              go_ret
              exact ⟨ret_int (by rw [HE.out]; rfl), hb.trans (hb1.mono hb.size)⟩
            · have HE := Lib.hid (checkE_4a H1.out Hall.out hx)
              rw [hx] at hcal
              have Hc := Lib.hid hcal
              clear hcal hx hall
              go_wp2_with (go_at_call 68; refine (Hc.out _).mono ?_; rintro e w1 ⟨rfl, hb1⟩)
              go_ret
              exact ⟨ret_int (by rw [HE.out]; rfl), hb.trans (hb1.mono hb.size)⟩

theorem refIn_true {n l m : Int} (h : l ≤ n ∧ n ≤ m) (w : World) : Calls Tryz.prog 90 #[.int .i64 n, .int .i64 l, .int .i64 m] w fun e w' => e = .returned (.bool true) ∧ w' = w :=
  (refIn_any n l m w).mono fun _ _ ⟨h1, h2⟩ => ⟨h1.trans (by simp [h.1, h.2]), h2⟩
theorem refIn_false {n l m : Int} (h : ¬ (l ≤ n ∧ n ≤ m)) (w : World) : Calls Tryz.prog 90 #[.int .i64 n, .int .i64 l, .int .i64 m] w fun e w' => e = .returned (.bool false) ∧ w' = w :=
  (refIn_any n l m w).mono fun _ _ ⟨h1, h2⟩ => ⟨h1.trans (ret_bool (by rw [Bool.and_eq_false_iff, decide_eq_false_iff_not, decide_eq_false_iff_not]; omega)), h2⟩
/-- What a search for a place returns: its base type. -/
def plBs (o : Option Pl) : Value := match o with
  | none => .tuple #[.agg #[.bool false, .int .i64 0], .bool false]
  | some p => .tuple #[bsV p.base, .bool true]

set_option maxRecDepth 100000 in
set_option maxHeartbeats 1000000 in
theorem refPlace_any (ids : Value) (a : Ar) (id arg : Int) (w : World) (hin : ArIn w ids a) :
    Calls Tryz.prog 89 #[arV ids a, .int .i64 id, .int .i64 arg] w fun r w' => r = .returned (plBs (plAt a id arg)) ∧ Below w.heap.size w w' := by
  have hlen := hin.len
  obtain ⟨A, cap, rfl, hA⟩ := hin.sl
  have hls := hin.lens
  clear hin
  unfold arV
  by_cases h00 : id = 0 ∧ arg = 0
  · obtain ⟨rfl, rfl⟩ := h00
    go_enter Tryz.func89, Tryz.ntmps89
    go_wp2
    refine bodyPost_ret (v := .tuple #[.agg #[.bool a.root.cell, .int .i64 a.root.n], .bool true]) (by simp [results, Tryz.results89, go_sem]) rfl ⟨by rw [plAt_root]; rfl, below_two⟩
  · by_cases hno : id < 1 ∨ (a.ids.length : Int) < id
    · have HN := Lib.hid (plAt_none_id h00 hno)
      have HI := Lib.hid (fun V => refIn_false (n := id) (l := 1) (m := (a.ids.length : Int)) (by omega) V)
      clear hA hno
      by_cases h0 : id = 0
      · subst h0
        have harg : arg ≠ 0 := fun e => h00 ⟨rfl, e⟩
        have h1 : decide (arg = 0) = false := by simpa using harg
        have h2 : (arg == 0) = false := by simpa using harg
        clear h00
        go_enter Tryz.func89, Tryz.ntmps89
        go_wp2_with (go_at_call 90; refine (HI.out _).mono ?_; rintro e _ ⟨rfl, rfl⟩)
        exact bodyPost_ret (v := .tuple #[.agg #[.bool false, .int .i64 0], .bool false]) (by simp [results, Tryz.results89, go_sem]) rfl ⟨by rw [HN.out]; rfl, below_two⟩
      · have h2 : (id == 0) = false := by simpa using h0
        have h3 : decide (id = 0) = false := by simpa using h0
        clear h00
        go_enter Tryz.func89, Tryz.ntmps89
        go_wp2_with (go_at_call 90; refine (HI.out _).mono ?_; rintro e _ ⟨rfl, rfl⟩)
        exact bodyPost_ret (v := .tuple #[.agg #[.bool false, .int .i64 0], .bool false]) (by simp [results, Tryz.results89, go_sem]) rfl ⟨by rw [HN.out]; rfl, below_two⟩
    · have hid1 : 1 ≤ id := by omega
      obtain ⟨k, rfl⟩ : ∃ k : Nat, id = ((k + 1 : Nat) : Int) := ⟨(id - 1).toNat, by omega⟩
      have hk : k < a.ids.length := by omega
      obtain ⟨b1, o1, rfl, hb1, hc1⟩ := hA (by omega)
      have hget := List.getElem?_eq_getElem hk
      have hml := hls _ (List.getElem_mem hk)
      obtain ⟨pv, p0, p1, p2, p3⟩ := hc1 k _ hget
      generalize a.ids[k] = t at hget p0 p1 p2 p3 hml
      have hget' : a.ids[(k + 1) - 1]? = some t := by simpa using hget
      clear hc1 hA hls hget h00 hno
      obtain ⟨A2, c2, rfl, hA2⟩ := p0
      have e1 : IntKind.i64.wrap (((k + 1 : Nat) : Int) - 1) = (k : Int) := by rw [IntWalk.i64_in _ (by omega)]; omega
      have HI := Lib.hid (fun V => refIn_true (n := ((k + 1 : Nat) : Int)) (l := 1) (m := (a.ids.length : Int)) (by omega) V)
      have g3 : ¬ ((k + 1 : Nat) : Int) = 0 := by omega
      by_cases ha0 : arg = 0
      · subst ha0
        have HN := Lib.hid (plAt_id (a := a) (id := k + 1) (by omega) hget')
        go_enter Tryz.func89, Tryz.ntmps89
        go_wp2_with (go_at_call 90; refine (HI.out _).mono ?_; rintro e _ ⟨rfl, rfl⟩)
        exact bodyPost_ret (v := .tuple #[.agg #[.bool t.result.cell, .int .i64 t.result.n], .bool true]) (by simp [results, Tryz.results89, go_sem]) rfl ⟨by have h9 := HN.out; simp only [Int.natCast_add, Int.natCast_one] at h9 ⊢; rw [h9]; rfl, below_three⟩
      · have ha2 : decide (arg = 0) = false := by simpa using ha0
        have ha3 : (arg == 0) = false := by simpa using ha0
        by_cases ha1 : 1 ≤ arg ∧ arg ≤ t.params.length
        · obtain ⟨ha1, ha4⟩ := ha1
          obtain ⟨j, rfl⟩ : ∃ j : Nat, arg = ((j + 1 : Nat) : Int) := ⟨(arg - 1).toNat, by omega⟩
          have hj : j < t.params.length := by omega
          obtain ⟨b2, o2, rfl, hb2, hc2⟩ := hA2 (by omega)
          have hget2 := List.getElem?_eq_getElem hj
          obtain ⟨q1, q2⟩ := hc2 j _ hget2
          generalize t.params[j] = x at hget2 q1 q2
          have hb21 : b2 < w.heap.size + 1 := by omega
          have hb22 : b2 < w.heap.size + 1 + 1 := by omega
          have HN := Lib.hid (plAt_param (a := a) (id := k + 1) (arg := j + 1) (by omega) (by omega) hget' (by simpa using hget2))
          have HI2 := Lib.hid (fun V => refIn_true (n := ((j + 1 : Nat) : Int)) (l := 1) (m := (t.params.length : Int)) (by omega) V)
          have e2 : IntKind.i64.wrap (((j + 1 : Nat) : Int) - 1) = (j : Int) := by rw [IntWalk.i64_in _ (by omega)]; omega
          clear hc2 hA2 hget2 hget'
          go_enter Tryz.func89, Tryz.ntmps89
          go_wp2_with (first | (have hq := hpast; go_at_call 90; refine (HI2.out _).mono ?_; rintro e _ ⟨rfl, rfl⟩) | (go_at_call 90; refine (HI.out _).mono ?_; rintro e _ ⟨rfl, rfl⟩; have hpast := hk))
          exact bodyPost_ret (v := .tuple #[.agg #[.bool x.cell, .int .i64 x.n], .bool true]) (by simp [results, Tryz.results89, go_sem]) rfl ⟨by have h9 := HN.out; simp only [Int.natCast_add, Int.natCast_one] at h9 ⊢; rw [h9]; rfl, below_three⟩
        · have HN := Lib.hid (plAt_none_arg (a := a) (id := k + 1) (arg := arg) (by omega) hget' ha0 (by omega))
          have HI2 := Lib.hid (fun V => refIn_false (n := arg) (l := 1) (m := (t.params.length : Int)) (by omega) V)
          clear hget' ha1
          go_enter Tryz.func89, Tryz.ntmps89
          go_wp2_with (first | (have hq := hpast; go_at_call 90; refine (HI2.out _).mono ?_; rintro e _ ⟨rfl, rfl⟩) | (go_at_call 90; refine (HI.out _).mono ?_; rintro e _ ⟨rfl, rfl⟩; have hpast := hk))
          exact bodyPost_ret (v := .tuple #[.agg #[.bool false, .int .i64 0], .bool false]) (by simp [results, Tryz.results89, go_sem]) rfl ⟨by rw [HN.out]; rfl, below_three⟩

end Go.Proofs.YtoncdnelacolaaaGreatDoor.Ar
