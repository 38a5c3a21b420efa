/- What two lists of tokens have in common (common over tokens, from the start and from the end). -/
import Derived.Test.YtocogbllhmiefaaGreatDoorWalkT
import Derived.Test.YtocogbllhmiefaaGreatDoorSpecK
import Derived.Test.YtocogbllhmiefaaGreatDoorWalkI
namespace Go.Proofs.YtocogbllhmiefaaGreatDoor.Lx
open Go Go.Proofs Go.RowKit Go.Shelf

theorem tk_equal2 (x y : Tk) (p q : Int) (W : World) : (Op.equalIn 10000 47 (.agg #[.int .u8 (x.kind : Int), .string x.text, .int .i64 p]) (.agg #[.int .u8 (y.kind : Int), .string y.text, .int .i64 q])).run Tryz.prog W = .ok (decide (x.kind = y.kind) && (decide (x.text.toList = y.text.toList) && decide (p = q))) W := by
  rw [run_equalIn_agg W 9999 _ _ _ tk_fields tk_stood, tk_list]
  have u5 : Tryz.prog.underlying 5 = some (.int .u8) := Tryz.underlying5
  have u9 : Tryz.prog.underlying 9 = some .string := Tryz.underlying9
  have u3 : Tryz.prog.underlying 3 = some (.int .i64) := Tryz.underlying3
  simp [Op.eqFields, go_sem]
  by_cases h1 : x.kind = y.kind <;> by_cases h2 : x.text.toList = y.text.toList <;> by_cases h3 : p = q <;> simp [h1, h2, h3]
  all_goals first | done | (simp [show ¬ ((x.kind : Int) = (y.kind : Int)) from by omega])

set_option maxRecDepth 100000 in
set_option maxHeartbeats 400000 in
theorem sameT_call (x y : Tk) (w : World) :
    Calls Tryz.prog 46 #[.agg #[.int .u8 (x.kind : Int), .string x.text, .int .i64 (x.pos : Int)], .agg #[.int .u8 (y.kind : Int), .string y.text, .int .i64 (y.pos : Int)]] w fun e w' => e = .returned (.bool (sameTk x y)) ∧ Below w.heap.size w w' := by
  have he := tk_equal x y
  have Hb := Lib.hid (((Below.refl w.heap.size w).alloc (Nat.le_refl _) (.cells #[.int .u8 (x.kind : Int), .string x.text, .int .i64 (x.pos : Int)] 47)).alloc (by rw [alloc_sz]; omega) (.cells #[.int .u8 (y.kind : Int), .string y.text, .int .i64 (y.pos : Int)] 47))
  go_enter Tryz.func46, Tryz.ntmps46
  go_wp2
  repeat (go_quiet (fail); go_wp2)
  go_ret
  exact ⟨rfl, by first | exact Hb.out | exact below_draws Hb.out _⟩

set_option maxRecDepth 100000 in
set_option maxHeartbeats 400000 in
theorem movedT_call (x y : Tk) (g : Int) (b : Nat) (w : World) (hb : b < w.heap.size) (hg : w.cell? ⟨b, 0, none⟩ = some (.int .i64 g)) (hp : x.pos ≤ 100000) (hg1 : -100000 ≤ g) (hg2 : g ≤ 100000) :
    Calls Tryz.prog 48 #[.agg #[.int .u8 (x.kind : Int), .string x.text, .int .i64 (x.pos : Int)], .agg #[.int .u8 (y.kind : Int), .string y.text, .int .i64 (y.pos : Int)], .pointer (some ⟨b, 0, none⟩)] w fun e w' => e = .returned (.bool (moveT g x y)) ∧ Below w.heap.size w w' := by
  have he := tk_equal2 x y ((x.pos : Int) + g) (y.pos : Int)
  have Hb := Lib.hid (((Below.refl w.heap.size w).alloc (Nat.le_refl _) (.cells #[.int .u8 (x.kind : Int), .string x.text, .int .i64 ((x.pos : Int) + g)] 47)).alloc (by rw [alloc_sz]; omega) (.cells #[.int .u8 (y.kind : Int), .string y.text, .int .i64 (y.pos : Int)] 47))
  go_enter Tryz.func48, Tryz.ntmps48
  go_wp2
  go_ret
  exact ⟨rfl, Hb.out⟩

set_option maxRecDepth 100000 in
set_option maxHeartbeats 400000 in
theorem startT_call (v : Value) (l : List Tk) (i : Nat) (x : Tk) (w : World) (h : SlTk w v l) (hl : l.length ≤ 100000) (hx : l[i]? = some x) :
    Calls Tryz.prog 45 #[v, .int .i64 (i : Int)] w fun e w' => e = .returned (.agg #[.int .u8 (x.kind : Int), .string x.text, .int .i64 (x.pos : Int)]) ∧ Below w.heap.size w w' := by
  obtain ⟨A, cap, rfl, hA⟩ := h
  have hi : i < l.length := (List.getElem?_eq_some_iff.1 hx).1
  obtain ⟨b, off, rfl, hlt, hc⟩ := hA (by omega)
  obtain ⟨p1, p2, p3⟩ := hc i x hx
  have Hb := Lib.hid ((Below.refl w.heap.size w).alloc (Nat.le_refl _) (.cells #[.int .u8 (x.kind : Int), .string x.text, .int .i64 (x.pos : Int)] 47))
  clear hc hA hx
  go_enter Tryz.func45, Tryz.ntmps45
  go_wp2
  refine bodyPost_ret (v := .agg #[.int .u8 (x.kind : Int), .string x.text, .int .i64 (x.pos : Int)]) (by simp [results, Tryz.results45, go_sem]) rfl ⟨rfl, Hb.out⟩

set_option maxRecDepth 100000 in
set_option maxHeartbeats 400000 in
theorem endT_call (v : Value) (l : List Tk) (i : Nat) (x : Tk) (w : World) (h : SlTk w v l) (hl : l.length ≤ 100000) (hx : l.reverse[i]? = some x) :
    Calls Tryz.prog 47 #[v, .int .i64 (i : Int)] w fun e w' => e = .returned (.agg #[.int .u8 (x.kind : Int), .string x.text, .int .i64 (x.pos : Int)]) ∧ Below w.heap.size w w' := by
  obtain ⟨A, cap, rfl, hA⟩ := h
  have hi : i < l.length := by have := (List.getElem?_eq_some_iff.1 hx).1; simpa using this
  rw [List.getElem?_reverse hi] at hx
  obtain ⟨b, off, rfl, hlt, hc⟩ := hA (by omega)
  obtain ⟨p1, p2, p3⟩ := hc (l.length - 1 - i) x hx
  have hnum : (l.length : Int) - 1 - (i : Int) = ((l.length - 1 - i : Nat) : Int) := by omega
  have Hb := Lib.hid ((Below.refl w.heap.size w).alloc (Nat.le_refl _) (.cells #[.int .u8 (x.kind : Int), .string x.text, .int .i64 (x.pos : Int)] 47))
  clear hc hA hx
  go_enter Tryz.func47, Tryz.ntmps47
  go_wp2
  refine bodyPost_ret (v := .agg #[.int .u8 (x.kind : Int), .string x.text, .int .i64 (x.pos : Int)]) (by simp [results, Tryz.results47, go_sem]) rfl ⟨rfl, Hb.out⟩

set_option maxRecDepth 100000 in
set_option maxHeartbeats 4000000 in
theorem commonT_start (va vb : Value) (l m : List Tk) (w : World) (ha : SlTk w va l) (hb : SlTk w vb m) (hsl : l.length ≤ 100000) (hsm : m.length ≤ 100000) :
    Calls Tryz.prog 44 #[va, vb, .func (.func 45) #[] #[], .func (.func 46) #[] #[]] w fun e w' => e = .returned (.int .i64 (comL sameTk l m : Nat)) ∧ Below w.heap.size w w' := by
  have ha0 := ha
  have hb0 := hb
  obtain ⟨A, ca, rfl, hA⟩ := ha
  obtain ⟨B, cb, rfl, hB⟩ := hb
  clear hA hB
  have Hat := Lib.hid (fun (W : World) (v : Value) (q : List Tk) (i : Nat) (x : Tk) hq hl hx => startT_call v q i x W hq hl hx)
  go_enter Tryz.func44, Tryz.ntmps44
  go_wp2
  go_loopw [9] (fun i wr => ∃ k : Nat, k ≤ min l.length m.length ∧ i = .int .i64 k ∧ comL sameTk l m = k + comL sameTk (l.drop k) (m.drop k) ∧ Below w.heap.size w wr) (fun i _ => min l.length m.length - (intOf i).toNat)
  case atStart => exact ⟨0, Nat.zero_le _, rfl, by simp, Below.refl _ _⟩
  case round =>
    obtain ⟨k, hk, rfl, hcom, hbw⟩ := hrel
    by_cases hlt : k < min l.length m.length
    · have hka : k < l.length := by omega
      have hkb : k < m.length := by omega
      have hmin : (k : Int) < min (l.length : Int) (m.length : Int) := by omega
      have hx := List.getElem?_eq_getElem hka
      have hy := List.getElem?_eq_getElem hkb
      have hdx : l.drop k = l[k] :: l.drop (k + 1) := List.drop_eq_getElem_cons hka
      have hdy : m.drop k = m[k] :: m.drop (k + 1) := List.drop_eq_getElem_cons hkb
      rw [hdx, hdy] at hcom
      generalize l[k] = x at *
      generalize m[k] = y at *
      have hcom2 : comL sameTk l m = k + (if sameTk x y = true then 1 + comL sameTk (l.drop (k + 1)) (m.drop (k + 1)) else 0) := hcom
      have Hca := Lib.hid (fun W hW => Hat.out W (.slice A l.length ca) l k x hW hsl hx)
      have Hcb := Lib.hid (fun W hW => Hat.out W (.slice B m.length cb) m k y hW hsm hy)
      have Hc := Lib.hid hcom2
      have hsame := fun W (_ : Below wr.heap.size wr W) => sameT_call x y W
      have hz := hbw.size
      have Ha1 := Lib.hid (ha0.below hbw)
      have Hb1 := Lib.hid (hb0.below hbw)
      clear hcom hcom2 ha0 hb0 hx hy hdx hdy
      cases heq : sameTk x y with
      | true =>
        have Hc2 := Lib.hid (Hc.out.trans (by rw [if_pos heq]))
        rw [heq] at hsame
        have Hsame := Lib.hid hsame
        clear hsame heq
        go_wp2_with (first
          | (go_at_call 45; refine (Hcb.out _ (Hb1.out.below hb2)).mono ?_; rintro e w3 ⟨rfl, hb3⟩)
          | (go_at_call 45; refine (Hca.out _ Ha1.out).mono ?_; rintro e w2 ⟨rfl, hb2⟩)
          | (go_at_call 46; refine (Hsame.out _ (hb2.trans (hb3.mono hb2.size))).mono ?_; rintro e w4 ⟨rfl, hb4⟩))
        go_roundw
        case rel => exact ⟨k + 1, by omega, by go_num, by rw [Hc2.out]; omega, ((hbw.trans (hb2.mono hbw.size)).trans (hb3.mono (Nat.le_trans hbw.size hb2.size))).trans (hb4.mono (Nat.le_trans hbw.size (Nat.le_trans hb2.size hb3.size)))⟩
        case measure => simp [intOf]; omega
      | false =>
        have Hc2 := Lib.hid (Hc.out.trans (by rw [if_neg (by rw [heq]; decide)]))
        rw [heq] at hsame
        have Hsame := Lib.hid hsame
        clear hsame heq
        go_wp2_with (first
          | (go_at_call 45; refine (Hcb.out _ (Hb1.out.below hb2)).mono ?_; rintro e w3 ⟨rfl, hb3⟩)
          | (go_at_call 45; refine (Hca.out _ Ha1.out).mono ?_; rintro e w2 ⟨rfl, hb2⟩)
          | (go_at_call 46; refine (Hsame.out _ (hb2.trans (hb3.mono hb2.size))).mono ?_; rintro e w4 ⟨rfl, hb4⟩))
        go_ret
        exact ⟨ret_int (by rw [Hc2.out]; rfl), ((hbw.trans (hb2.mono hbw.size)).trans (hb3.mono (Nat.le_trans hbw.size hb2.size))).trans (hb4.mono (Nat.le_trans hbw.size (Nat.le_trans hb2.size hb3.size)))⟩
    · have hmin : ¬ (k : Int) < min (l.length : Int) (m.length : Int) := by omega
      have hfin : comL sameTk l m = k := by
        rw [hcom]
        rcases (show l.length ≤ k ∨ m.length ≤ k by omega) with h | h
        · rw [List.drop_eq_nil_of_le h]; cases m.drop k <;> rfl
        · rw [List.drop_eq_nil_of_le h]; cases l.drop k <;> rfl
      have Hf := Lib.hid hfin
      clear hcom hfin
      go_wp2
      go_ret
      exact ⟨ret_int (by rw [Hf.out]), hbw⟩

set_option maxRecDepth 100000 in
set_option maxHeartbeats 4000000 in
theorem commonT_end (va vb : Value) (l m : List Tk) (g : Int) (b : Nat) (w : World) (ha : SlTk w va l) (hb : SlTk w vb m) (hsl : l.length ≤ 100000) (hsm : m.length ≤ 100000) (hbb : b < w.heap.size) (hg : w.cell? ⟨b, 0, none⟩ = some (.int .i64 g)) (hpos : ∀ x ∈ l, x.pos ≤ 100000) (hg1 : -100000 ≤ g) (hg2 : g ≤ 100000) :
    Calls Tryz.prog 44 #[va, vb, .func (.func 47) #[] #[], .func (.func 48) #[] #[.pointer (some ⟨b, 0, none⟩)]] w fun e w' => e = .returned (.int .i64 (comL (moveT g) l.reverse m.reverse : Nat)) ∧ Below w.heap.size w w' := by
  have ha0 := ha
  have hb0 := hb
  obtain ⟨A, ca, rfl, hA⟩ := ha
  obtain ⟨B, cb, rfl, hB⟩ := hb
  clear hA hB
  have hlP : (l.reverse).length = l.length := by simp
  have hlM : (m.reverse).length = m.length := by simp
  have Hat := Lib.hid (fun (W : World) (v : Value) (q : List Tk) (i : Nat) (x : Tk) hq hl hx => endT_call v q i x W hq hl hx)
  generalize hP : l.reverse = P at *
  generalize hM : m.reverse = M at *
  go_enter Tryz.func44, Tryz.ntmps44
  go_wp2
  go_loopw [9] (fun i wr => ∃ k : Nat, k ≤ min l.length m.length ∧ i = .int .i64 k ∧ comL (moveT g) P M = k + comL (moveT g) (P.drop k) (M.drop k) ∧ Below w.heap.size w wr) (fun i _ => min l.length m.length - (intOf i).toNat)
  case atStart => exact ⟨0, Nat.zero_le _, rfl, by simp, Below.refl _ _⟩
  case round =>
    obtain ⟨k, hk, rfl, hcom, hbw⟩ := hrel
    by_cases hlt : k < min l.length m.length
    · have hka : k < P.length := by omega
      have hkb : k < M.length := by omega
      have hmin : (k : Int) < min (l.length : Int) (m.length : Int) := by omega
      have hx := List.getElem?_eq_getElem hka
      have hy := List.getElem?_eq_getElem hkb
      have hdx : P.drop k = P[k] :: P.drop (k + 1) := List.drop_eq_getElem_cons hka
      have hdy : M.drop k = M[k] :: M.drop (k + 1) := List.drop_eq_getElem_cons hkb
      rw [hdx, hdy] at hcom
      have hmem : ∀ z ∈ P, z ∈ l := fun z hz => by rw [← hP] at hz; exact List.mem_reverse.1 hz
      have hpx : P[k].pos ≤ 100000 := hpos _ (hmem _ (List.getElem_mem hka))
      generalize P[k] = x at *
      generalize M[k] = y at *
      have hcom2 : comL (moveT g) P M = k + (if (moveT g) x y = true then 1 + comL (moveT g) (P.drop (k + 1)) (M.drop (k + 1)) else 0) := hcom
      have Hca := Lib.hid (fun W hW => Hat.out W (.slice A l.length ca) l k x hW hsl (by rw [hP]; exact hx))
      have Hcb := Lib.hid (fun W hW => Hat.out W (.slice B m.length cb) m k y hW hsm (by rw [hM]; exact hy))
      have Hc := Lib.hid hcom2
      have hsame := fun W (hW : Below wr.heap.size wr W) => movedT_call x y g b W (Nat.lt_of_lt_of_le (Nat.lt_of_lt_of_le hbb hbw.size) hW.size) ((hW.cell (p := ⟨b, 0, none⟩) (Nat.lt_of_lt_of_le hbb hbw.size)).trans ((hbw.cell (p := ⟨b, 0, none⟩) hbb).trans hg)) hpx hg1 hg2
      have hz := hbw.size
      have Ha1 := Lib.hid (ha0.below hbw)
      have Hb1 := Lib.hid (hb0.below hbw)
      clear hcom hcom2 ha0 hb0 hx hy hdx hdy hP hM
      cases heq : (moveT g) x y with
      | true =>
        have Hc2 := Lib.hid (Hc.out.trans (by rw [if_pos heq]))
        rw [heq] at hsame
        have Hsame := Lib.hid hsame
        clear hsame heq
        go_wp2_with (first
          | (go_at_call 47; refine (Hcb.out _ (Hb1.out.below hb2)).mono ?_; rintro e w3 ⟨rfl, hb3⟩)
          | (go_at_call 47; refine (Hca.out _ Ha1.out).mono ?_; rintro e w2 ⟨rfl, hb2⟩)
          | (go_at_call 48; refine (Hsame.out _ (hb2.trans (hb3.mono hb2.size))).mono ?_; rintro e w4 ⟨rfl, hb4⟩))
        go_roundw
        case rel => exact ⟨k + 1, by omega, by go_num, by rw [Hc2.out]; omega, ((hbw.trans (hb2.mono hbw.size)).trans (hb3.mono (Nat.le_trans hbw.size hb2.size))).trans (hb4.mono (Nat.le_trans hbw.size (Nat.le_trans hb2.size hb3.size)))⟩
        case measure => simp [intOf]; omega
      | false =>
        have Hc2 := Lib.hid (Hc.out.trans (by rw [if_neg (by rw [heq]; decide)]))
        rw [heq] at hsame
        have Hsame := Lib.hid hsame
        clear hsame heq
        go_wp2_with (first
          | (go_at_call 47; refine (Hcb.out _ (Hb1.out.below hb2)).mono ?_; rintro e w3 ⟨rfl, hb3⟩)
          | (go_at_call 47; refine (Hca.out _ Ha1.out).mono ?_; rintro e w2 ⟨rfl, hb2⟩)
          | (go_at_call 48; refine (Hsame.out _ (hb2.trans (hb3.mono hb2.size))).mono ?_; rintro e w4 ⟨rfl, hb4⟩))
        go_ret
        exact ⟨ret_int (by rw [Hc2.out]; rfl), ((hbw.trans (hb2.mono hbw.size)).trans (hb3.mono (Nat.le_trans hbw.size hb2.size))).trans (hb4.mono (Nat.le_trans hbw.size (Nat.le_trans hb2.size hb3.size)))⟩
    · have hmin : ¬ (k : Int) < min (l.length : Int) (m.length : Int) := by omega
      have hfin : comL (moveT g) P M = k := by
        rw [hcom]
        rcases (show P.length ≤ k ∨ M.length ≤ k by omega) with h | h
        · rw [List.drop_eq_nil_of_le h]; cases M.drop k <;> rfl
        · rw [List.drop_eq_nil_of_le h]; cases P.drop k <;> rfl
      have Hf := Lib.hid hfin
      clear hcom hfin
      go_wp2
      go_ret
      exact ⟨ret_int (by rw [Hf.out]), hbw⟩

end Go.Proofs.YtocogbllhmiefaaGreatDoor.Lx
