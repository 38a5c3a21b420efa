/- The shortest text with some tokens: tokensError and Tight of package lex. -/
import Derived.Test.YthjnoboceibjjaaGreatDoorWalkY
import Derived.Test.YthjnoboceibjjaaGreatDoorSpecL
import Derived.Deep.CutBlock
import Derived.Deep.LoopGhost
namespace Go.Proofs.YthjnoboceibjjaaGreatDoor.Lx
open Go Go.Proofs Go.RowKit Go.Shelf

/-- A slice value that holds tokens, at whatever places they say that they are. -/
def SlTw (W : World) (v : Value) (l : List Tk) : Prop :=
  ∃ A cap, v = .slice A l.length cap ∧ (0 < l.length → ∃ b off, A = some ⟨b, off, none⟩ ∧ b < W.heap.size ∧ ∀ i t, l[i]? = some t →
    W.cell? ⟨b, off + i * 3, none⟩ = some (.int .u8 (t.kind : Int)) ∧ W.cell? ⟨b, off + i * 3 + 1, none⟩ = some (.string t.text) ∧ ∃ p : Int, W.cell? ⟨b, off + i * 3 + 2, none⟩ = some (.int .i64 p))
theorem SlTw.below {W W' : World} {v : Value} {l : List Tk} (h : SlTw W v l) (hb : Below W.heap.size W W') : SlTw W' v l := by
  obtain ⟨A, cap, rfl, hA⟩ := h
  refine ⟨A, cap, rfl, fun h0 => ?_⟩
  obtain ⟨b, off, rfl, hlt, hc⟩ := hA h0
  refine ⟨b, off, rfl, Nat.lt_of_lt_of_le hlt hb.size, fun i t ht => ?_⟩
  obtain ⟨p1, p2, p, p3⟩ := hc i t ht
  exact ⟨(hb.cell (p := ⟨b, off + i * 3, none⟩) hlt).trans p1, (hb.cell (p := ⟨b, off + i * 3 + 1, none⟩) hlt).trans p2, p, (hb.cell (p := ⟨b, off + i * 3 + 2, none⟩) hlt).trans p3⟩
theorem SlTw.of_tk {W : World} {v : Value} {l : List Tk} (h : SlTk W v l) : SlTw W v l := by
  obtain ⟨A, cap, rfl, hA⟩ := h
  refine ⟨A, cap, rfl, fun h0 => ?_⟩
  obtain ⟨b, off, rfl, hlt, hc⟩ := hA h0
  refine ⟨b, off, rfl, hlt, fun i t ht => ?_⟩
  obtain ⟨p1, p2, p3⟩ := hc i t ht
  exact ⟨p1, p2, _, p3⟩

set_option maxRecDepth 100000 in
set_option maxHeartbeats 4000000 in
theorem isRightW_in (x : Tk) (at_ : Int) (mb : Nat) (w : World) (hs : x.text.size ≤ 100000) (hG : Gl w) (hm : Kw w mb) (h5 : ¬ x.kind = 5) (h0 : ¬ x.text.size = 0) (hp : ¬ pieceEnd x.text 0 < x.text.size) :
    Calls Tryz.prog 36 #[.agg #[.int .u8 (x.kind : Int), .string x.text, .int .i64 at_], .map (some mb)] w fun e w' => e = .returned (.bool (goodTk x)) ∧ Below w.heap.size w w' := by
  have ht : ((x.kind : Int) == 5) = false := by simp; omega
  have hte : x.text.toList ≠ [] := fun h => h0 (empty_list' h)
  have hte2 : x.text.toList.isEmpty = false := by simp [hte]
  have hte3 : (x.text.toList == []) = false := by simp [hte]
  have hb0 : Below w.heap.size w (w.alloc (.cells #[.int .u8 (x.kind : Int), .string x.text, .int .i64 at_] 33)) := (Below.refl _ _).alloc (Nat.le_refl _) _
  have hpe := fun W => pieceEnd_any x.text 0 W hs (by omega)
  have Hpe := Lib.hid hpe
  have hko := fun W hG' hm' => kindOf_any x.text mb W hs (by omega) hG' hm'
  have Hko := Lib.hid hko
  have Hg := Lib.hid (show goodTk x = (decide ((kindOf x.text).2 = 0) && decide ((kindOf x.text).1 = x.kind)) by unfold goodTk; rw [decide_eq_false h5, decide_eq_false h0, decide_eq_false hp]; rfl)
  have hdec : (((kindOf x.text).2 : Int) == 0) = true ∧ (((kindOf x.text).1 : Int) == (x.kind : Int)) = true ∧ Hid (goodTk x = true) ∨ (((kindOf x.text).2 : Int) == 0) = true ∧ (((kindOf x.text).1 : Int) == (x.kind : Int)) = false ∧ Hid (goodTk x = false) ∨ (((kindOf x.text).2 : Int) == 0) = false ∧ Hid (goodTk x = false) := by
    by_cases hk2 : (kindOf x.text).2 = 0
    · by_cases hk1 : (kindOf x.text).1 = x.kind
      · exact .inl ⟨by rw [hk2]; rfl, by rw [hk1]; simp, Lib.hid (by rw [Hg.out, decide_eq_true hk2, decide_eq_true hk1]; rfl)⟩
      · exact .inr (.inl ⟨by rw [hk2]; rfl, by simp; omega, Lib.hid (by rw [Hg.out, decide_eq_true hk2, decide_eq_false hk1]; rfl)⟩)
    · exact .inr (.inr ⟨by simp; omega, Lib.hid (by rw [Hg.out, decide_eq_false hk2]; rfl)⟩)
  have Hd := Lib.hid hdec
  have hmlt := hm.lt
  clear h5 hpe hko hdec
  go_enter Tryz.func36, Tryz.ntmps36
  go_wp2
  go_region_with (go_at_call 42; refine (Hpe.out _).mono ?_; rintro e w1 ⟨rfl, hb1⟩; have cc0 := (hb1.cell (p := ⟨w.heap.size, 0, none⟩) (by simp)).trans (cell_new w _ _ 0); have cc1 := (hb1.cell (p := ⟨w.heap.size, 1, none⟩) (by simp)).trans (cell_new w _ _ 1))
  all_goals (
    have hB1 := hb0.drew.trans (hb1.mono (by simp))
    have hG1 := hG.next hB1
    have hm1 := hm.next hB1
    have hs1 : w.heap.size < w1.heap.size := by have := hb1.size; simp at this; omega
    clear hb1
    go_wp2_with (go_at_call 43; refine (Hko.out _ hG1 hm1).mono ?_; rintro e w2 ⟨rfl, hb2⟩; have cc2 := (hb2.cell (p := ⟨w.heap.size, 0, none⟩) hs1).trans cc0; have hB2 := hB1.trans (hb2.mono hB1.size); rcases Hd.out with ⟨q2, q1, Hgg⟩ | ⟨q2, q1, Hgg⟩ | ⟨q2, Hgg⟩))
  all_goals (go_ret; exact ⟨ret_bool Hgg.out.symm, hB2⟩)

set_option maxRecDepth 100000 in
set_option maxHeartbeats 2000000 in
theorem isRightW_any (x : Tk) (at_ : Int) (mb : Nat) (w : World) (hs : x.text.size ≤ 100000) (hG : Gl w) (hm : Kw w mb) :
    Calls Tryz.prog 36 #[.agg #[.int .u8 (x.kind : Int), .string x.text, .int .i64 at_], .map (some mb)] w fun e w' => e = .returned (.bool (goodTk x)) ∧ Below w.heap.size w w' := by
  by_cases h5 : x.kind = 5
  · have Hg := Lib.hid (show goodTk x = false by unfold goodTk; rw [decide_eq_true h5]; rfl)
    have ht : ((x.kind : Int) == 5) = true := by rw [h5]; rfl
    clear h5
    go_enter Tryz.func36, Tryz.ntmps36
    go_wp2
    go_region
    go_wp2
    go_ret
    exact ⟨ret_bool Hg.out.symm, ((Below.refl _ _).alloc (Nat.le_refl _) _).drew⟩
  · by_cases h0 : x.text.size = 0
    · have Hg := Lib.hid (show goodTk x = false by unfold goodTk; rw [decide_eq_false h5, decide_eq_true h0]; rfl)
      have ht : ((x.kind : Int) == 5) = false := by simp; omega
      have hte := empty_list h0
      clear h5
      go_enter Tryz.func36, Tryz.ntmps36
      go_wp2
      go_region
      go_wp2
      go_ret
      exact ⟨ret_bool Hg.out.symm, ((Below.refl _ _).alloc (Nat.le_refl _) _).drew⟩
    · have ht : ((x.kind : Int) == 5) = false := by simp; omega
      have hte : x.text.toList ≠ [] := fun h => h0 (empty_list' h)
      have hte2 : x.text.toList.isEmpty = false := by simp [hte]
      have hte3 : (x.text.toList == []) = false := by simp [hte]
      have hb0 : Below w.heap.size w (w.alloc (.cells #[.int .u8 (x.kind : Int), .string x.text, .int .i64 at_] 33)) := (Below.refl _ _).alloc (Nat.le_refl _) _
      have hpe := fun W => pieceEnd_any x.text 0 W hs (by omega)
      have Hpe := Lib.hid hpe
      by_cases hp : pieceEnd x.text 0 < x.text.size
      · have Hg := Lib.hid (show goodTk x = false by unfold goodTk; rw [decide_eq_false h5, decide_eq_false h0, decide_eq_true hp]; rfl)
        clear h5 hpe
        go_enter Tryz.func36, Tryz.ntmps36
        go_wp2
        go_region_with (go_at_call 42; refine (Hpe.out _).mono ?_; rintro e w1 ⟨rfl, hb1⟩; have cc0 := (hb1.cell (p := ⟨w.heap.size, 0, none⟩) (by simp)).trans (cell_new w _ _ 0); have cc1 := (hb1.cell (p := ⟨w.heap.size, 1, none⟩) (by simp)).trans (cell_new w _ _ 1))
        all_goals (go_wp2; go_ret; exact ⟨ret_bool Hg.out.symm, hb0.drew.trans (hb1.mono (by simp))⟩)
      · exact isRightW_in x at_ mb w hs hG hm h5 h0 hp

/-- The function that tells a token which is not right: what it has captured is a box with the keywords. -/
theorem notRight_call (x : Tk) (at_ : Int) (B mb : Nat) (w : World) (hs : x.text.size ≤ 100000) (hG : Gl w) (hm : Kw w mb) (hB : B < w.heap.size) (hc : w.cell? ⟨B, 0, none⟩ = some (.map (some mb))) :
    Calls Tryz.prog 35 #[.agg #[.int .u8 (x.kind : Int), .string x.text, .int .i64 at_], .pointer (some ⟨B, 0, none⟩)] w fun e w' => e = .returned (.bool (!goodTk x)) ∧ Below w.heap.size w w' := by
  have Hir := Lib.hid (fun W hG' hm' => isRightW_any x at_ mb W hs hG' hm')
  have HG := Lib.hid (fun o => hG.next ((Below.refl _ w).alloc (Nat.le_refl _) o))
  have HM := Lib.hid (fun o => hm.next ((Below.refl _ w).alloc (Nat.le_refl _) o))
  have hb0 := (Below.refl _ w).alloc (Nat.le_refl _) (.cells #[.int .u8 (x.kind : Int), .string x.text, .int .i64 at_] 33)
  have Hb0 := Lib.hid hb0
  have hc' := ((hb0.cell (p := ⟨B, 0, none⟩) hB)).trans hc
  clear hc hb0 hG hm
  go_enter Tryz.func35, Tryz.ntmps35
  go_wp2_with (go_at_call 36; refine (Hir.out _ (HG.out _) (HM.out _)).mono ?_; rintro e w1 ⟨rfl, hb1⟩)
  go_ret
  exact ⟨rfl, Hb0.out.trans (hb1.mono Hb0.out.size)⟩

set_option maxRecDepth 100000 in
set_option maxHeartbeats 2000000 in
theorem indexFunc_any (v : Value) (l : List Tk) (B mb : Nat) (w : World) (ha : SlTw w v l) (hl : l.length ≤ 100000) (ht : ∀ x ∈ l, x.text.size ≤ 100000) (hG : Gl w) (hm : Kw w mb) (hB : B < w.heap.size) (hc : w.cell? ⟨B, 0, none⟩ = some (.map (some mb))) :
    Calls Tryz.prog 48 #[v, .func (.func 35) #[] #[.pointer (some ⟨B, 0, none⟩)]] w fun e w' => ∃ i : Int, e = .returned (.int .i64 i) ∧ (0 ≤ i ↔ l.all goodTk = false) ∧ Below w.heap.size w w' := by
  obtain ⟨A, ca, rfl, hA⟩ := ha
  go_enter Tryz.func48, Tryz.ntmps48
  go_wp2
  go_loopw [8] (fun i wr => ∃ k : Nat, k ≤ l.length ∧ i = .int .i64 k ∧ (∀ j, j < k → (hj : j < l.length) → goodTk l[j] = true) ∧ Below w.heap.size w wr) (fun i _ => l.length - (intOf i).toNat)
  case atStart => exact ⟨0, Nat.zero_le _, rfl, fun j h => absurd h (by omega), Below.refl _ _⟩
  case round =>
    obtain ⟨k, hk, rfl, hn, hbw⟩ := hrel
    have Hn := Lib.hid hn
    clear hn
    by_cases hlt : k < l.length
    · obtain ⟨b1, o1, rfl, hb1, hc1⟩ := hA (by omega)
      obtain ⟨p1, p2, at_, p3⟩ := hc1 k _ (List.getElem?_eq_getElem hlt)
      have p1' := (hbw.cell (p := ⟨b1, o1 + k * 3, none⟩) hb1).trans p1
      have p2' := (hbw.cell (p := ⟨b1, o1 + k * 3 + 1, none⟩) hb1).trans p2
      have p3' := (hbw.cell (p := ⟨b1, o1 + k * 3 + 2, none⟩) hb1).trans p3
      clear p1 p2 p3 hc1 hA
      have Hcl := Lib.hid (notRight_call l[k] at_ B mb wr (ht _ (List.getElem_mem hlt)) (hG.next hbw) (hm.next hbw) (Nat.lt_of_lt_of_le hB hbw.size) ((hbw.cell (p := ⟨B, 0, none⟩) hB).trans hc))
      have Hl := Lib.hid (show ∀ (h : goodTk l[k] = true) j, j < k + 1 → (hj : j < l.length) → goodTk l[j] = true from fun h j hj hjl => by
        rcases Nat.lt_succ_iff_lt_or_eq.1 hj with h5 | rfl
        · exact Hn.out j h5 hjl
        · exact h)
      have Hf := Lib.hid (show goodTk l[k] = false → l.all goodTk = false from fun h => by
        cases ha : l.all goodTk with
        | false => rfl
        | true => rw [List.all_eq_true.1 ha _ (List.getElem_mem hlt)] at h; exact absurd h (by decide))
      generalize l[k] = x at p1' p2' p3' Hcl Hl Hf
      clear hc
      cases hg : goodTk x with
      | true =>
        have Hg := Lib.hid hg
        clear hg
        go_wp2_with (go_at_call 35; refine Hcl.out.mono ?_; rw [Hg.out]; rintro e w1 ⟨rfl, hb2⟩)
        go_roundw
        case rel => exact ⟨k + 1, by omega, by go_num, Hl.out Hg.out, hbw.trans (hb2.mono hbw.size)⟩
        case measure => simp [intOf]; omega
      | false =>
        have Hg := Lib.hid hg
        clear hg
        go_wp2_with (go_at_call 35; refine Hcl.out.mono ?_; rw [Hg.out]; rintro e w1 ⟨rfl, hb2⟩)
        go_ret
        exact ⟨_, rfl, ⟨fun _ => Hf.out Hg.out, fun _ => by omega⟩, hbw.trans (hb2.mono hbw.size)⟩
    · have Hf := Lib.hid (show l.all goodTk = true from List.all_eq_true.2 fun x hx => by
        obtain ⟨j, hj, rfl⟩ := List.mem_iff_getElem.1 hx
        exact Hn.out j (by omega) hj)
      go_wp2
      go_ret
      exact ⟨_, rfl, ⟨fun h => absurd h (by omega), fun h => by rw [Hf.out] at h; exact absurd h (by decide)⟩, hbw⟩

set_option maxHeartbeats 1000000 in
theorem containsFunc_any (v : Value) (l : List Tk) (B mb : Nat) (w : World) (ha : SlTw w v l) (hl : l.length ≤ 100000) (ht : ∀ x ∈ l, x.text.size ≤ 100000) (hG : Gl w) (hm : Kw w mb) (hB : B < w.heap.size) (hc : w.cell? ⟨B, 0, none⟩ = some (.map (some mb))) :
    Calls Tryz.prog 34 #[v, .func (.func 35) #[] #[.pointer (some ⟨B, 0, none⟩)]] w fun e w' => e = .returned (.bool (!l.all goodTk)) ∧ Below w.heap.size w w' := by
  have Hi := Lib.hid (indexFunc_any v l B mb w ha hl ht hG hm hB hc)
  clear ha hG hm hc
  go_enter Tryz.func34, Tryz.ntmps34
  go_wp2_with (go_at_call 48; refine Hi.out.mono ?_; rintro e w1 ⟨i, rfl, hi, hb1⟩; have HI := Lib.hid hi; clear hi)
  go_ret
  refine ⟨ret_bool ?_, hb1⟩
  have := HI.out
  cases ha : l.all goodTk with
  | false => simpa using this.2 ha
  | true =>
    have h2 : ¬ 0 ≤ i := fun h => by have := this.1 h; rw [ha] at this; exact absurd this (by decide)
    simpa using h2

set_option maxRecDepth 100000 in
set_option maxHeartbeats 1000000 in
theorem tokensError_any (v : Value) (l : List Tk) (w : World) (ha : SlTw w v l) (hl : l.length ≤ 100000) (ht : ∀ x ∈ l, x.text.size ≤ 100000) (hG : Gl w) :
    Calls Tryz.prog 16 #[v] w fun e w' => e = .returned (.int .i64 (toksErr l : Int)) ∧ Below w.heap.size w w' := by
  obtain ⟨A, ca, rfl⟩ : ∃ A c, v = .slice A l.length c := by obtain ⟨A, c, e, _⟩ := ha; exact ⟨A, c, e⟩
  by_cases h9 : 900 < l.length
  · have Hf := Lib.hid (show toksErr l = 5 from if_pos h9)
    go_enter Tryz.func16, Tryz.ntmps16
    go_wp2
    go_ret
    exact ⟨ret_int (by rw [Hf.out]; rfl), Below.refl _ _⟩
  · have Hf := Lib.hid (show toksErr l = if l.all goodTk = false then 2 else 0 from if_neg h9)
    have HA := Lib.hid ha
    have Hcf := Lib.hid (fun W hW hG' B mb hm hB hc => containsFunc_any (.slice A l.length ca) l B mb W hW hl ht hG' hm hB hc)
    clear ha
    go_enter Tryz.func16, Tryz.ntmps16
    cases hg : l.all goodTk with
    | true =>
      rw [hg] at Hcf Hf
      go_wp2_with (first
        | (go_at_call 33; refine (keywords_any _ hG).mono ?_; rintro e w1 ⟨rfl, hk1, hb1⟩; have hbA := hb1.alloc hb1.size (.cells #[.map (some w.heap.size)] 71); have hx1 := (Below.refl w1.heap.size w1).alloc (Nat.le_refl _) (.cells #[.map (some w.heap.size)] 71); have HbA := Lib.hid hbA; have Hcf2 := Lib.hid (Hcf.out _ (HA.out.below hbA) (hG.next hbA) w1.heap.size w.heap.size (hk1.next hx1) (by rw [alloc_sz]; omega) (cell_new w1 _ _ 0)); clear hbA hx1)
        | (go_at_call 34; refine Hcf2.out.mono ?_; rintro e w2 ⟨rfl, hb2⟩))
      go_ret
      exact ⟨ret_int (by rw [Hf.out]; rfl), HbA.out.trans (hb2.mono HbA.out.size)⟩
    | false =>
      rw [hg] at Hcf Hf
      go_wp2_with (first
        | (go_at_call 33; refine (keywords_any _ hG).mono ?_; rintro e w1 ⟨rfl, hk1, hb1⟩; have hbA := hb1.alloc hb1.size (.cells #[.map (some w.heap.size)] 71); have hx1 := (Below.refl w1.heap.size w1).alloc (Nat.le_refl _) (.cells #[.map (some w.heap.size)] 71); have HbA := Lib.hid hbA; have Hcf2 := Lib.hid (Hcf.out _ (HA.out.below hbA) (hG.next hbA) w1.heap.size w.heap.size (hk1.next hx1) (by rw [alloc_sz]; omega) (cell_new w1 _ _ 0)); clear hbA hx1)
        | (go_at_call 34; refine Hcf2.out.mono ?_; rintro e w2 ⟨rfl, hb2⟩))
      go_ret
      exact ⟨ret_int (by rw [Hf.out]; rfl), HbA.out.trans (hb2.mono HbA.out.size)⟩

end Go.Proofs.YthjnoboceibjjaaGreatDoor.Lx
