/- Contracts of the keywords and of the kinds of tokens, for package lex. -/
import Derived.Test.YthjnoboceibjjaaGreatDoorWalkD
namespace Go.Proofs.YthjnoboceibjjaaGreatDoor.Lx
open Go Go.Proofs Go.RowKit Go.Maps Go.WideMaps

/-- The set of the first n keywords, as a datum. -/
def kwN (n : Nat) : DataW Unit := (words.take n).foldl (fun D x => D.put (.string x) (.lit (.bool true))) (.map [])
theorem kwN_succ (n : Nat) (h : n < words.length) : kwN (n + 1) = (kwN n).put (.string (words.getD n [])) (.lit (.bool true)) := by
  unfold kwN
  rw [List.take_succ_eq_append_getElem h, List.foldl_append]
  simp [List.getD_eq_getElem?_getD, List.getElem?_eq_getElem h]
theorem kw_at (l : List (List UInt8)) (x : List UInt8) : ∀ D : DataW Unit, IsMap D →
    (l.foldl (fun D x => D.put (.string x) (.lit (.bool true))) D).atKey (.string x) (.lit (.bool false)) = if x ∈ l then .lit (.bool true) else D.atKey (.string x) (.lit (.bool false)) := by
  induction l with
  | nil => intro D _; simp
  | cons y r ih =>
    intro D hD
    rw [List.foldl_cons, ih _ (hD.put _ _)]
    by_cases hr : x ∈ r
    · rw [if_pos hr, if_pos (List.mem_cons_of_mem _ hr)]
    · rw [if_neg hr]
      by_cases he : x = y
      · subst he
        rw [if_pos (List.mem_cons_self ..), atKey_put_same hD (show WideAt.IsKeyLit (.string x) from trivial)]
      · rw [if_neg (by simp [he, hr]), atKey_put_other (by intro e; cases e; exact he rfl)]

theorem zero_bool (w : World) : (zeroValue 4).run Tryz.prog w = .ok (.bool false) w := by kernel_rfl
theorem keyed : Keyed Tryz.prog 9 := string_keyed Tryz.underlying9

/-- Block mb is the map of all keywords. -/
def Kw (w : World) (mb : Nat) : Prop := w.ownsMap Tryz.prog 9 (plainElem (H := Unit) Tryz.prog 4) mb 30 (kwN 30)
theorem Kw.below {w w' : World} {mb : Nat} (h : Kw w mb) {B : Nat} (hB : mb < B) (hb : Below B w w') : Kw w' mb := by
  obtain ⟨es, clock, hb1, r⟩ := h
  exact ⟨es, clock, (hb.block mb hB).trans hb1, r⟩
theorem Kw.lt {w : World} {mb : Nat} (h : Kw w mb) : mb < w.heap.size := World.ownsMap.lt h
theorem Kw.next {w w' : World} {mb : Nat} (h : Kw w mb) (hb : Below w.heap.size w w') : Kw w' mb := h.below h.lt hb

theorem bool_inv {P : Program} {t : TypeId} (ht : P.underlying t = some .bool) {v : Value} {z : DataW Unit × List MemPlace} (h : plainElem P t v = some z) : ∃ x, v = .bool x ∧ z = (.lit (.bool x), []) := by
  unfold plainElem at h
  rw [ht] at h
  cases v <;> simp at h
  exact ⟨_, rfl, h.symm⟩

/-- Asked for a text, it says whether it is a keyword. -/
theorem Kw.look {w : World} {mb : Nat} (h : Kw w mb) (s : ByteArray) (hs : s.size ≤ 100000) : (Instr.lookup 71 (.map (some mb)) (.string s) false).run Tryz.prog w = .ok (.bool (isWord s)) w := by
  obtain ⟨v, ps, hrun, hv⟩ := World.ownsMap.lookup h keyed Tryz.underlying71 (zero_bool w) (plainElem_bool Tryz.underlying4 false) (keyOf_string_mk (s := s) Tryz.underlying9 (by unfold maxLen; omega))
  have e : (kwN 30).atKey (.string s.data.toList) (.lit (.bool false)) = .lit (.bool (isWord s)) := by
    unfold kwN
    rw [kw_at _ _ _ isMap_empty, List.take_of_length_le (show words.length ≤ 30 by decide)]
    unfold isWord
    by_cases hm : s.data.toList ∈ words
    · rw [if_pos hm, decide_eq_true hm]
    · rw [if_neg hm, decide_eq_false hm]; rfl
  rw [e] at hv
  rw [hrun]
  obtain ⟨x, rfl, hz⟩ := bool_inv Tryz.underlying4 hv
  simp only [Prod.mk.injEq, DataW.lit.injEq, Lit.bool.injEq] at hz
  rw [hz.1]

theorem ascii_words : ∀ (j : Nat) b, (⟨wordBytes.toArray⟩ : ByteArray).data.toList[j]? = some b → b.toNat < 128 := by
  intro j b h
  have H : (wordBytes.all fun b => decide (b.toNat < 128)) = true := by decide +kernel
  have hm : b ∈ wordBytes := List.mem_of_getElem? (by simpa using h)
  exact of_decide_eq_true (List.all_eq_true.1 H b hm)

theorem fields_call (W : World) (hG : Gl W) :
    Calls Tryz.prog 47 #[.string ⟨wordBytes.toArray⟩] W fun e w' => e = .returned (.slice (some ⟨W.heap.size, 0, none⟩) 30 30) ∧ W.alloc (.cells (words.map fun l => Value.string ⟨l.toArray⟩).toArray 9) = w' := by
  have := Tryz.strings_Fields_laid ⟨wordBytes.toArray⟩ W (by decide +kernel) ascii_words hG.2.1
  refine this.mono fun e w' ⟨he, hw⟩ => ?_
  have hf : Lib.fields (⟨wordBytes.toArray⟩ : ByteArray).data.toList = words := fields_words
  rw [hf] at he hw
  exact ⟨he, hw.symm⟩

set_option maxRecDepth 100000 in
set_option maxHeartbeats 800000 in
theorem keywords_any (w : World) (hG : Gl w) :
    Calls Tryz.prog 33 #[] w fun e w' => e = .returned (.map (some w.heap.size)) ∧ Kw w' w.heap.size ∧ Below w.heap.size w w' := by
  have hmm := @run_makeMap Tryz.prog
  have hb0 : Below w.heap.size w (w.alloc (.map #[] 0)) := (Below.refl _ _).alloc (Nat.le_refl _) _
  have hG1 := hG.next hb0
  go_enter Tryz.func33, Tryz.ntmps33
  go_wp2_with (go_at_call 47; refine (fields_call _ hG1).mono ?_; rintro e w1 ⟨rfl, rfl⟩)
  have hlen : words.length = 30 := by decide
  have HL := Lib.hid hlen
  clear hlen
  go_loopw [7] (fun i wr => ∃ k : Nat, k ≤ 30 ∧ i = .int .i64 k ∧ wr.ownsMap Tryz.prog 9 (plainElem (H := Unit) Tryz.prog 4) w.heap.size k (kwN k) ∧
      (∀ j, j < 30 → wr.cell? ⟨w.heap.size + 1, j, none⟩ = some (.string ⟨(words.getD j []).toArray⟩)) ∧ w.heap.size + 2 ≤ wr.heap.size ∧ Below w.heap.size w wr) (fun i _ => 30 - (intOf i).toNat)
  case atStart =>
    refine ⟨0, Nat.zero_le _, rfl, (World.ownsMap_made _ _ _ _).alloc _, fun j hj => ?_, by simp, hb0.alloc (by simp) _⟩
    have := cell_new (w.alloc (.map #[] 0)) (words.map fun l => Value.string ⟨l.toArray⟩).toArray 9 j
    rw [World.size_alloc] at this
    rw [this]
    have hj' : j < words.length := by rw [HL.out]; exact hj
    simp [List.getD_eq_getElem?_getD, List.getElem?_eq_getElem hj']
  case round =>
    obtain ⟨k, hk, rfl, hown, hcells, hz, hb⟩ := hrel
    have hcell : k < 30 → wr.cell? ⟨w.heap.size + 1, k, none⟩ = some (.string ⟨(words.getD k []).toArray⟩) := fun h => hcells k h
    have hkey : k < 30 → keyOf Tryz.prog 9 (.string ⟨(words.getD k []).toArray⟩) = some (.string (words.getD k [])) := fun h => by
      rw [keyOf_string_mk Tryz.underlying9 (by
        have H : (words.all fun l => decide (l.length ≤ 100)) = true := by decide +kernel
        have hm : words.getD k [] ∈ words := by
          rw [List.getD_eq_getElem?_getD, List.getElem?_eq_getElem (by rw [HL.out]; exact h)]; exact List.getElem_mem _
        have := of_decide_eq_true (List.all_eq_true.1 H _ hm)
        have hs : (⟨(words.getD k []).toArray⟩ : ByteArray).size = (words.getD k []).length := by simp [ByteArray.size]
        rw [hs]; unfold maxLen; omega)]
    have HC := Lib.hid hcells
    clear hcells
    generalize hx : words.getD k [] = x at hcell hkey
    have HX := Lib.hid hx
    clear hx
    by_cases hlt : k < 30
    · have hc := hcell hlt
      have hkk := hkey hlt
      have HK := Lib.hid hkk
      clear hcell hkey hkk
      go_wp2_with (first
        | (at_mapUpdate; refine wpList_mapUpdate_own _ rfl _ _ _ 71 rfl 9 4 keyed Tryz.underlying71 _ w.heap.size k _ rfl hown (by unfold maxLen; omega) _ _ _ rfl rfl HK.out _ [] (plainElem_bool Tryz.underlying4 true) ?_; intro w1 hown1 hgrow1))
      go_roundw
      case rel =>
        refine ⟨k + 1, by omega, by go_num, ?_, fun j hj => ?_, Nat.le_trans hz hgrow1.size, hb.grown hgrow1 hb.size (fun j hj => by cases hj; exact Nat.le_refl _)⟩
        · rw [kwN_succ k (by rw [HL.out]; exact hlt), HX.out]; exact hown1
        · rw [← HC.out j hj]
          exact World.cell?_of_block (hgrow1.block _ (by show w.heap.size + 1 < wr.heap.size; omega) (by simp))
      case measure => simp [intOf]; omega
    · have h30 : k = 30 := by omega
      subst h30
      clear hcell hkey
      go_wp2
      go_ret
      exact ⟨rfl, hown, hb⟩

set_option maxRecDepth 100000 in
set_option maxHeartbeats 400000 in
theorem kindOf_any (s : ByteArray) (mb : Nat) (w : World) (hs : s.size ≤ 100000) (h0 : 0 < s.size) (hG : Gl w) (hm : Kw w mb) :
    Calls Tryz.prog 43 #[.string s, .map (some mb)] w fun e w' => e = .returned (.tuple #[.int .u8 ((kindOf s).1 : Int), .int .i64 ((kindOf s).2 : Int)]) ∧ Below w.heap.size w w' := by
  have hlook := hm.look s hs
  have hc := bt_eq s 0 h0
  have Hc := Lib.hid hc
  clear hc hm
  have h := cls_lt (bt s 0)
  rcases (show cls (bt s 0) = 3 ∨ cls (bt s 0) = 4 ∨ cls (bt s 0) = 6 ∨ cls (bt s 0) = 7 ∨ cls (bt s 0) = 0 ∨ cls (bt s 0) = 1 ∨ cls (bt s 0) = 2 ∨ cls (bt s 0) = 5 by omega) with h | h | h | h | h | h | h | h
  · have hfin : kindOf s = (5, 0) := by simp [kindOf, h]
    have Hf := Lib.hid hfin
    have Hk := Lib.hid h
    clear hfin h hlook
    go_enter Tryz.func43, Tryz.ntmps43
    go_wp2_with (go_at_call 52; refine (classOf_any _ (UInt8.toNat_lt _) _).mono ?_; rw [Hc.out, Hk.out]; rintro e w1 ⟨rfl, rfl⟩)
    go_ret2
    exact ⟨by rw [Hf.out]; rfl, Below.refl _ _⟩
  · cases hw : isWord s
    · rw [hw] at hlook
      by_cases h12 : s.size ≤ 12
      · have hfin : kindOf s = (1, 0) := by simp [kindOf, h, hw, h12]
        have Hf := Lib.hid hfin
        have Hk := Lib.hid h
        clear hfin h hw
        go_enter Tryz.func43, Tryz.ntmps43
        go_wp2_with (go_at_call 52; refine (classOf_any _ (UInt8.toNat_lt _) _).mono ?_; rw [Hc.out, Hk.out]; rintro e w1 ⟨rfl, rfl⟩)
        go_ret2
        exact ⟨by rw [Hf.out]; rfl, Below.refl _ _⟩
      · have hfin : kindOf s = (0, 4) := by simp [kindOf, h, hw, h12]
        have Hf := Lib.hid hfin
        have Hk := Lib.hid h
        clear hfin h hw
        go_enter Tryz.func43, Tryz.ntmps43
        go_wp2_with (go_at_call 52; refine (classOf_any _ (UInt8.toNat_lt _) _).mono ?_; rw [Hc.out, Hk.out]; rintro e w1 ⟨rfl, rfl⟩)
        go_ret2
        exact ⟨by rw [Hf.out]; rfl, Below.refl _ _⟩
    · rw [hw] at hlook
      have hfin : kindOf s = (3, 0) := by simp [kindOf, h, hw]
      have Hf := Lib.hid hfin
      have Hk := Lib.hid h
      clear hfin h hw
      go_enter Tryz.func43, Tryz.ntmps43
      go_wp2_with (go_at_call 52; refine (classOf_any _ (UInt8.toNat_lt _) _).mono ?_; rw [Hc.out, Hk.out]; rintro e w1 ⟨rfl, rfl⟩)
      go_ret2
      exact ⟨by rw [Hf.out]; rfl, Below.refl _ _⟩
  · have hfin : kindOf s = (2, numErr s) := by simp [kindOf, h]
    have Hf := Lib.hid hfin
    have Hk := Lib.hid h
    clear hfin h hlook
    go_enter Tryz.func43, Tryz.ntmps43
    go_wp2_with (first | (go_at_call 52; refine (classOf_any _ (UInt8.toNat_lt _) _).mono ?_; rw [Hc.out, Hk.out]; rintro e w1 ⟨rfl, rfl⟩) | (go_at_call 57; refine (numberError_any s _ hs h0 hG).mono ?_; rintro e w2 ⟨rfl, hb2⟩))
    go_ret2
    exact ⟨by rw [Hf.out]; rfl, hb2⟩
  · have hfin : kindOf s = (4, 0) := by simp [kindOf, h]
    have Hf := Lib.hid hfin
    have Hk := Lib.hid h
    clear hfin h hlook
    go_enter Tryz.func43, Tryz.ntmps43
    go_wp2_with (go_at_call 52; refine (classOf_any _ (UInt8.toNat_lt _) _).mono ?_; rw [Hc.out, Hk.out]; rintro e w1 ⟨rfl, rfl⟩)
    go_ret2
    exact ⟨by rw [Hf.out]; rfl, Below.refl _ _⟩
  all_goals
    have hfin : kindOf s = (0, 4) := by simp [kindOf, h]
    have Hf := Lib.hid hfin
    have Hk := Lib.hid h
    clear hfin h hlook
    go_enter Tryz.func43, Tryz.ntmps43
    go_wp2_with (go_at_call 52; refine (classOf_any _ (UInt8.toNat_lt _) _).mono ?_; rw [Hc.out, Hk.out]; rintro e w1 ⟨rfl, rfl⟩)
    go_ret2
    exact ⟨by rw [Hf.out]; rfl, Below.refl _ _⟩

end Go.Proofs.YthjnoboceibjjaaGreatDoor.Lx
