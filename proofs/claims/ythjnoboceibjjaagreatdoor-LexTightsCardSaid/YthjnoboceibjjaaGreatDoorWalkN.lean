/- Splices of package lex: what splices do to a text, or the error (edits), and Apply. -/
import Derived.Test.YthjnoboceibjjaaGreatDoorWalkM
namespace Go.Proofs.YthjnoboceibjjaaGreatDoor.Lx
open Go Go.Proofs Go.RowKit Go.Shelf

theorem splErr_text {s : ByteArray} {l : List Sp} (h : (textErr s).2 ≠ 0) : splErr s l = (textErr s).2 := by rw [splErr, if_pos h]
theorem splErr_many {s : ByteArray} {l : List Sp} (h : (textErr s).2 = 0) (h1 : 40 < l.length) : splErr s l = 5 := by rw [splErr, if_neg (by simp [h]), if_pos h1]
theorem splErr_wrong {s : ByteArray} {l : List Sp} (h : (textErr s).2 = 0) (h1 : ¬ 40 < l.length) (h2 : right s.size l = false) : splErr s l = 3 := by rw [splErr, if_neg (by simp [h]), if_neg h1, if_pos h2]
theorem splErr_stray {s : ByteArray} {l : List Sp} (h : (textErr s).2 = 0) (h1 : ¬ 40 < l.length) (h2 : right s.size l = true) (h3 : l.any (fun x => (bad x.text).isSome) = true) : splErr s l = 2 := by
  rw [splErr, if_neg (by simp [h]), if_neg h1, if_neg (by simp [h2]), if_pos h3]
theorem splErr_long {s : ByteArray} {l : List Sp} (h : (textErr s).2 = 0) (h1 : ¬ 40 < l.length) (h2 : right s.size l = true) (h3 : l.any (fun x => (bad x.text).isSome) = false) (h4 : 2500 < (s.size : Int) + total (eds s l)) : splErr s l = 5 := by
  rw [splErr, if_neg (by simp [h]), if_neg h1, if_neg (by simp [h2]), if_neg (by simp [h3]), if_pos h4]
theorem splErr_ok {s : ByteArray} {l : List Sp} (h : (textErr s).2 = 0) (h1 : ¬ 40 < l.length) (h2 : right s.size l = true) (h3 : l.any (fun x => (bad x.text).isSome) = false) (h4 : ¬ 2500 < (s.size : Int) + total (eds s l)) : splErr s l = 0 := by
  rw [splErr, if_neg (by simp [h]), if_neg h1, if_neg (by simp [h2]), if_neg (by simp [h3]), if_neg h4]

theorem edsFrom_length (s : ByteArray) : ∀ (l : List Sp) (g : Int), (edsFrom s g l).length = l.length := by
  intro l
  induction l with
  | nil => intro g; rfl
  | cons x r ih => intro g; simp [edsFrom, ih]
theorem edsFrom_sp (s : ByteArray) : ∀ (l : List Sp) (g : Int), (edsFrom s g l).map Ed.sp = l := by
  intro l
  induction l with
  | nil => intro g; rfl
  | cons x r ih => intro g; simp [edsFrom, ih]
theorem edsFrom_mem (s : ByteArray) : ∀ (l : List Sp) (g : Int) (x : Ed), x ∈ edsFrom s g l → x.sp ∈ l ∧ x.old.size ≤ s.size := by
  intro l
  induction l with
  | nil => intro g x h; simp [edsFrom] at h
  | cons y r ih =>
    intro g x h
    rw [edsFrom] at h
    rcases List.mem_cons.1 h with rfl | h
    · exact ⟨List.mem_cons_self, by simp; omega⟩
    · obtain ⟨h1, h2⟩ := ih _ x h
      exact ⟨List.mem_cons_of_mem _ h1, h2⟩
theorem eds_length (s : ByteArray) (l : List Sp) : (eds s l).length = l.length := edsFrom_length s l 0
theorem eds_sp (s : ByteArray) (l : List Sp) : (eds s l).map Ed.sp = l := edsFrom_sp s l 0
theorem total_snoc (l : List Ed) (x : Ed) : total (l ++ [x]) = total l + grow x := by simp [total]

def EditsP (s : ByteArray) (l : List Sp) (w : World) (e : Ending) (w' : World) : Prop :=
  ∃ v, e = .returned (.tuple #[v, .int .i64 (splErr s l : Int)]) ∧ (splErr s l ≠ 0 → v = .slice none 0 0) ∧
    (splErr s l = 0 → right s.size l = true ∧ w'.ownsRow w.heap.size 87 5 v (eds s l).length (edCells (eds s l))) ∧ Below w.heap.size w w'
theorem EditsP.bad {s : ByteArray} {l : List Sp} {w w' : World} {n : Nat} {k : Int} (h : splErr s l = n) (hk : k = (n : Int)) (hn : n ≠ 0) (hb : Below w.heap.size w w') : EditsP s l w (.returned (.tuple #[.slice none 0 0, .int .i64 k])) w' :=
  ⟨_, by rw [h, hk], fun _ => rfl, fun h0 => absurd (h.symm.trans h0) hn, hb⟩

theorem badI_some {s : ByteArray} {n : Nat} (h : bad s = some n) : badI s = (n : Int) := by rw [badI, h]
theorem badI_none {s : ByteArray} (h : bad s = none) : badI s = -1 := by rw [badI, h]
theorem any_bad {l : List Sp} {k : Nat} (hk : k < l.length) (h : (bad l[k].text).isSome = true) : l.any (fun x => (bad x.text).isSome) = true := List.any_eq_true.2 ⟨_, List.getElem_mem hk, h⟩
theorem none_bad {l : List Sp} (h : ∀ j, (hj : j < l.length) → bad l[j].text = none) : l.any (fun x => (bad x.text).isSome) = false := by
  rw [List.any_eq_false]
  intro x hx
  obtain ⟨j, hj, rfl⟩ := List.getElem_of_mem hx
  rw [h j hj]; simp

theorem own_low {w : World} {base base' size n : Nat} {e : TypeId} {v : Value} {xs : List Value} (h : w.ownsRow base e size v n xs) (hb : base' ≤ base) : w.ownsRow base' e size v n xs := by
  refine ⟨h.1, ?_⟩
  rcases h.2 with h | ⟨g, cap, cur, h1, h2, h3⟩
  · exact .inl h
  · exact .inr ⟨g, cap, cur, h1, by omega, h3⟩
theorem own_below {w w' : World} {base size n : Nat} {e : TypeId} {v : Value} {xs : List Value} (h : w.ownsRow base e size v n xs) (hb : Below w.heap.size w w') : w'.ownsRow base e size v n xs := by
  refine ⟨h.1, ?_⟩
  rcases h.2 with h | ⟨g, cap, cur, h1, h2, h3, h4⟩
  · exact .inl h
  · exact .inr ⟨g, cap, cur, h1, h2, (hb.block g (Array.getElem?_eq_some_iff.1 h3).1).trans h3, h4⟩
theorem ed_small {s : ByteArray} {l : List Sp} {x : Ed} (h : x ∈ eds s l) (hs : s.size ≤ 100000) (ht : ∀ x ∈ l, x.text.size ≤ 100000) : x.sp.text.size ≤ 100000 ∧ x.old.size ≤ 100000 := by
  obtain ⟨h1, h2⟩ := edsFrom_mem s l 0 x h
  exact ⟨ht _ h1, by omega⟩

set_option maxRecDepth 100000 in
set_option maxHeartbeats 4000000 in
theorem edits_right (s : ByteArray) (a : Value) (l : List Sp) (w : World) (hs : s.size ≤ 100000) (ha : SlSp w a l) (hl : l.length ≤ 100000) (ht : ∀ x ∈ l, x.text.size ≤ 100000) (h0 : (textErr s).2 = 0) (h1 : ¬ 40 < l.length) (h2 : right s.size l = true) :
    Calls Tryz.prog 28 #[.string s, a] w (EditsP s l w) := by
  have hF := ha
  obtain ⟨A, ca, rfl, hA⟩ := ha
  have H0 := Lib.hid h0
  have H2 := Lib.hid h2
  clear h0 h2
  go_enter Tryz.func28, Tryz.ntmps28
  go_wp2_with (first
    | (go_at_call 26; refine (textError_any s _ hs).mono ?_; rw [H0.out]; rintro e w1 ⟨rfl, hb1⟩)
    | (go_at_call 45; refine (areRight_any s.size _ l _ (hF.below hb1) hl).mono ?_; rw [H2.out]; rintro e w2 ⟨rfl, hb2⟩))
  have hB2 : Below w.heap.size w w2 := hb1.trans (hb2.mono hb1.size)
  go_loopw [32] (fun i wr => ∃ k : Nat, k ≤ l.length ∧ i = .int .i64 k ∧ (∀ j, (hj : j < l.length) → j < k → bad l[j].text = none) ∧ Below w.heap.size w wr) (fun i _ => l.length - (intOf i).toNat)
  case atStart => exact ⟨0, Nat.zero_le _, rfl, fun j _ h => absurd h (by omega), hB2⟩
  case round =>
    obtain ⟨k, hk, rfl, hprev, hbw⟩ := hrel
    have Hprev := Lib.hid hprev
    clear hprev
    by_cases hlt : k < l.length
    · obtain ⟨b1, o1, rfl, hbb1, hc1⟩ := hA (by omega)
      obtain ⟨p1, p2, p3⟩ := hc1 k _ (List.getElem?_eq_getElem hlt)
      have p1' := (hbw.cell (p := ⟨b1, o1 + k * 3, none⟩) hbb1).trans p1
      have p2' := (hbw.cell (p := ⟨b1, o1 + k * 3 + 1, none⟩) hbb1).trans p2
      have p3' := (hbw.cell (p := ⟨b1, o1 + k * 3 + 2, none⟩) hbb1).trans p3
      clear p1 p2 p3 hc1 hA
      have htx := ht _ (List.getElem_mem hlt)
      have hbz := hbw.size
      cases hbad : bad l[k].text with
      | some n =>
        have Hs := Lib.hid (splErr_stray H0.out h1 H2.out (any_bad hlt (by rw [hbad]; rfl)))
        have Hb := Lib.hid (badI_some hbad)
        clear hbad
        generalize l[k] = x at p1' p2' p3' htx Hb
        go_wp2_with (go_at_call 39; refine (strayByte_any _ _ htx).mono ?_; rw [Hb.out]; rintro e w3 ⟨rfl, hb3⟩)
        go_ret2
        exact EditsP.bad Hs.out rfl (by decide) ((hbw.alloc hbz _).trans (hb3.mono (by rw [alloc_sz]; omega)))
      | none =>
        have Hb := Lib.hid (badI_none hbad)
        have Hn := Lib.hid hbad
        clear hbad
        have Hnext := Lib.hid (show ∀ j, (hj : j < l.length) → j < k + 1 → bad l[j].text = none from fun j hj h => by
          by_cases hjk : j = k
          · subst hjk; exact Hn.out
          · exact Hprev.out j hj (by omega))
        clear Hn
        generalize l[k] = x at p1' p2' p3' htx Hb
        go_wp2_with (go_at_call 39; refine (strayByte_any _ _ htx).mono ?_; rw [Hb.out]; rintro e w3 ⟨rfl, hb3⟩)
        go_roundw
        case rel => exact ⟨k + 1, by omega, by go_num, Hnext.out, (hbw.alloc hbz _).trans (hb3.mono (by rw [alloc_sz]; omega))⟩
        case measure => simp [intOf]; omega
    · have hnb : l.any (fun x => (bad x.text).isSome) = false := none_bad fun j hj => Hprev.out j hj (by omega)
      have Hnb := Lib.hid hnb
      clear hnb hA
      have hed := editsOf_any s _ l wr hs (hF.below hbw) (by omega) (fun x hx => Nat.le_trans (ht x hx) (by decide)) H2.out
      have Hed := Lib.hid hed
      clear hed
      have hB3 := hbw
      have hbz := hbw.size
      go_wp2_with (go_at_call 32; refine Hed.out.mono ?_; rintro e w3 ⟨v, rfl, hown, hb3⟩; obtain ⟨A3, c3, rfl⟩ := own_form hown)
      have hB3 : Below w.heap.size w w3 := hbw.trans (hb3.mono hbz)
      have hown' := own_low hown hbz
      obtain ⟨A3', c3', e3, hA3⟩ := SlEd.of_own hown
      injection e3 with e31 e32 e33
      subst e31; subst e33
      clear e32 hown
      have hlen := eds_length s l
      have hsm := fun x (h : x ∈ eds s l) => ed_small h hs ht
      have Hlen := Lib.hid hlen
      have Hsm := Lib.hid hsm
      clear hlen hsm
      generalize hE : eds s l = E at hown' hA3 Hlen Hsm
      have HE := Lib.hid hE
      clear hE
      go_loopw [11, 48] (fun t i wr => ∃ k : Nat, k ≤ E.length ∧ i = .int .i64 k ∧ t = .int .i64 ((s.size : Int) + total (E.take k)) ∧ -(k * 100000 : Int) ≤ total (E.take k) ∧ total (E.take k) ≤ (k * 100000 : Int) ∧ Below w3.heap.size w3 wr) (fun _ i _ => E.length - (intOf i).toNat)
      case atStart => exact ⟨0, Nat.zero_le _, rfl, by simp [total], by simp [total], by simp [total], Below.refl _ _⟩
      case round =>
        obtain ⟨k, hk, rfl, rfl, hg1, hg2, hbq⟩ := hrel
        have hEl : E.length ≤ 40 := by rw [Hlen.out]; omega
        by_cases hlt2 : k < E.length
        · obtain ⟨b1, o1, rfl, hbb1, hc1⟩ := hA3 (by omega)
          obtain ⟨p1, p2, p3, p4, p5⟩ := hc1 k _ (List.getElem?_eq_getElem hlt2)
          have p1' := (hbq.cell (p := ⟨b1, o1 + k * 5, none⟩) hbb1).trans p1
          have p2' := (hbq.cell (p := ⟨b1, o1 + k * 5 + 1, none⟩) hbb1).trans p2
          have p3' := (hbq.cell (p := ⟨b1, o1 + k * 5 + 2, none⟩) hbb1).trans p3
          have p4' := (hbq.cell (p := ⟨b1, o1 + k * 5 + 3, none⟩) hbb1).trans p4
          have p5' := (hbq.cell (p := ⟨b1, o1 + k * 5 + 4, none⟩) hbb1).trans p5
          clear p1 p2 p3 p4 p5 hc1 hA3
          obtain ⟨hx1, hx2⟩ := Hsm.out _ (List.getElem_mem hlt2)
          have htk : E.take (k + 1) = E.take k ++ [E[k]] := List.take_succ_eq_append_getElem hlt2
          have Htk := Lib.hid htk
          clear htk
          generalize E[k] = x at p1' p2' p3' p4' p5' hx1 hx2 Htk
          have hgr := fun W => grows_any x W (by omega) (by omega)
          have Hgr := Lib.hid hgr
          have hgb : -100000 ≤ grow x ∧ grow x ≤ 100000 := by unfold grow; omega
          have hts : total (E.take (k + 1)) = total (E.take k) + grow x := by rw [Htk.out, total_snoc]
          have Hts := Lib.hid hts
          obtain ⟨hgb1, hgb2⟩ := hgb
          clear hgr hts
          have hqz := hbq.size
          generalize total (E.take k) = tk at hg1 hg2 Hts
          generalize grow x = gx at hgb1 hgb2 Hts Hgr
          go_wp2_with (go_at_call 46; refine (Hgr.out _).mono ?_; rintro e w5 ⟨rfl, rfl⟩)
          go_roundw
          case rel =>
            refine ⟨k + 1, by omega, by go_num, by rw [Hts.out, Int.add_assoc], by rw [Hts.out]; omega, by rw [Hts.out]; omega, ?_⟩
            exact (hbq.alloc hqz _).alloc (by rw [alloc_sz]; omega) _
          case measure => simp [intOf]; omega
        · have hkl : E.take k = E := List.take_of_length_le (by omega)
          rw [hkl] at hg1 hg2 ⊢
          have hBq : Below w.heap.size w wr := hB3.trans (hbq.mono hB3.size)
          by_cases h4 : 2500 < (s.size : Int) + total E
          · have Hs := Lib.hid (splErr_long H0.out h1 H2.out Hnb.out (by rw [HE.out]; exact h4))
            generalize total E = tE at hg1 hg2 h4
            clear hkl
            go_wp2
            go_ret2
            exact EditsP.bad Hs.out rfl (by decide) hBq
          · have Hs := Lib.hid (splErr_ok H0.out h1 H2.out Hnb.out (by rw [HE.out]; exact h4))
            generalize total E = tE at hg1 hg2 h4
            clear hkl
            go_wp2
            go_ret2
            exact ⟨_, by rw [Hs.out]; rfl, fun h => absurd Hs.out h, fun _ => ⟨H2.out, by rw [HE.out]; exact own_below hown' hbq⟩, hBq⟩

set_option maxRecDepth 100000 in
set_option maxHeartbeats 2000000 in
theorem edits_any (s : ByteArray) (a : Value) (l : List Sp) (w : World) (hs : s.size ≤ 100000) (ha : SlSp w a l) (hl : l.length ≤ 100000) (ht : ∀ x ∈ l, x.text.size ≤ 100000) :
    Calls Tryz.prog 28 #[.string s, a] w (EditsP s l w) := by
  have hF := ha
  obtain ⟨A, ca, rfl, hA⟩ := ha
  by_cases h0 : (textErr s).2 = 0
  · by_cases h1 : 40 < l.length
    · have Hs := Lib.hid (splErr_many h0 h1)
      have H0 := Lib.hid h0
      clear h0
      go_enter Tryz.func28, Tryz.ntmps28
      go_wp2_with (go_at_call 26; refine (textError_any s _ hs).mono ?_; rw [H0.out]; rintro e w1 ⟨rfl, hb1⟩)
      go_ret2
      exact EditsP.bad Hs.out rfl (by decide) hb1
    · cases h2 : right s.size l with
      | false =>
        have Hs := Lib.hid (splErr_wrong h0 h1 h2)
        have H0 := Lib.hid h0
        have H2 := Lib.hid h2
        clear h0 h2
        go_enter Tryz.func28, Tryz.ntmps28
        go_wp2_with (first
          | (go_at_call 26; refine (textError_any s _ hs).mono ?_; rw [H0.out]; rintro e w1 ⟨rfl, hb1⟩)
          | (go_at_call 45; refine (areRight_any s.size _ l _ (hF.below hb1) hl).mono ?_; rw [H2.out]; rintro e w2 ⟨rfl, hb2⟩))
        go_ret2
        exact EditsP.bad Hs.out rfl (by decide) (hb1.trans (hb2.mono hb1.size))
      | true =>
        exact edits_right s _ l w hs hF hl ht h0 h1 h2
  · have Hs := Lib.hid (splErr_text (l := l) h0)
    generalize hte : (textErr s).2 = te at h0 Hs
    have Hte := Lib.hid hte
    have ht3 : ((te : Int) != 0) = true := by simp; omega
    have H0 := Lib.hid h0
    clear h0 hte
    go_enter Tryz.func28, Tryz.ntmps28
    go_wp2_with (go_at_call 26; refine (textError_any s _ hs).mono ?_; rw [Hte.out]; rintro e w1 ⟨rfl, hb1⟩)
    go_ret2
    exact EditsP.bad Hs.out rfl H0.out hb1

end Go.Proofs.YthjnoboceibjjaaGreatDoor.Lx
