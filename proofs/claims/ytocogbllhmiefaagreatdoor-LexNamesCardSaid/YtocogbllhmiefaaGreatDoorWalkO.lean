/- Splices of package lex: Apply, Undo, Moved. -/
import Derived.Test.YtocogbllhmiefaaGreatDoorWalkN
namespace Go.Proofs.YtocogbllhmiefaaGreatDoor.Lx
open Go Go.Proofs Go.RowKit Go.Shelf

/-- The text after splices; none with an error. -/
def applied (s : ByteArray) (l : List Sp) : ByteArray := if splErr s l = 0 then edited s (eds s l) else ⟨#[]⟩

set_option maxRecDepth 100000 in
set_option maxHeartbeats 2000000 in
theorem apply_any (s : ByteArray) (a : Value) (l : List Sp) (w : World) (hs : s.size ≤ 100000) (ha : SlSp w a l) (hl : l.length ≤ 100000) (ht : ∀ x ∈ l, x.text.size ≤ 100000) :
    Calls Tryz.prog 26 #[.string s, a] w fun e w' => e = .returned (.tuple #[.string (applied s l), .int .i64 (splErr s l : Int)]) ∧ Below w.heap.size w w' := by
  have hed := edits_any s a l w hs ha hl ht
  have Hed := Lib.hid hed
  clear hed
  by_cases h0 : splErr s l = 0
  · have Hap := Lib.hid (show applied s l = edited s (eds s l) from if_pos h0)
    have H0 := Lib.hid h0
    clear h0
    have h40 : l.length ≤ 40 := by
      have := H0.out
      unfold splErr at this
      split at this
      · contradiction
      · split at this
        · cases this
        · omega
    go_enter Tryz.func26, Tryz.ntmps26
    go_wp2_with (first
      | (go_at_call 53; refine Hed.out.mono ?_; rintro e w1 ⟨v, rfl, _, hok, hb1⟩; rw [H0.out]; obtain ⟨hri, hown⟩ := hok H0.out; have hsl := SlEd.of_own hown; have hed2 := edited_any s v (eds s l) w1 hs hsl (by rw [eds_length]; omega) (fun x hx => Nat.le_trans (ed_small hx hs ht).1 (by decide)) (by rw [eds_sp]; exact hri); have Hed2 := Lib.hid hed2; clear hed2)
      | (go_at_call 61; refine Hed2.out.mono ?_; rintro e w2 ⟨rfl, hb2⟩))
    go_ret2
    exact ⟨by rw [Hap.out, H0.out]; rfl, hb1.trans (hb2.mono hb1.size)⟩
  · have Hap := Lib.hid (show applied s l = ⟨#[]⟩ from if_neg h0)
    have H0 := Lib.hid h0
    have ht3 : ((splErr s l : Int) != 0) = true := by simp; omega
    clear h0
    go_enter Tryz.func26, Tryz.ntmps26
    go_wp2_with (go_at_call 53; refine Hed.out.mono ?_; rintro e w1 ⟨v, rfl, hn, _, hb1⟩; rw [hn H0.out])
    go_ret2
    exact ⟨by rw [Hap.out]; rfl, hb1⟩

/-- The splices that lead back. -/
def backOf (x : Ed) : Sp := ⟨x.place, x.place + x.sp.text.size, x.old⟩
def undone (s : ByteArray) (l : List Sp) : List Sp := if splErr s l = 0 then (eds s l).map backOf else []
def spVals (x : Sp) : List Value := [.int .i64 x.lo, .int .i64 x.hi, .string x.text]
def spCells (l : List Sp) : List Value := l.flatMap spVals
theorem spCells_snoc (l : List Sp) (t : Sp) : spCells (l ++ [t]) = spCells l ++ spVals t := by simp [spCells]
theorem sp_info : (Tryz.prog.info? 40).map (fun i => (i.zero, i.size, i.bytes)) = some (some (.agg #[.int .i64 0, .int .i64 0, .string ⟨#[]⟩]), 3, 32) := by kernel_rfl
theorem sp_at : ∀ (l : List Sp) (i : Nat) (t : Sp), l[i]? = some t → ∀ j u, (spVals t)[j]? = some u → (spCells l)[i * 3 + j]? = some u := by
  intro l
  induction l with
  | nil => intro i t h; simp at h
  | cons x r ih =>
    intro i t h j u hu
    cases i with
    | zero =>
      simp at h; subst h
      have hj : j < (spVals x).length := (List.getElem?_eq_some_iff.1 hu).1
      show (spVals x ++ spCells r)[0 * 3 + j]? = some u
      rw [Nat.zero_mul, Nat.zero_add, List.getElem?_append_left hj]; exact hu
    | succ i =>
      show (spVals x ++ spCells r)[(i + 1) * 3 + j]? = some u
      rw [List.getElem?_append_right (by simp [spVals]; omega), show (i + 1) * 3 + j - (spVals x).length = i * 3 + j by simp [spVals]; omega]
      exact ih i t (by simpa using h) j u hu
theorem SlSp.of_own {W : World} {base : Nat} {v : Value} {l : List Sp} (h : W.ownsRow base 40 3 v l.length (spCells l)) : SlSp W v l := by
  have hown := h
  rcases h.2 with ⟨rfl, h0⟩ | ⟨g, cap, cur, rfl, _, hgb, _⟩
  · exact ⟨none, 0, by rw [h0], fun h1 => absurd h1 (by omega)⟩
  refine ⟨_, cap, rfl, fun h0 => ⟨g, 0, rfl, (Array.getElem?_eq_some_iff.1 hgb).1, fun i t ht => ?_⟩⟩
  have hcells := fun j hj => World.ownsRow.cellAt hown j hj
  have hil : i < l.length := (List.getElem?_eq_some_iff.1 ht).1
  rw [Nat.zero_add]
  exact ⟨(hcells (i * 3) (by omega)).trans (sp_at l i t ht 0 _ rfl), (hcells (i * 3 + 1) (by omega)).trans (sp_at l i t ht 1 _ rfl), (hcells (i * 3 + 2) (by omega)).trans (sp_at l i t ht 2 _ rfl)⟩

theorem lit_new (W : World) (t : TypeId) (B : Nat) (hB : B = W.heap.size) (news : List Value) (j : Nat) (u : Value) (h : news[j]? = some u) :
    (W.alloc (.cells news.toArray t)).cell? (({ block := B, off := 0 } : Addr).add j) = some u := lit_list W t B hB news j u h

/-- Places are not far away. -/
theorem edsFrom_place (s : ByteArray) (hs : s.size ≤ 100000) : ∀ (l : List Sp) (g a : Int) (m : Nat), 0 ≤ a → rightFrom s.size a l = true → (∀ x ∈ l, x.text.size ≤ 100000) → -(m : Int) ≤ g → g ≤ m →
    ∀ x ∈ edsFrom s g l, -((m : Int) + 100000 * l.length) ≤ x.place ∧ x.place ≤ (m : Int) + 100000 * l.length + 100000 := by
  intro l
  induction l with
  | nil => intro g a m _ _ _ _ _ x h; simp [edsFrom] at h
  | cons y r ih =>
    intro g a m h0 hr ht hg1 hg2 x h
    obtain ⟨q1, q2, q3, q4⟩ := rightFrom_cons hr
    rw [edsFrom] at h
    have hy := ht y List.mem_cons_self
    have ho : (s.extract y.lo.toNat y.hi.toNat).size ≤ s.size := by simp; omega
    rcases List.mem_cons.1 h with rfl | h
    · dsimp only
      simp only [List.length_cons]
      omega
    · have := ih _ y.hi (m + 100000) (by omega) q4 (fun x hx => ht x (List.mem_cons_of_mem _ hx)) (by omega) (by omega) x h
      simp only [List.length_cons]
      omega
theorem eds_place {s : ByteArray} {l : List Sp} {x : Ed} (hx : x ∈ eds s l) (hs : s.size ≤ 100000) (ht : ∀ x ∈ l, x.text.size ≤ 100000) (hr : right s.size l = true) (h40 : l.length ≤ 40) : -10000000 ≤ x.place ∧ x.place ≤ 10000000 := by
  have := edsFrom_place s hs l 0 0 0 (by omega) hr ht (by omega) (by omega) x hx
  omega
theorem splErr_few {s : ByteArray} {l : List Sp} (h : splErr s l = 0) : l.length ≤ 40 := by
  unfold splErr at h
  split at h
  · contradiction
  · split at h
    · cases h
    · omega

set_option maxRecDepth 100000 in
set_option maxHeartbeats 4000000 in
theorem undo_any (s : ByteArray) (a : Value) (l : List Sp) (w : World) (hs : s.size ≤ 100000) (ha : SlSp w a l) (hl : l.length ≤ 100000) (ht : ∀ x ∈ l, x.text.size ≤ 100000) :
    Calls Tryz.prog 22 #[.string s, a] w fun e w' => ∃ v, e = .returned (.tuple #[v, .int .i64 (splErr s l : Int)]) ∧ w'.ownsRow w.heap.size 40 3 v (undone s l).length (spCells (undone s l)) ∧ Below w.heap.size w w' := by
  obtain ⟨i0, hi, hz0, hz1, hz2⟩ := info_parts sp_info
  have hed := edits_any s a l w hs ha hl ht
  have Hed := Lib.hid hed
  clear hed
  by_cases h0 : splErr s l = 0
  · have Hun := Lib.hid (show undone s l = (eds s l).map backOf from if_pos h0)
    have h40 := splErr_few h0
    have H0 := Lib.hid h0
    clear h0
    go_enter Tryz.func22, Tryz.ntmps22
    go_wp2_with (go_at_call 53; refine Hed.out.mono ?_; rintro e w1 ⟨v1, rfl, _, hok, hb1⟩; rw [H0.out]; obtain ⟨hri, hown1⟩ := hok H0.out; obtain ⟨A3, c3, rfl, hA3⟩ := SlEd.of_own hown1)
    have hlen := eds_length s l
    have hsm := fun x (h : x ∈ eds s l) => ed_small h hs ht
    have hpl := fun x (h : x ∈ eds s l) => eds_place h hs ht hri h40
    have Hlen := Lib.hid hlen
    have Hsm := Lib.hid hsm
    have Hpl := Lib.hid hpl
    clear hlen hsm hpl hown1 hok
    generalize hE : eds s l = E at hA3 Hlen Hsm Hpl Hun
    have HE := Lib.hid hE
    clear hE
    have hEl : E.length ≤ 40 := by rw [Hlen.out]; omega
    go_loopw [8, 22] (fun v i wr => ∃ k : Nat, k ≤ E.length ∧ i = .int .i64 k ∧ wr.ownsRow w1.heap.size 40 3 v ((E.take k).map backOf).length (spCells ((E.take k).map backOf)) ∧ Below w1.heap.size w1 wr) (fun _ i _ => E.length - (intOf i).toNat)
    case atStart => exact ⟨0, Nat.zero_le _, rfl, World.ownsRow_nil _ _ _ _, Below.refl _ _⟩
    case round =>
      obtain ⟨k, hk, rfl, hown, hbq⟩ := hrel
      by_cases hlt2 : k < E.length
      · obtain ⟨b1, o1, rfl, hbb1, hc1⟩ := hA3 (by omega)
        obtain ⟨p1, p2, p3, p4, p5⟩ := hc1 k _ (List.getElem?_eq_getElem hlt2)
        have p1' := (hbq.cell (p := ⟨b1, o1 + k * 5, none⟩) hbb1).trans p1
        have p2' := (hbq.cell (p := ⟨b1, o1 + k * 5 + 1, none⟩) hbb1).trans p2
        have p3' := (hbq.cell (p := ⟨b1, o1 + k * 5 + 2, none⟩) hbb1).trans p3
        have p4' := (hbq.cell (p := ⟨b1, o1 + k * 5 + 3, none⟩) hbb1).trans p4
        have p5' := (hbq.cell (p := ⟨b1, o1 + k * 5 + 4, none⟩) hbb1).trans p5
        clear p1 p2 p3 p4 p5 hc1 hA3
        obtain ⟨hx1, hx2⟩ := Hsm.out _ (List.getElem_mem hlt2)
        obtain ⟨hx3, hx4⟩ := Hpl.out _ (List.getElem_mem hlt2)
        have htk : (E.take (k + 1)).map backOf = (E.take k).map backOf ++ [backOf E[k]] := by rw [List.take_succ_eq_append_getElem hlt2, List.map_append]; rfl
        have Htk := Lib.hid htk
        have hlk : ((E.take k).map backOf).length = k := by simp; omega
        have Hlk := Lib.hid hlk
        clear htk hlk
        generalize E[k] = x at p1' p2' p3' p4' p5' hx1 hx2 hx3 hx4 Htk
        have hmx : Tryz.prog.follows .mixedOrders = true := by kernel_rfl
        have hqz := hbq.size
        have hcl : ((E.take k).map backOf).length ≤ 40 := by rw [Hlk.out]; omega
        go_wp2_with (at_builtin; refine wpList_append_own _ rfl _ _ 48 rfl w1.heap.size 40 i0 _ 3 32 Tryz.underlying48 hi hz0 hz1 hz2 rfl (by decide) _ _ _ rfl ((hown.alloc _).alloc _) ⟨wr.heap.size + 1, 0, none⟩ 1 1 (spVals (backOf x)) rfl rfl (lit_new _ _ _ (by rw [alloc_sz]) _) (fun u hu => by simp [spVals] at hu; rcases hu with rfl | rfl | rfl <;> rfl) (by unfold maxLen; omega) (by omega) (by rw [alloc_sz, alloc_sz]; omega) ?_; intro v' w2 hown' hgrow _)
        have hbA := ((hbq.alloc hqz (.cells #[.int .i64 x.sp.lo, .int .i64 x.sp.hi, .string x.sp.text, .string x.old, .int .i64 x.place] 90)).alloc (by rw [alloc_sz]; omega) (.cells #[.int .i64 x.place, .int .i64 (x.place + x.sp.text.size), .string x.old] 40))
        go_roundw
        case rel =>
          refine ⟨k + 1, by omega, by go_num, ?_, ?_⟩
          · rw [Htk.out, spCells_snoc, List.length_append]; exact hown'
          · exact hbA.grown hgrow hbA.size (fun j hj => (World.ownsRow.lt hown j hj).1)
        case measure => simp [intOf]; omega
      · have hkl : E.take k = E := List.take_of_length_le (by omega)
        rw [hkl] at hown
        go_wp2
        go_ret2
        exact ⟨_, by rw [H0.out]; rfl, by rw [Hun.out]; exact own_low hown hb1.size, hb1.trans (hbq.mono hb1.size)⟩
  · have Hun := Lib.hid (show undone s l = [] from if_neg h0)
    have H0 := Lib.hid h0
    have ht3 : ((splErr s l : Int) != 0) = true := by simp; omega
    clear h0
    go_enter Tryz.func22, Tryz.ntmps22
    go_wp2_with (go_at_call 53; refine Hed.out.mono ?_; rintro e w1 ⟨v, rfl, hn, _, hb1⟩; rw [hn H0.out])
    go_ret2
    exact ⟨_, rfl, by rw [Hun.out]; exact World.ownsRow_nil _ _ _ _, hb1⟩

end Go.Proofs.YtocogbllhmiefaaGreatDoor.Lx
