/- Splices of package lex: Apply, Undo, Moved. -/
import Derived.Test.YthjnoboceibjjaaGreatDoorWalkN
namespace Go.Proofs.YthjnoboceibjjaaGreatDoor.Lx
open Go Go.Proofs Go.RowKit Go.Shelf

/-- The text after splices; none with an error. -/
def applied (s : ByteArray) (l : List Sp) : ByteArray := if splErr s l = 0 then edited s (eds s l) else ⟨#[]⟩

set_option maxRecDepth 100000 in
set_option maxHeartbeats 2000000 in
theorem apply_any (s : ByteArray) (a : Value) (l : List Sp) (w : World) (hs : s.size ≤ 100000) (ha : SlSp w a l) (hl : l.length ≤ 100000) (ht : ∀ x ∈ l, x.text.size ≤ 100000) :
    Calls Tryz.prog 13 #[.string s, a] w fun e w' => e = .returned (.tuple #[.string (applied s l), .int .i64 (splErr s l : Int)]) ∧ Below w.heap.size w w' := by
  have hed := edits_any s a l w hs ha hl ht
  have Hed := Lib.hid hed
  clear hed
  by_cases h0 : splErr s l = 0
  · have Hap := Lib.hid (show applied s l = edited s (eds s l) from if_pos h0)
    have H0 := Lib.hid h0
    clear h0
    have h40 : l.length ≤ 40 := by
      have := H0.out
      unfold splErr at this
      split at this
      · contradiction
      · split at this
        · cases this
        · omega
    go_enter Tryz.func13, Tryz.ntmps13
    go_wp2_with (first
      | (go_at_call 28; refine Hed.out.mono ?_; rintro e w1 ⟨v, rfl, _, hok, hb1⟩; rw [H0.out]; obtain ⟨hri, hown⟩ := hok H0.out; have hsl := SlEd.of_own hown; have hed2 := edited_any s v (eds s l) w1 hs hsl (by rw [eds_length]; omega) (fun x hx => Nat.le_trans (ed_small hx hs ht).1 (by decide)) (by rw [eds_sp]; exact hri); have Hed2 := Lib.hid hed2; clear hed2)
      | (go_at_call 29; refine Hed2.out.mono ?_; rintro e w2 ⟨rfl, hb2⟩))
    go_ret2
    exact ⟨by rw [Hap.out, H0.out]; rfl, hb1.trans (hb2.mono hb1.size)⟩
  · have Hap := Lib.hid (show applied s l = ⟨#[]⟩ from if_neg h0)
    have H0 := Lib.hid h0
    have ht3 : ((splErr s l : Int) != 0) = true := by simp; omega
    clear h0
    go_enter Tryz.func13, Tryz.ntmps13
    go_wp2_with (go_at_call 28; refine Hed.out.mono ?_; rintro e w1 ⟨v, rfl, hn, _, hb1⟩; rw [hn H0.out])
    go_ret2
    exact ⟨by rw [Hap.out]; rfl, hb1⟩

/-- The splices that lead back. -/
def backOf (x : Ed) : Sp := ⟨x.place, x.place + x.sp.text.size, x.old⟩
def undone (s : ByteArray) (l : List Sp) : List Sp := if splErr s l = 0 then (eds s l).map backOf else []
def spVals (x : Sp) : List Value := [.int .i64 x.lo, .int .i64 x.hi, .string x.text]
def spCells (l : List Sp) : List Value := l.flatMap spVals
theorem spCells_snoc (l : List Sp) (t : Sp) : spCells (l ++ [t]) = spCells l ++ spVals t := by simp [spCells]
theorem sp_info : (Tryz.prog.info? 40).map (fun i => (i.zero, i.size, i.bytes)) = some (some (.agg #[.int .i64 0, .int .i64 0, .string ⟨#[]⟩]), 3, 32) := by kernel_rfl
theorem sp_at : ∀ (l : List Sp) (i : Nat) (t : Sp), l[i]? = some t → ∀ j u, (spVals t)[j]? = some u → (spCells l)[i * 3 + j]? = some u := by
  intro l
  induction l with
  | nil => intro i t h; simp at h
  | cons x r ih =>
    intro i t h j u hu
    cases i with
    | zero =>
      simp at h; subst h
      have hj : j < (spVals x).length := (List.getElem?_eq_some_iff.1 hu).1
      show (spVals x ++ spCells r)[0 * 3 + j]? = some u
      rw [Nat.zero_mul, Nat.zero_add, List.getElem?_append_left hj]; exact hu
    | succ i =>
      show (spVals x ++ spCells r)[(i + 1) * 3 + j]? = some u
      rw [List.getElem?_append_right (by simp [spVals]; omega), show (i + 1) * 3 + j - (spVals x).length = i * 3 + j by simp [spVals]; omega]
      exact ih i t (by simpa using h) j u hu
theorem SlSp.of_own {W : World} {base : Nat} {v : Value} {l : List Sp} (h : W.ownsRow base 40 3 v l.length (spCells l)) : SlSp W v l := by
  have hown := h
  rcases h.2 with ⟨rfl, h0⟩ | ⟨g, cap, cur, rfl, _, hgb, _⟩
  · exact ⟨none, 0, by rw [h0], fun h1 => absurd h1 (by omega)⟩
  refine ⟨_, cap, rfl, fun h0 => ⟨g, 0, rfl, (Array.getElem?_eq_some_iff.1 hgb).1, fun i t ht => ?_⟩⟩
  have hcells := fun j hj => World.ownsRow.cellAt hown j hj
  have hil : i < l.length := (List.getElem?_eq_some_iff.1 ht).1
  rw [Nat.zero_add]
  exact ⟨(hcells (i * 3) (by omega)).trans (sp_at l i t ht 0 _ rfl), (hcells (i * 3 + 1) (by omega)).trans (sp_at l i t ht 1 _ rfl), (hcells (i * 3 + 2) (by omega)).trans (sp_at l i t ht 2 _ rfl)⟩

theorem lit_new (W : World) (t : TypeId) (B : Nat) (hB : B = W.heap.size) (news : List Value) (j : Nat) (u : Value) (h : news[j]? = some u) :
    (W.alloc (.cells news.toArray t)).cell? (({ block := B, off := 0 } : Addr).add j) = some u := lit_list W t B hB news j u h

/-- Places are not far away. -/
theorem edsFrom_place (s : ByteArray) (hs : s.size ≤ 100000) : ∀ (l : List Sp) (g a : Int) (m : Nat), 0 ≤ a → rightFrom s.size a l = true → (∀ x ∈ l, x.text.size ≤ 100000) → -(m : Int) ≤ g → g ≤ m →
    ∀ x ∈ edsFrom s g l, -((m : Int) + 100000 * l.length) ≤ x.place ∧ x.place ≤ (m : Int) + 100000 * l.length + 100000 := by
  intro l
  induction l with
  | nil => intro g a m _ _ _ _ _ x h; simp [edsFrom] at h
  | cons y r ih =>
    intro g a m h0 hr ht hg1 hg2 x h
    obtain ⟨q1, q2, q3, q4⟩ := rightFrom_cons hr
    rw [edsFrom] at h
    have hy := ht y List.mem_cons_self
    have ho : (s.extract y.lo.toNat y.hi.toNat).size ≤ s.size := by simp; omega
    rcases List.mem_cons.1 h with rfl | h
    · dsimp only
      simp only [List.length_cons]
      omega
    · have := ih _ y.hi (m + 100000) (by omega) q4 (fun x hx => ht x (List.mem_cons_of_mem _ hx)) (by omega) (by omega) x h
      simp only [List.length_cons]
      omega
theorem eds_place {s : ByteArray} {l : List Sp} {x : Ed} (hx : x ∈ eds s l) (hs : s.size ≤ 100000) (ht : ∀ x ∈ l, x.text.size ≤ 100000) (hr : right s.size l = true) (h40 : l.length ≤ 40) : -10000000 ≤ x.place ∧ x.place ≤ 10000000 := by
  have := edsFrom_place s hs l 0 0 0 (by omega) hr ht (by omega) (by omega) x hx
  omega
theorem splErr_few {s : ByteArray} {l : List Sp} (h : splErr s l = 0) : l.length ≤ 40 := by
  unfold splErr at h
  split at h
  · contradiction
  · split at h
    · cases h
    · omega

end Go.Proofs.YthjnoboceibjjaaGreatDoor.Lx
