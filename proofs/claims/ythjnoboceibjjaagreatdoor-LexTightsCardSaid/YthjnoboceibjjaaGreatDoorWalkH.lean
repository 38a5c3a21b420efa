/- Notes of package lex: its contract. -/
import Derived.Test.YthjnoboceibjjaaGreatDoorWalkG
namespace Go.Proofs.YthjnoboceibjjaaGreatDoor.Lx
open Go Go.Proofs Go.RowKit Go.Shelf
attribute [local go_sem] Oper.semAt_some

theorem scan_length (s : ByteArray) : ∀ (f a : Nat), (scan s f a).length ≤ f
  | 0, _ => Nat.le_refl _
  | f + 1, a => by
    rw [scan]
    split
    · split
      · have := scan_length s f (a + 1); omega
      · have := scan_length s f (pieceEnd s a); simp; omega
    · simp

/-- The comments among pieces. -/
def nts (l : List Pc) : List Tk := (l.filter (fun p => p.tk.kind == 5)).map Pc.tk
theorem nts_hit (l : List Pc) (x : Pc) (h : x.tk.kind = 5) : nts (l ++ [x]) = nts l ++ [x.tk] := by simp [nts, List.filter_append, h]
theorem nts_miss (l : List Pc) (x : Pc) (h : ¬ x.tk.kind = 5) : nts (l ++ [x]) = nts l := by simp [nts, List.filter_append, h]
theorem nts_length (l : List Pc) : (nts l).length ≤ l.length := by
  unfold nts; rw [List.length_map]; exact List.length_filter_le _ _

def NotIn (w : World) (B7 : Nat) (pre : List Pc) (W : World) : Prop :=
  ∃ v, Boxed W B7 22 v ∧ W.ownsRow w.heap.size 33 3 v (nts pre).length (tkCells (nts pre)) ∧ (∃ s, Boxed W (B7 + 1) 9 (.string s)) ∧ w.heap.size ≤ B7 ∧ Below w.heap.size w W
theorem notIn_own {w : World} {B7 B : Nat} (hB : w.heap.size ≤ B) : OwnFrom B (NotIn w B7) := by
  rintro pre X Y row ⟨v, h3, h4, ⟨s, h8⟩, h9, h10⟩ hg hr
  have hr2 := fun r e => (hr r e).2
  exact ⟨v, boxed_off h3 hg hr2, ownsRow_off h4 hg hr2, ⟨s, boxed_off h8 hg hr2⟩, h9, below_off h10 hg hB (fun r e => (hr r e).1)⟩
theorem NotIn.alloc {w W : World} {B7 : Nat} {pre : List Pc} (h : NotIn w B7 pre W) (o : Obj) : NotIn w B7 pre (W.alloc o) :=
  notIn_own (B := w.heap.size) (Nat.le_refl _) pre W _ none h (World.grownBy_alloc W o none) (fun r e => by cases e)

set_option maxRecDepth 100000 in
set_option maxHeartbeats 4000000 in
theorem notes_ok (s : ByteArray) (w : World) (hs : s.size ≤ 100000) (hG : Gl w) (h0 : (textErr s).2 = 0) :
    Calls Tryz.prog 12 #[.string s] w fun e w' => ∃ v, e = .returned (.tuple #[v, .int .i64 ((notes s).2 : Int)]) ∧
      w'.ownsRow w.heap.size 33 3 v (notes s).1.length (tkCells (notes s).1) ∧ Below w.heap.size w w' := by
  refine (callsIn_wide (n := 3)).1 ?_
  refine callsIn_of_wp_marks Tryz.func12 rfl trivial ?_ rfl
  simp only [Tryz.ntmps12, List.size_toArray, List.length_cons, List.length_nil, Nat.reduceAdd, Nat.reduceSub, Array.replicate_succ, Array.replicate_zero, List.push_toArray, List.append_toArray, List.nil_append, List.cons_append]
  have hfin : notes s = (nts (piecesFrom s 0), 0) := by unfold notes; rw [if_pos h0]; rfl
  rw [hfin]
  have H0 := Lib.hid h0
  clear h0 hfin
  gi_wp2_with (first
    | (refine ⟨trivial, ?_⟩; gi_at_call 26; refine (callsIn_wide.2 (textError_any s _ hs)).mono ?_; rw [H0.out]; rintro e w1 ⟨rfl, hb1⟩)
    | (refine ⟨trivial, ?_⟩; gi_at_call 27; refine (callsIn_wide.2 (pieces_call s _)).mono ?_; rintro e w2 ⟨rfl, rfl⟩))
  have b7 := (Boxed.new w1 22 (.slice none 0 0)).alloc (.cells #[.string s] 9)
  have bs := Boxed.new (w1.alloc (.cells #[.slice none 0 0] 22)) 9 (.string s)
  simp only [World.size_alloc] at bs
  have hz1 := hb1.size
  have hB0 := (hb1.alloc hb1.size (.cells #[.slice none 0 0] 22)).alloc (by simp; omega) (.cells #[.string s] 9)
  have hsz0 : ((w1.alloc (.cells #[.slice none 0 0] 22)).alloc (.cells #[.string s] 9)).heap.size = w1.heap.size + 2 := by simp
  obtain ⟨W0, hW0⟩ : ∃ W0, (w1.alloc (.cells #[.slice none 0 0] 22)).alloc (.cells #[.string s] 9) = W0 := ⟨_, rfl⟩
  rw [hW0] at b7 bs hB0 hsz0 ⊢
  clear hW0
  obtain ⟨te, hte⟩ : ∃ te, te = (textErr s).1 := ⟨_, rfl⟩
  rw [← hte]
  clear hte
  have h11 := hG.1
  have hN := scan_length s (s.size - 0) 0
  refine wpIn_rangeFunc_ownH rfl (by omega) (gf := 40) (lb := #[.pointer (some ⟨w1.heap.size + 1, 0, none⟩)]) rfl trivial (enters_of Tryz.func40 (by kernel_rfl) rfl)
    (pieces_stops _ (w1.heap.size + 1) s (by omega) hs W0 bs (hG.next hB0)) Kpt.trans (Kpt.book (by omega)) (Below.refl _ _) (fun _ => rfl)
    (fun pre W => (NotIn w w1.heap.size pre W))
    (fun _ _ _ => False)
    (notIn_own (by omega)) (fun c _ _ _ _ h _ _ => h)
    ?start
    (fun x a' W => ∃ Bx, BoxedTk W Bx x.tk ∧ a' = { tmps := #[.string s, undef, .slice none 0 0, .int .i64 0, .int .i64 (te : Int), .int .i64 0, .pointer (some ⟨w1.heap.size, 0, none⟩), .pointer (some ⟨Bx, 0, none⟩), .tuple #[.int .i64 (te : Int), .int .i64 0], .string s, .tuple #[.int .i64 (te : Int), .int .i64 0], .int .i64 (te : Int), .int .i64 0, .int .i64 0, .bool false, undef, .string s, .func (.func 40) #[] #[.pointer (some ⟨w1.heap.size + 1, 0, none⟩)], .agg #[.int .u8 (x.tk.kind : Int), .string x.tk.text, .int .i64 (x.tk.pos : Int)], .int .i64 (x.err : Int), undef, undef, undef, undef, undef, undef, undef, undef], defers := [] })
    (fun x a' _ X Y row hs hg hr => by obtain ⟨Bx, e1, e3⟩ := hs; exact ⟨Bx, e1.kept hg (fun e => by obtain ⟨_, o, ho, hc⟩ := hr _ e.symm; rw [show X.heap[Bx]? = _ from e1] at ho; cases ho; cases hc), e3⟩)
    ?assign ?body ?done ?stop
  case start =>
    exact ⟨.slice none 0 0, b7, World.ownsRow_nil _ _ _ _, ⟨_, bs⟩, by omega, hB0⟩
  case assign =>
    rintro l pre x W K hI hK
    dsimp only [encPc]
    gi_wp2
    have hI2 := hI
    obtain ⟨v, hv, hrow, ⟨s', hs'⟩, hge, hBW⟩ := hI
    exact hK _ _ ((KeepsOthers.alloc _ _).from _) ⟨KeepsWalks.alloc _ _, (Below.refl 8 W).alloc (by have := hBW.size; omega) _, fun o ho _ => (Below.heap_alloc W _ _ (Array.getElem?_eq_some_iff.1 ho).1).trans ho⟩ (hI2.alloc _) ⟨W.heap.size, World.alloc_heap_new W _, rfl⟩
  case body =>
    rintro l pre x a' W _ _ hI ⟨Bx, hX, rfl⟩ hlt
    obtain ⟨v, hv, hrow, ⟨s', hs'⟩, hge, hBW⟩ := hI
    have cX0 := hX.cell 0
    have cX1 := hX.cell 1
    have cX2 := hX.cell 2
    simp only [List.getElem?_toArray, List.getElem?_cons_zero, List.getElem?_cons_succ] at cX0 cX1 cX2
    have hnl := nts_length pre
    by_cases hk : x.tk.kind = 5
    · have ht : ((x.tk.kind : Int) == 5) = true := by rw [hk]; rfl
      have Hk := Lib.hid hk
      clear hk
      obtain ⟨A, cap, rfl⟩ := own_form hrow
      have cv := hv.cell
      have fv := hv.frozen
      obtain ⟨i0, hi, hz0, hz1, hz2⟩ := info_parts tk_info
      have hgeW := hBW.size
      unfold piecesFrom at hlt
      gi_wp2_with (gi_at_builtin; refine wpListIn_append_own _ rfl _ _ 22 rfl w.heap.size 33 i0 (.agg #[.int .u8 0, .string ⟨#[]⟩, .int .i64 0]) 3 32 Tryz.underlying22 hi hz0 hz1 hz2 rfl (by decide) _ _ _ rfl (hrow.alloc _) ⟨W.heap.size, 0, none⟩ 1 1 [.int .u8 (x.tk.kind : Int), .string x.tk.text, .int .i64 (x.tk.pos : Int)] rfl rfl (lit_cells W _ _ _ _) (fun u hu => by simp at hu; rcases hu with rfl | rfl | rfl <;> rfl) (by unfold maxLen; omega) (by omega) (by simp; omega) ?_; intro v' w2 hown' hgrow _; obtain ⟨g', cap', rfl⟩ := ownsRow_succ hown'; obtain ⟨hv1, hv2, hr2, hk2, hb2⟩ := hv.appended (by decide) hrow hgeW (by omega) hown' hgrow; have hc1 := hv1.cell; have hf1 := hv1.frozen)
      have qs := boxed_app (v' := .slice (some ⟨g', 0, none⟩) ((nts pre).length + 1) cap') (B7 := w1.heap.size) hs' (by decide) hrow hgrow (by omega)
      refine ⟨hk2.from _, ⟨walks_of_others hk2, hb2.mono (by omega), fun o ho hc => ?_⟩, _, hv2, ?_, ⟨s', qs⟩, hge, hBW.trans hb2⟩
      · rw [show W.heap[w1.heap.size + 1]? = _ from hs'] at ho
        cases ho; exact qs
      · rw [nts_hit _ _ Hk.out, tkCells_snoc, List.length_append]; exact hr2
    · have ht : ((x.tk.kind : Int) == 5) = false := by simp; omega
      have Hk := Lib.hid hk
      clear hk
      gi_wp2
      exact ⟨KeepsFrom.refl _ _, Kpt.refl _ _, v, hv, by rw [nts_miss _ _ Hk.out]; exact hrow, ⟨s', hs'⟩, hge, hBW⟩
  case done =>
    rintro D ys W hD rfl hI hK
    obtain ⟨v, hv, hrow, ⟨s', hs'⟩, hge, hBW⟩ := hI
    have cv := hv.cell
    gi_wp2
    refine ⟨by simp, .inl ⟨_, _, rfl, run_takeDeferred hK, ?_⟩⟩
    exact ⟨_, by simp only [results, Tryz.results12]; simp [go_sem], v, rfl, ownsRow_putObj hrow _ hK rfl, hBW.grown (grownBy_putObj' W D (.deferred none)) hBW.size (fun j e => by cases e; omega)⟩
  case stop =>
    rintro D c pre W _ _ h _
    exact h.elim

theorem notes_any (s : ByteArray) (w : World) (hs : s.size ≤ 100000) (hG : Gl w) :
    Calls Tryz.prog 12 #[.string s] w fun e w' => ∃ v, e = .returned (.tuple #[v, .int .i64 ((notes s).2 : Int)]) ∧
      w'.ownsRow w.heap.size 33 3 v (notes s).1.length (tkCells (notes s).1) ∧ Below w.heap.size w w' := by
  by_cases h0 : (textErr s).2 = 0
  · exact notes_ok s w hs hG h0
  · have hfin : notes s = ([], (textErr s).2) := by unfold notes; rw [if_neg h0]
    rw [hfin]
    have ht : (((textErr s).2 : Int) != 0) = true := by simp; omega
    obtain ⟨te, hte⟩ : ∃ te, te = (textErr s).2 := ⟨_, rfl⟩
    rw [← hte] at ht ⊢
    have Hte := Lib.hid hte
    clear hte hfin h0
    go_enter Tryz.func12, Tryz.ntmps12
    go_wp2_with (go_at_call 26; refine (textError_any s _ hs).mono ?_; rw [← Hte.out]; rintro e w1 ⟨rfl, hb1⟩)
    go_ret2
    exact ⟨_, rfl, World.ownsRow_nil _ _ _ _, hb1⟩

end Go.Proofs.YthjnoboceibjjaaGreatDoor.Lx
