/- Tokens of package lex: its contract. -/
import Derived.Test.YthjnoboceibjjaaGreatDoorWalkF
import Derived.Shelf.Abstract
import Derived.Shelf.RegionOpen
namespace Go.Proofs.YthjnoboceibjjaaGreatDoor.Lx
open Go Go.Proofs Go.RowKit Go.Shelf
attribute [local go_sem] Oper.semAt_some

/-- The cells of tokens, one after the other. -/
def tkCells (l : List Tk) : List Value := l.flatMap fun t => [.int .u8 (t.kind : Int), .string t.text, .int .i64 (t.pos : Int)]
theorem tkCells_snoc (l : List Tk) (t : Tk) : tkCells (l ++ [t]) = tkCells l ++ [.int .u8 (t.kind : Int), .string t.text, .int .i64 (t.pos : Int)] := by simp [tkCells]

theorem tk_info : (Tryz.prog.info? 33).map (fun i => (i.zero, i.size, i.bytes)) = some (some (.agg #[.int .u8 0, .string ⟨#[]⟩, .int .i64 0]), 3, 32) := by kernel_rfl

theorem own_form {W : World} {base : Nat} {e : TypeId} {size : Nat} {v : Value} {n : Nat} {xs : List Value} (h : W.ownsRow base e size v n xs) : ∃ A cap, v = .slice A n cap := by
  rcases h.2 with ⟨rfl, rfl⟩ | ⟨g, cap, _, rfl, _⟩
  · exact ⟨_, _, rfl⟩
  · exact ⟨_, _, rfl⟩

/-- A block that holds one token. -/
def BoxedTk (W : World) (B : Nat) (t : Tk) : Prop := W.heap[B]? = some (.cells #[.int .u8 (t.kind : Int), .string t.text, .int .i64 (t.pos : Int)] 33 (0, 0))
theorem BoxedTk.lt {W : World} {B : Nat} {t : Tk} (h : BoxedTk W B t) : B < W.heap.size := (Array.getElem?_eq_some_iff.1 h).1
theorem BoxedTk.kept {W W' : World} {row : Option Nat} {B : Nat} {t : Tk} (h : BoxedTk W B t) (hg : W.grownBy W' row) (hne : some B ≠ row) : BoxedTk W' B t := (hg.block B h.lt hne).trans h
theorem BoxedTk.cell {W : World} {B : Nat} {t : Tk} (h : BoxedTk W B t) (i : Nat) : W.cell? ⟨B, i, none⟩ = (#[.int .u8 (t.kind : Int), .string t.text, .int .i64 (t.pos : Int)] : Array Value)[i]? := cell_of_row W B i _ _ (0, 0) h

/-- Between two rounds of Tokens: what has come has no error, and the slice in the box has its tokens. -/
def TokIn (w : World) (B7 : Nat) (pre : List Pc) (W : World) : Prop :=
  ∃ acc v, (∀ r, collect (pre ++ r) [] = collect r acc) ∧ acc.length ≤ 900 ∧ Boxed W B7 22 v ∧ W.ownsRow w.heap.size 33 3 v acc.length (tkCells acc) ∧
    Boxed W w.heap.size 22 (.slice none 0 0) ∧ Boxed W (w.heap.size + 1) 3 (.int .i64 0) ∧ Boxed W (w.heap.size + 1 + 1) 25 (.int .i64 0) ∧ (∃ s, Boxed W (B7 + 1) 9 (.string s)) ∧ w.heap.size + 3 ≤ B7 ∧ Below w.heap.size w W
/-- A round has left: the results are in their boxes. -/
def TokOut (w : World) (c : Code) (pre : List Pc) (W : World) : Prop :=
  ∃ pos err : Nat, c = .ret ∧ err ≠ 0 ∧ (∀ r, collect (pre ++ r) [] = ([], pos, err)) ∧ Boxed W w.heap.size 22 (.slice none 0 0) ∧ Boxed W (w.heap.size + 1) 3 (.int .i64 (pos : Int)) ∧ Boxed W (w.heap.size + 1 + 1) 25 (.int .i64 (err : Int)) ∧ Below w.heap.size w W

theorem ownsRow_off {X Y : World} {base : Nat} {e : TypeId} {size : Nat} {v : Value} {n : Nat} {xs : List Value} {row : Option Nat} (h : X.ownsRow base e size v n xs) (hg : X.grownBy Y row)
    (hr : ∀ r, row = some r → ∃ o : Obj, X.heap[r]? = some o ∧ o.isCells = false) : Y.ownsRow base e size v n xs := by
  refine h.kept hg ?_
  rcases h.2 with ⟨rfl, _⟩ | ⟨g, cap, cur, rfl, _, hgb, _⟩
  · exact .inl rfl
  · refine .inr fun e' => ?_
    obtain ⟨o, ho, hc⟩ := hr g (by simpa [Value.ownBlock] using e'.symm)
    rw [hgb] at ho; cases ho; cases hc
theorem boxed_off {X Y : World} {B : Nat} {t : TypeId} {v : Value} {row : Option Nat} (h : Boxed X B t v) (hg : X.grownBy Y row) (hr : ∀ r, row = some r → ∃ o : Obj, X.heap[r]? = some o ∧ o.isCells = false) : Boxed Y B t v :=
  h.kept hg (fun e => by
    obtain ⟨o, ho, hc⟩ := hr B e.symm
    rw [show X.heap[B]? = _ from h] at ho; cases ho; cases hc)
theorem below_off {w X Y : World} {B : Nat} {row : Option Nat} (h : Below w.heap.size w X) (hg : X.grownBy Y row) (hB : w.heap.size ≤ B) (hr : ∀ r, row = some r → B ≤ r) : Below w.heap.size w Y :=
  h.grown hg h.size (fun j e => Nat.le_trans hB (hr j e))

theorem tokIn_own {w : World} {B7 B : Nat} (hB : w.heap.size ≤ B) : OwnFrom B (TokIn w B7) := by
  rintro pre X Y row ⟨acc, v, h1, h2, h3, h4, h5, h6, h7, ⟨s, h8⟩, h9, h10⟩ hg hr
  have hr2 := fun r e => (hr r e).2
  exact ⟨acc, v, h1, h2, boxed_off h3 hg hr2, ownsRow_off h4 hg hr2, boxed_off h5 hg hr2, boxed_off h6 hg hr2, boxed_off h7 hg hr2, ⟨s, boxed_off h8 hg hr2⟩, h9, below_off h10 hg hB (fun r e => (hr r e).1)⟩
theorem tokOut_own {w : World} {B : Nat} (hB : w.heap.size ≤ B) (c : Code) : OwnFrom B (TokOut w c) := by
  rintro pre X Y row ⟨pos, err, h1, h2, h3, h4, h5, h6, h7⟩ hg hr
  have hr2 := fun r e => (hr r e).2
  exact ⟨pos, err, h1, h2, h3, boxed_off h4 hg hr2, boxed_off h5 hg hr2, boxed_off h6 hg hr2, below_off h7 hg hB (fun r e => (hr r e).1)⟩
theorem TokIn.alloc {w W : World} {B7 : Nat} {pre : List Pc} (h : TokIn w B7 pre W) (o : Obj) : TokIn w B7 pre (W.alloc o) :=
  tokIn_own (B := w.heap.size) (Nat.le_refl _) pre W _ none h (World.grownBy_alloc W o none) (fun r e => by cases e)

theorem Kpt.refl (B : Nat) (W : World) : Kpt B W W := ⟨KeepsWalks.refl _, Below.refl _ _, fun _ h _ => h⟩
theorem col_note {x : Pc} (r : List Pc) (acc : List Tk) (h : x.tk.kind = 5) : collect (x :: r) acc = collect r acc := by rw [collect, if_pos h]
theorem col_tok {x : Pc} (r : List Pc) (acc : List Tk) (h : ¬ x.tk.kind = 5) (he : x.err = 0) (hl : ¬ acc.length = 900) : collect (x :: r) acc = collect r (acc ++ [x.tk]) := by rw [collect, if_neg h, if_pos he, if_neg hl]
theorem col_full {x : Pc} (r : List Pc) (acc : List Tk) (h : ¬ x.tk.kind = 5) (he : x.err = 0) (hl : acc.length = 900) : collect (x :: r) acc = ([], x.tk.pos, 5) := by rw [collect, if_neg h, if_pos he, if_pos hl]
theorem col_err {x : Pc} (r : List Pc) (acc : List Tk) (h : ¬ x.tk.kind = 5) (he : ¬ x.err = 0) : collect (x :: r) acc = ([], x.tk.pos, x.err) := by rw [collect, if_neg h, if_neg he]

theorem lit_cells (W : World) (t : TypeId) (a b c : Value) (j : Nat) (u : Value) (h : [a, b, c][j]? = some u) : (W.alloc (.cells #[a, b, c] t)).cell? (({ block := W.heap.size, off := 0 } : Addr).add j) = some u := by
  match j, h with
  | 0, h => exact (cell_new W #[a, b, c] t 0).trans h
  | 1, h => exact (cell_new W #[a, b, c] t 1).trans h
  | 2, h => exact (cell_new W #[a, b, c] t 2).trans h
  | j + 3, h => simp at h

/-- Another box behind an append to the slice in box B7. -/
theorem boxed_app {W w1 : World} {B B7 n₀ : Nat} {t e : TypeId} {size : Nat} {u v v' : Value} {k : Nat} {xs : List Value} {tmp : Obj} (h : Boxed W B t u) (hte : t ≠ e) (hrow : W.ownsRow n₀ e size v k xs)
    (hgrow : (W.alloc tmp).grownBy w1 v.ownBlock) (hne : B ≠ B7) : Boxed (w1.setCell ⟨B7, 0, none⟩ v') B t u :=
  ((h.alloc tmp).kept hgrow (h.not_row hte hrow)).other hne v'
theorem walks_of_others {W W' : World} (h : KeepsOthers W W') : KeepsWalks W W' := ⟨h.size, fun k o hk hw => h.same k o hk (Obj.not_cells_of_walk hw)⟩

/-- A round that leaves with an error. -/
theorem out_close {w W : World} {B pos err : Nat} {pe ee : Int} {pre : List Pc} (h1 : pe = (pos : Int)) (h2 : ee = (err : Int)) (herr : err ≠ 0) (hcol : ∀ r, collect (pre ++ r) [] = ([], pos, err))
    (r2 : Boxed W w.heap.size 22 (.slice none 0 0)) (r3 : Boxed W (w.heap.size + 1) 3 (.int .i64 0)) (r4 : Boxed W (w.heap.size + 1 + 1) 25 (.int .i64 0)) (hb : Below w.heap.size w W) :
    KeepsFrom B W (((W.setCell ⟨w.heap.size, 0, none⟩ (.slice none 0 0)).setCell ⟨w.heap.size + 1, 0, none⟩ (.int .i64 pe)).setCell ⟨w.heap.size + 1 + 1, 0, none⟩ (.int .i64 ee)).drew ∧
      TokOut w .ret pre (((W.setCell ⟨w.heap.size, 0, none⟩ (.slice none 0 0)).setCell ⟨w.heap.size + 1, 0, none⟩ (.int .i64 pe)).setCell ⟨w.heap.size + 1 + 1, 0, none⟩ (.int .i64 ee)).drew := by
  subst h1; subst h2
  refine ⟨((((KeepsOthers.setCell _ _ _).trans (KeepsOthers.setCell _ _ _)).trans (KeepsOthers.setCell _ _ _)).trans (KeepsOthers.drew _)).from _, pos, err, rfl, herr, hcol, ?_, ?_, ?_, ?_⟩
  · exact ((r2.set _).other (by omega) _).other (by omega) _
  · exact ((r3.other (by omega) _).set _).other (by omega) _
  · exact ((r4.other (by omega) _).other (by omega) _).set _
  · exact (((hb.setCell (p := ⟨w.heap.size, 0, none⟩) (Nat.le_refl _) _).setCell (p := ⟨w.heap.size + 1, 0, none⟩) (by show _ ≤ w.heap.size + 1; omega) _).setCell (p := ⟨w.heap.size + 1 + 1, 0, none⟩) (by show _ ≤ w.heap.size + 1 + 1; omega) _).drew

/-- The end of Tokens: the results are read out of their boxes. -/
theorem tok_end {s : ByteArray} {w W W0 : World} {D n0 : Nat} {acc : List Tk} {pos err : Nat} {v : Value} {pe ee : Int} {tmps : Array Value} (hf : tokens s = (acc, pos, err)) (hD : W0.heap.size ≤ D) (hs1 : w.heap.size + 3 ≤ n0) (hs0 : W0.heap.size = n0 + 2) (hK : W.heap[D]? = some (.deferred (some [])))
    (r2 : Boxed W w.heap.size 22 v) (r3 : Boxed W (w.heap.size + 1) 3 (.int .i64 pe)) (r4 : Boxed W (w.heap.size + 1 + 1) 25 (.int .i64 ee))
    (hr : W.ownsRow w.heap.size 33 3 v acc.length (tkCells acc)) (hb : Below w.heap.size w W)
    (hpe : pe = (pos : Int) := by rfl) (hee : ee = (err : Int) := by rfl) (h2 : tmps[2]? = some (.pointer (some ⟨w.heap.size, 0, none⟩)) := by rfl) (h3 : tmps[3]? = some (.pointer (some ⟨w.heap.size + 1, 0, none⟩)) := by rfl) (h4 : tmps[4]? = some (.pointer (some ⟨w.heap.size + 1 + 1, 0, none⟩)) := by rfl) :
    bodyPostM Fence.wide 3 Tryz.prog Tryz.f11 (fun e w' => ∃ v, e = .returned (.tuple #[v, .int .i64 ((tokens s).2.1 : Int), .int .i64 ((tokens s).2.2 : Int)]) ∧
      w'.ownsRow w.heap.size 33 3 v (tokens s).1.length (tkCells (tokens s).1) ∧ Below w.heap.size w w') Exit.ret { tmps := tmps, defers := [{ target := .collected D, args := #[] }] } W := by
  subst hpe; subst hee
  refine ⟨by simp, .inl ⟨_, _, rfl, run_takeDeferred hK, ?_⟩⟩
  have hoff : ∀ r, some D = some r → ∃ o : Obj, W.heap[r]? = some o ∧ o.isCells = false := fun r e => by cases e; exact ⟨_, hK, rfl⟩
  have c2 := (boxed_off r2 (grownBy_putObj' W D (.deferred none)) hoff).cell
  have c3 := (boxed_off r3 (grownBy_putObj' W D (.deferred none)) hoff).cell
  have c4 := (boxed_off r4 (grownBy_putObj' W D (.deferred none)) hoff).cell
  refine ⟨.tuple #[v, .int .i64 (pos : Int), .int .i64 (err : Int)], ?_, v, by rw [hf], ?_, hb.grown (grownBy_putObj' W D (.deferred none)) hb.size (fun j e => by cases e; omega)⟩
  · simp [results, Tryz.results11, go_sem, Array.getD_eq_getD_getElem?, h2, h3, h4, c2, c3, c4]
  · rw [hf]
    exact ownsRow_putObj hr _ hK rfl

set_option maxRecDepth 100000 in
set_option maxHeartbeats 4000000 in
theorem tokens_ok (s : ByteArray) (w : World) (hs : s.size ≤ 100000) (hG : Gl w) (h0 : (textErr s).2 = 0) :
    Calls Tryz.prog 11 #[.string s] w fun e w' => ∃ v, e = .returned (.tuple #[v, .int .i64 ((tokens s).2.1 : Int), .int .i64 ((tokens s).2.2 : Int)]) ∧
      w'.ownsRow w.heap.size 33 3 v (tokens s).1.length (tkCells (tokens s).1) ∧ Below w.heap.size w w' := by
  refine (callsIn_wide (n := 3)).1 ?_
  refine callsIn_of_wp_marks Tryz.func11 rfl trivial ?_ rfl
  simp only [Tryz.ntmps11, List.size_toArray, List.length_cons, List.length_nil, Nat.reduceAdd, Nat.reduceSub, Array.replicate_succ, Array.replicate_zero, List.push_toArray, List.append_toArray, List.nil_append, List.cons_append]
  have H0 := Lib.hid h0
  clear h0
  gi_wp2_with (first
    | (refine ⟨trivial, ?_⟩; gi_at_call 26; refine (callsIn_wide.2 (textError_any s _ hs)).mono ?_; rw [H0.out]; rintro e w1 ⟨rfl, hb1⟩)
    | (refine ⟨trivial, ?_⟩; gi_at_call 27; refine (callsIn_wide.2 (pieces_call s _)).mono ?_; rintro e w2 ⟨rfl, rfl⟩))
  have hb1' := hb1
  have b2 : Boxed w1 w.heap.size 22 (.slice none 0 0) := (hb1.block _ (by simp; omega)).trans (((Boxed.new w 22 (.slice none 0 0)).alloc (.cells #[.int .i64 0] 3)).alloc (.cells #[.int .i64 0] 25))
  have b3 : Boxed w1 (w.heap.size + 1) 3 (.int .i64 0) := (hb1.block _ (by simp)).trans (by
    have := (Boxed.new (w.alloc (.cells #[.slice none 0 0] 22)) 3 (.int .i64 0)).alloc (.cells #[.int .i64 0] 25)
    simp only [World.size_alloc] at this; exact this)
  have b4 : Boxed w1 (w.heap.size + 1 + 1) 25 (.int .i64 0) := (hb1.block _ (by simp)).trans (by
    have := Boxed.new ((w.alloc (.cells #[.slice none 0 0] 22)).alloc (.cells #[.int .i64 0] 3)) 25 (.int .i64 0)
    simp only [World.size_alloc] at this; exact this)
  have hB1 : Below w.heap.size w w1 := ((((Below.refl _ w).alloc (Nat.le_refl _) _).alloc (by simp) _).alloc (by simp; omega) _).trans (hb1.mono (by simp; omega))
  have hsz1 : w.heap.size + 3 ≤ w1.heap.size := by have := hb1.size; simp at this; omega
  clear hb1 hb1'
  have b7 := (Boxed.new w1 22 (.slice none 0 0)).alloc (.cells #[.string s] 9)
  have bs := Boxed.new (w1.alloc (.cells #[.slice none 0 0] 22)) 9 (.string s)
  simp only [World.size_alloc] at bs
  have b2' := (b2.alloc (.cells #[.slice none 0 0] 22)).alloc (.cells #[.string s] 9)
  have b3' := (b3.alloc (.cells #[.slice none 0 0] 22)).alloc (.cells #[.string s] 9)
  have b4' := (b4.alloc (.cells #[.slice none 0 0] 22)).alloc (.cells #[.string s] 9)
  have hB0 := (hB1.alloc hB1.size (.cells #[.slice none 0 0] 22)).alloc (by simp; have := hB1.size; omega) (.cells #[.string s] 9)
  have hsz0 : ((w1.alloc (.cells #[.slice none 0 0] 22)).alloc (.cells #[.string s] 9)).heap.size = w1.heap.size + 2 := by simp
  obtain ⟨W0, hW0⟩ : ∃ W0, (w1.alloc (.cells #[.slice none 0 0] 22)).alloc (.cells #[.string s] 9) = W0 := ⟨_, rfl⟩
  rw [hW0] at b7 bs b2' b3' b4' hB0 hsz0 ⊢
  clear hW0 b2 b3 b4 hB1
  obtain ⟨te, hte⟩ : ∃ te, te = (textErr s).1 := ⟨_, rfl⟩
  rw [← hte]
  clear hte
  have h11 := hG.1
  refine wpIn_rangeFunc_ownH rfl (by omega) (gf := 40) (lb := #[.pointer (some ⟨w1.heap.size + 1, 0, none⟩)]) rfl trivial (enters_of Tryz.func40 (by kernel_rfl) rfl)
    (pieces_stops _ (w1.heap.size + 1) s (by omega) hs W0 bs (hG.next hB0)) Kpt.trans (Kpt.book (by omega)) (Below.refl _ _) (fun _ => rfl)
    (fun pre W => (TokIn w w1.heap.size pre W))
    (fun c pre W => (TokOut w c pre W))
    (tokIn_own (by omega)) (fun c => tokOut_own (by omega) c)
    ?start
    (fun x a' W => ∃ Bx, BoxedTk W Bx x.tk ∧ w.heap.size + 3 ≤ Bx ∧ a' = { tmps := #[.string s, undef, .pointer (some ⟨w.heap.size, 0, none⟩), .pointer (some ⟨w.heap.size + 1, 0, none⟩), .pointer (some ⟨w.heap.size + 1 + 1, 0, none⟩), .int .i64 (te : Int), .int .i64 0, .pointer (some ⟨w1.heap.size, 0, none⟩), .pointer (some ⟨Bx, 0, none⟩), .int .i64 (x.err : Int), .tuple #[.int .i64 (te : Int), .int .i64 0], .string s, .tuple #[.int .i64 (te : Int), .int .i64 0], .int .i64 (te : Int), .int .i64 0, .int .i64 0, .bool false, undef, undef, .string s, .func (.func 40) #[] #[.pointer (some ⟨w1.heap.size + 1, 0, none⟩)], .agg #[.int .u8 (x.tk.kind : Int), .string x.tk.text, .int .i64 (x.tk.pos : Int)], .int .i64 (x.err : Int), undef, undef, undef, undef, undef, undef, undef, undef, undef, undef, undef, undef, undef, undef, undef, undef, undef, undef, undef, undef], defers := [] })
    (fun x a' _ X Y row hs hg hr => by obtain ⟨Bx, e1, e2, e3⟩ := hs; exact ⟨Bx, e1.kept hg (fun e => by obtain ⟨_, o, ho, hc⟩ := hr _ e.symm; rw [show X.heap[Bx]? = _ from e1] at ho; cases ho; cases hc), e2, e3⟩)
    ?assign ?body ?done ?stop
  case start =>
    exact ⟨[], .slice none 0 0, fun r => rfl, Nat.zero_le _, b7, World.ownsRow_nil _ _ _ _, b2', b3', b4', ⟨_, bs⟩, by omega, hB0⟩
  case assign =>
    rintro l pre x W K hI hK
    dsimp only [encPc]
    gi_wp2
    have hI2 := hI
    obtain ⟨acc, v, hcol, hlen, hv, hrow, r2, r3, r4, ⟨s', hs'⟩, hge, hBW⟩ := hI
    exact hK _ _ ((KeepsOthers.alloc _ _).from _) ⟨KeepsWalks.alloc _ _, (Below.refl 8 W).alloc (by have := hBW.size; omega) _, fun o ho _ => (Below.heap_alloc W _ _ (Array.getElem?_eq_some_iff.1 ho).1).trans ho⟩ (hI2.alloc _) ⟨W.heap.size, World.alloc_heap_new W _, by have := hv.lt; omega, rfl⟩
  case body =>
    rintro l pre x a' W _ _ hI ⟨Bx, hX, hBx, rfl⟩ _
    obtain ⟨acc, v, hcol, hlen, hv, hrow, r2, r3, r4, ⟨s', hs'⟩, hge, hBW⟩ := hI
    have Hcol := Lib.hid hcol
    clear hcol
    have cX0 := hX.cell 0
    have cX1 := hX.cell 1
    have cX2 := hX.cell 2
    simp only [List.getElem?_toArray, List.getElem?_cons_zero, List.getElem?_cons_succ] at cX0 cX1 cX2
    by_cases hk : x.tk.kind = 5
    · have ht : ((x.tk.kind : Int) == 5) = true := by rw [hk]; rfl
      have Hk := Lib.hid hk
      clear hk
      gi_wp2
      exact ⟨KeepsFrom.refl _ _, Kpt.refl _ _, acc, v, fun r => by rw [List.append_assoc, List.singleton_append, Hcol.out, col_note _ _ Hk.out], hlen, hv, hrow, r2, r3, r4, ⟨s', hs'⟩, hge, hBW⟩
    · have ht : ((x.tk.kind : Int) == 5) = false := by simp; omega
      have Hk := Lib.hid hk
      clear hk
      obtain ⟨A, cap, rfl⟩ := own_form hrow
      have cv := hv.cell
      have fv := hv.frozen
      have c2 := r2.cell
      have f2 := r2.frozen
      have c3 := r3.cell
      have f3 := r3.frozen
      have c4 := r4.cell
      have f4 := r4.frozen
      by_cases he : x.err = 0
      · have ht2 : ((x.err : Int) == 0) = true := by rw [he]; rfl
        have ht3 : ((x.err : Int) != 0) = false := by rw [he]; rfl
        have He := Lib.hid he
        clear he
        by_cases hl : acc.length = 900
        · have ht4 : ((acc.length : Int) == 900) = true := by rw [hl]; rfl
          have Hl := Lib.hid hl
          clear hl
          have hmx : Tryz.prog.follows .mixedOrders = true := by kernel_rfl
          gi_wp2
          gi_region_with_o (fail)
          all_goals gi_wp2
          all_goals exact out_close rfl rfl (by decide) (fun r => by rw [List.append_assoc, List.singleton_append, Hcol.out, col_full _ _ Hk.out He.out Hl.out]) r2 r3 r4 hBW
        · have ht4 : ((acc.length : Int) == 900) = false := by simp; omega
          have Hl := Lib.hid hl
          clear hl
          obtain ⟨i0, hi, hz0, hz1, hz2⟩ := info_parts tk_info
          have hgeW := hBW.size
          gi_wp2_with (gi_at_builtin; refine wpListIn_append_own _ rfl _ _ 22 rfl w.heap.size 33 i0 (.agg #[.int .u8 0, .string ⟨#[]⟩, .int .i64 0]) 3 32 Tryz.underlying22 hi hz0 hz1 hz2 rfl (by decide) _ _ _ rfl (hrow.alloc _) ⟨W.heap.size, 0, none⟩ 1 1 [.int .u8 (x.tk.kind : Int), .string x.tk.text, .int .i64 (x.tk.pos : Int)] rfl rfl (lit_cells W _ _ _ _) (fun u hu => by simp at hu; rcases hu with rfl | rfl | rfl <;> rfl) (by unfold maxLen; omega) (by omega) (by simp; omega) ?_; intro v' w2 hown' hgrow _; obtain ⟨g', cap', rfl⟩ := ownsRow_succ hown'; obtain ⟨hv1, hv2, hr2, hk2, hb2⟩ := hv.appended (by decide) hrow hgeW (by omega) hown' hgrow; have hc1 := hv1.cell; have hf1 := hv1.frozen)
          have q2 := boxed_app (v' := .slice (some ⟨g', 0, none⟩) (acc.length + 1) cap') (B7 := w1.heap.size) r2 (by decide) hrow hgrow (by omega)
          have q3 := boxed_app (v' := .slice (some ⟨g', 0, none⟩) (acc.length + 1) cap') (B7 := w1.heap.size) r3 (by decide) hrow hgrow (by omega)
          have q4 := boxed_app (v' := .slice (some ⟨g', 0, none⟩) (acc.length + 1) cap') (B7 := w1.heap.size) r4 (by decide) hrow hgrow (by omega)
          have qs := boxed_app (v' := .slice (some ⟨g', 0, none⟩) (acc.length + 1) cap') (B7 := w1.heap.size) hs' (by decide) hrow hgrow (by omega)
          refine ⟨hk2.from _, ⟨walks_of_others hk2, hb2.mono (by omega), fun o ho hc => ?_⟩, acc ++ [x.tk], _, fun r => by rw [List.append_assoc, List.singleton_append, Hcol.out, col_tok _ _ Hk.out He.out Hl.out], ?_, hv2, ?_, q2, q3, q4, ⟨s', qs⟩, hge, hBW.trans hb2⟩
          · rw [show W.heap[w1.heap.size + 1]? = _ from hs'] at ho
            cases ho; exact qs
          · have := Hl.out; simp; omega
          · rw [tkCells_snoc, List.length_append]; exact hr2
      · have ht2 : ((x.err : Int) == 0) = false := by simp; omega
        have ht3 : ((x.err : Int) != 0) = true := by simp; omega
        have He := Lib.hid he
        clear he
        have hmx : Tryz.prog.follows .mixedOrders = true := by kernel_rfl
        gi_wp2
        gi_region_with_o (fail)
        all_goals gi_wp2
        all_goals exact out_close rfl rfl He.out (fun r => by rw [List.append_assoc, List.singleton_append, Hcol.out, col_err _ _ Hk.out He.out]) r2 r3 r4 hBW
  case done =>
    rintro D ys W hD rfl hI hK
    obtain ⟨acc, v, hcol, hlen, hv, hrow, r2, r3, r4, ⟨s', hs'⟩, hge, hBW⟩ := hI
    have hfin : tokens s = (acc, 0, 0) := by
      have := hcol []
      rw [List.append_nil, collect] at this
      unfold tokens
      rw [if_pos H0.out, this]
    have Hf := Lib.hid hfin
    clear hfin hcol
    obtain ⟨A, cap, rfl⟩ := own_form hrow
    have cv := hv.cell
    have fv := hv.frozen
    have c2 := r2.cell
    have f2 := r2.frozen
    have c3 := r3.cell
    have f3 := r3.frozen
    have c4 := r4.cell
    have f4 := r4.frozen
    gi_wp2
    have e2 := ((r2.set (.slice A acc.length cap)).other (B' := w.heap.size + 1) (by omega) (.int .i64 0)).other (B' := w.heap.size + 1 + 1) (by omega) (.int .i64 0)
    have e3 := ((r3.other (B' := w.heap.size) (by omega) (.slice A acc.length cap)).set (.int .i64 0)).other (B' := w.heap.size + 1 + 1) (by omega) (.int .i64 0)
    have e4 := ((r4.other (B' := w.heap.size) (by omega) (.slice A acc.length cap)).other (B' := w.heap.size + 1) (by omega) (.int .i64 0)).set (.int .i64 0)
    have eo : KeepsOthers W (((W.setCell ⟨w.heap.size, 0, none⟩ (.slice A acc.length cap)).setCell ⟨w.heap.size + 1, 0, none⟩ (.int .i64 0)).setCell ⟨w.heap.size + 1 + 1, 0, none⟩ (.int .i64 0)) := ((KeepsOthers.setCell _ _ _).trans (KeepsOthers.setCell _ _ _)).trans (KeepsOthers.setCell _ _ _)
    have eb : Below w.heap.size w (((W.setCell ⟨w.heap.size, 0, none⟩ (.slice A acc.length cap)).setCell ⟨w.heap.size + 1, 0, none⟩ (.int .i64 0)).setCell ⟨w.heap.size + 1 + 1, 0, none⟩ (.int .i64 0)) :=
      ((hBW.setCell (p := ⟨w.heap.size, 0, none⟩) (Nat.le_refl _) _).setCell (p := ⟨w.heap.size + 1, 0, none⟩) (by show _ ≤ w.heap.size + 1; omega) _).setCell (p := ⟨w.heap.size + 1 + 1, 0, none⟩) (by show _ ≤ w.heap.size + 1 + 1; omega) _
    have er : (((W.setCell ⟨w.heap.size, 0, none⟩ (.slice A acc.length cap)).setCell ⟨w.heap.size + 1, 0, none⟩ (.int .i64 0)).setCell ⟨w.heap.size + 1 + 1, 0, none⟩ (.int .i64 0)).ownsRow w.heap.size 33 3 (.slice A acc.length cap) acc.length (tkCells acc) := by
      have o1 := hrow.kept (grownBy_setCell' W w.heap.size (.slice A acc.length cap)) (.inr (r2.not_row (by decide) hrow).symm)
      have o2 := o1.kept (grownBy_setCell' _ (w.heap.size + 1) (.int .i64 0)) (.inr ((r3.other (B' := w.heap.size) (by omega) (.slice A acc.length cap)).not_row (by decide) o1).symm)
      exact o2.kept (grownBy_setCell' _ (w.heap.size + 1 + 1) (.int .i64 0)) (.inr (((r4.other (B' := w.heap.size) (by omega) (.slice A acc.length cap)).other (B' := w.heap.size + 1) (by omega) (.int .i64 0)).not_row (by decide) o2).symm)
    generalize (((W.setCell ⟨w.heap.size, 0, none⟩ (.slice A acc.length cap)).setCell ⟨w.heap.size + 1, 0, none⟩ (.int .i64 0)).setCell ⟨w.heap.size + 1 + 1, 0, none⟩ (.int .i64 0)) = Wf at e2 e3 e4 eo eb er ⊢
    exact tok_end Hf.out hD hsz1 hsz0 (eo.same D _ hK rfl) e2 e3 e4 er eb
  case stop =>
    rintro D c pre W hD hpre hO hK
    obtain ⟨pos, err, rfl, herr, hcol, r2, r3, r4, hBW⟩ := hO
    have hfin : tokens s = ([], pos, err) := by
      obtain ⟨r, hr⟩ := hpre
      unfold tokens
      rw [if_pos H0.out, ← hr, hcol r]
    have Hf := Lib.hid hfin
    clear hfin hcol
    gi_wp2
    exact tok_end Hf.out hD hsz1 hsz0 hK r2 r3 r4 (World.ownsRow_nil _ _ _ _) hBW

/-- Where the text has an error. -/
theorem tokens_bad (s : ByteArray) (w : World) (hs : s.size ≤ 100000) (h0 : ¬ (textErr s).2 = 0) :
    Calls Tryz.prog 11 #[.string s] w fun e w' => ∃ v, e = .returned (.tuple #[v, .int .i64 ((tokens s).2.1 : Int), .int .i64 ((tokens s).2.2 : Int)]) ∧
      w'.ownsRow w.heap.size 33 3 v (tokens s).1.length (tkCells (tokens s).1) ∧ Below w.heap.size w w' := by
  have hfin : tokens s = ([], (textErr s).1, (textErr s).2) := by unfold tokens; rw [if_neg h0]
  rw [hfin]
  have ht : (((textErr s).2 : Int) != 0) = true := by simp; omega
  obtain ⟨te, hte⟩ : ∃ te, te = (textErr s).2 := ⟨_, rfl⟩
  obtain ⟨tp, htp⟩ : ∃ tp, tp = (textErr s).1 := ⟨_, rfl⟩
  rw [← hte] at ht ⊢
  rw [← htp]
  have Hte := Lib.hid hte
  have Htp := Lib.hid htp
  clear hte htp hfin h0
  go_enter Tryz.func11, Tryz.ntmps11
  go_wp2_with (go_at_call 26; refine (textError_any s _ hs).mono ?_; rw [← Hte.out, ← Htp.out]; rintro e w1 ⟨rfl, hb1⟩; obtain ⟨hc, hf⟩ := old_cells hb1; have hz : w.heap.size + 1 + 1 + 1 ≤ w1.heap.size := by have := hb1.size; simp at this; omega)
  have b2 : Boxed w1 w.heap.size 22 (.slice none 0 0) := (hb1.block _ (by simp; omega)).trans (((Boxed.new w 22 (.slice none 0 0)).alloc (.cells #[.int .i64 0] 3)).alloc (.cells #[.int .i64 0] 25))
  have b3 : Boxed w1 (w.heap.size + 1) 3 (.int .i64 0) := (hb1.block _ (by simp)).trans (by
    have := (Boxed.new (w.alloc (.cells #[.slice none 0 0] 22)) 3 (.int .i64 0)).alloc (.cells #[.int .i64 0] 25)
    simp only [World.size_alloc] at this; exact this)
  have b4 : Boxed w1 (w.heap.size + 1 + 1) 25 (.int .i64 0) := (hb1.block _ (by simp)).trans (by
    have := Boxed.new ((w.alloc (.cells #[.slice none 0 0] 22)).alloc (.cells #[.int .i64 0] 3)) 25 (.int .i64 0)
    simp only [World.size_alloc] at this; exact this)
  have hB1 : Below w.heap.size w w1 := ((((Below.refl _ w).alloc (Nat.le_refl _) _).alloc (by simp) _).alloc (by simp; omega) _).trans (hb1.mono (by simp; omega))
  have e2 := (((b2.set (.slice none 0 0)).other (B' := w.heap.size + 1) (by omega) (.int .i64 (tp : Int))).other (B' := w.heap.size + 1 + 1) (by omega) (.int .i64 (te : Int))).cell
  have e3 := (((b3.other (B' := w.heap.size) (by omega) (.slice none 0 0)).set (.int .i64 (tp : Int))).other (B' := w.heap.size + 1 + 1) (by omega) (.int .i64 (te : Int))).cell
  have e4 := (((b4.other (B' := w.heap.size) (by omega) (.slice none 0 0)).other (B' := w.heap.size + 1) (by omega) (.int .i64 (tp : Int))).set (.int .i64 (te : Int))).cell
  refine bodyPost_ret (v := .tuple #[.slice none 0 0, .int .i64 (tp : Int), .int .i64 (te : Int)]) (by simp only [results, Tryz.results11]; simp [go_sem, e2, e3, e4]) rfl ⟨_, rfl, World.ownsRow_nil _ _ _ _, ?_⟩
  exact ((hB1.setCell (p := ⟨w.heap.size, 0, none⟩) (Nat.le_refl _) _).setCell (p := ⟨w.heap.size + 1, 0, none⟩) (by show _ ≤ w.heap.size + 1; omega) _).setCell (p := ⟨w.heap.size + 1 + 1, 0, none⟩) (by show _ ≤ w.heap.size + 1 + 1; omega) _

theorem tokens_any (s : ByteArray) (w : World) (hs : s.size ≤ 100000) (hG : Gl w) :
    Calls Tryz.prog 11 #[.string s] w fun e w' => ∃ v, e = .returned (.tuple #[v, .int .i64 ((tokens s).2.1 : Int), .int .i64 ((tokens s).2.2 : Int)]) ∧
      w'.ownsRow w.heap.size 33 3 v (tokens s).1.length (tkCells (tokens s).1) ∧ Below w.heap.size w w' := by
  by_cases h0 : (textErr s).2 = 0
  · exact tokens_ok s w hs hG h0
  · exact tokens_bad s w hs h0

end Go.Proofs.YthjnoboceibjjaaGreatDoor.Lx
