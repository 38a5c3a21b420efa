/- A list of moves that grows in a captured variable; what a call that only makes it grow leaves as it was. -/
import Derived.Test.YtoncdnelacolaaaGreatDoorProg
import Derived.Test.YtoncdnelacolaaaGreatDoorAHead
import Derived.Test.YtoncdnelacolaaaGreatDoorABlocks
import Derived.Test.YtoncdnelacolaaaGreatDoorARange
import Derived.RangeFuncBox
import Derived.RangeFuncBound
import Derived.RangeFuncCalls
import Derived.RangeFuncLeaves
import Derived.Shelf.Abstract
import Derived.Shelf.RegionOpen
import Derived.OwnWalkIn
import Derived.TacticsInMore
import Derived.LoopNIn
import Derived.LoopIn
namespace Go.Proofs.YtoncdnelacolaaaGreatDoor.Ar
open Go Go.Proofs Go.RowKit Lx Ps

def mvCells (l : List Mv) : List Value := l.flatMap mvVals
theorem mvCells_append (l k : List Mv) : mvCells (l ++ k) = mvCells l ++ mvCells k := by simp [mvCells]
theorem mvCells_one (m : Mv) : mvCells [m] = [.int .i64 m.id, .int .i64 m.arg, .int .u8 (m.kind : Int), .int .i64 m.n] := by simp [mvCells, mvVals]

/-- What is none of the rows of moves, and none of the variables that hold them. -/
def CalmO (o : Obj) : Prop := o.isCells = false ∨ ∃ (cs : Array Value) (t : TypeId) (fr : Nat × Nat), o = .cells cs t fr ∧ t ≠ 40 ∧ t ≠ 32
/-- Everything below a block, and everything calm, lies as it lay. -/
structure Full (n0 : Nat) (W W' : World) : Prop where
  below : Below n0 W W'
  same : ∀ (b : Nat) (o : Obj), W.heap[b]? = some o → CalmO o → W'.heap[b]? = some o
theorem Full.refl (n0 : Nat) (W : World) : Full n0 W W := ⟨Below.refl _ _, fun _ _ h _ => h⟩
theorem Full.trans {n0 : Nat} {X Y Z : World} (h : Full n0 X Y) (k : Full n0 Y Z) : Full n0 X Z := ⟨h.below.trans k.below, fun b o hb hc => k.same b o (h.same b o hb hc) hc⟩
theorem Full.of_below {n0 : Nat} {W W' : World} (hn : n0 ≤ W.heap.size) (h : Below W.heap.size W W') : Full n0 W W' :=
  ⟨h.mono hn, fun b _ hb _ => (h.block b (Array.getElem?_eq_some_iff.1 hb).1).trans hb⟩
theorem Full.alloc {n0 : Nat} {W W' : World} (h : Full n0 W W') (hn : n0 ≤ W'.heap.size) (o : Obj) : Full n0 W (W'.alloc o) :=
  h.trans (Full.of_below hn ((Below.refl _ _).alloc (Nat.le_refl _) _))
theorem Full.others {n0 : Nat} {W W' : World} (h : Full n0 W W') : KeepsOthers W W' := ⟨h.below.size, fun k o hk ho => h.same k o hk (.inl ho)⟩

/-- What a round keeps: the same, but for the loop's own records. -/
def Kp (n0 : Nat) (W W' : World) : Prop := Below n0 W W' ∧ KeepsWalks W W' ∧ ∀ (b : Nat) (cs : Array Value) (t : TypeId) (fr : Nat × Nat), W.heap[b]? = some (.cells cs t fr) → t ≠ 40 → t ≠ 32 → W'.heap[b]? = some (.cells cs t fr)
theorem Kp.trans {n0 : Nat} {X Y Z : World} (h : Kp n0 X Y) (k : Kp n0 Y Z) : Kp n0 X Z := ⟨h.1.trans k.1, h.2.1.trans k.2.1, fun b cs t fr hb h1 h2 => k.2.2 b cs t fr (h.2.2 b cs t fr hb h1 h2) h1 h2⟩
theorem Kp.refl (n0 : Nat) (W : World) : Kp n0 W W := ⟨Below.refl _ _, KeepsWalks.refl W, fun _ _ _ _ h _ _ => h⟩
theorem not_cells_of_isWalk {o : Obj} (h : o.isWalk = true) : o.isCells = false := Obj.not_cells_of_walk h
theorem Full.kp {n0 : Nat} {W W' : World} (h : Full n0 W W') : Kp n0 W W' :=
  ⟨h.below, ⟨h.below.size, fun k o hk ho => h.same k o hk (.inl (Obj.not_cells_of_walk ho))⟩, fun b cs t fr hb h1 h2 => h.same b _ hb (.inr ⟨cs, t, fr, rfl, h1, h2⟩)⟩
theorem Kp.book {n0 : Nat} {w : World} (hn : n0 ≤ w.heap.size) (W : World) (l : Nat) (o o' : Obj) (hl : w.heap.size ≤ l) (h : W.heap[l]? = some o) (hc : o.isCells = false) (hw : o.isWalk = false) : Kp n0 W (W.putObj l o') :=
  ⟨belowK_b hn W l o o' hl h hc hw, walksK_b (w := w) W l o o' hl h hc hw, fun b cs t fr hb _ _ => (World.putObj_heap_other (fun e => by
    subst e
    rw [h] at hb; cases hb
    cases hc)).trans hb⟩
theorem Kp.cells {n0 : Nat} {W W' : World} (h : Kp n0 W W') {b : Nat} {cs : Array Value} {t : TypeId} {fr : Nat × Nat} (hb : W.heap[b]? = some (.cells cs t fr)) (h1 : t ≠ 40) (h2 : t ≠ 32) : W'.heap[b]? = some (.cells cs t fr) :=
  h.2.2 b cs t fr hb h1 h2

/-- A variable that holds a list of moves in memory of the call's own. -/
def Lst (n0 B : Nat) (W : World) (l : List Mv) : Prop :=
  n0 ≤ B ∧ n0 ≤ W.heap.size ∧ ∃ v, Boxed W B 32 v ∧ W.ownsRow n0 40 4 v l.length (mvCells l)
theorem Lst.below {n0 B : Nat} {W W' : World} {l : List Mv} (h : Lst n0 B W l) (hb : Below W.heap.size W W') : Lst n0 B W' l := by
  obtain ⟨h1, h2, v, hv, ho⟩ := h
  exact ⟨h1, Nat.le_trans h2 hb.size, v, (hb.block B hv.lt).trans hv, own_below ho hb⟩
theorem Lst.alloc {n0 B : Nat} {W : World} {l : List Mv} (h : Lst n0 B W l) (o : Obj) : Lst n0 B (W.alloc o) l := h.below ((Below.refl _ _).alloc (Nat.le_refl _) _)
theorem ownsRow_off {X Y : World} {base : Nat} {e : TypeId} {size : Nat} {v : Value} {n : Nat} {xs : List Value} {row : Option Nat} (h : X.ownsRow base e size v n xs) (hg : X.grownBy Y row)
    (hr : ∀ r, row = some r → ∃ o : Obj, X.heap[r]? = some o ∧ o.isCells = false) : Y.ownsRow base e size v n xs := by
  refine h.kept hg ?_
  rcases h.2 with ⟨rfl, _⟩ | ⟨g, cap, cur, rfl, _, hgb, _⟩
  · exact .inl rfl
  · refine .inr (fun e => ?_)
    obtain ⟨o, ho, hc⟩ := hr g e.symm
    rw [hgb] at ho; cases ho; cases hc
theorem boxed_off {X Y : World} {B : Nat} {t : TypeId} {v : Value} {row : Option Nat} (h : Boxed X B t v) (hg : X.grownBy Y row) (hr : ∀ r, row = some r → ∃ o : Obj, X.heap[r]? = some o ∧ o.isCells = false) : Boxed Y B t v :=
  h.kept hg (fun e => by
    obtain ⟨o, ho, hc⟩ := hr B e.symm
    rw [show X.heap[B]? = _ from h] at ho; cases ho; cases hc)
theorem lit_new2 (W : World) (t : TypeId) (B : Nat) (hB : B = W.heap.size) (news : List Value) (j : Nat) (u : Value) (h : news[j]? = some u) :
    (W.alloc (.cells news.toArray t)).cell? (({ block := B, off := 0 } : Addr).add j) = some u := by
  subst hB
  have e : (({ block := W.heap.size, off := 0 } : Addr).add j) = ⟨W.heap.size, j, none⟩ := by simp only [Addr.add, Nat.zero_add]; split <;> simp_all
  rw [e]
  exact (cell_new W _ t _).trans (by simpa using h)
theorem lst_own {n0 B D : Nat} (f : List Mv → List Mv) : OwnFrom D (fun (pre : List Mv) W => Lst n0 B W (f pre)) := by
  rintro pre X Y row ⟨h1, h2, v, hv, ho⟩ hg hr
  exact ⟨h1, Nat.le_trans h2 hg.size, v, boxed_off hv hg (fun r e => (hr r e).2), ownsRow_off ho hg (fun r e => (hr r e).2)⟩
theorem full_own {β : Type} {n0 D : Nat} {W0 : World} (hn : n0 ≤ W0.heap.size) (hD : W0.heap.size ≤ D) : OwnFrom D (fun (_ : β) W => Full n0 W0 W) := by
  rintro s X Y row h hg hr
  refine ⟨h.below.grown hg (Nat.le_trans hn h.below.size) (fun r e => by have := (hr r e).1; omega), fun b o hb hc => ?_⟩
  have hlt := (Array.getElem?_eq_some_iff.1 hb).1
  exact (hg.block b (Nat.lt_of_lt_of_le hlt h.below.size) (fun e => by have := (hr b e.symm).1; omega)).trans (h.same b o hb hc)

theorem mv_info : (Tryz.prog.info? 40).map (fun i => (i.zero, i.size, i.bytes)) = some (some (.agg #[.int .i64 0, .int .i64 0, .int .u8 0, .int .i64 0]), 4, 32) := by kernel_rfl
theorem alloc_moved {n0 : Nat} {W W' : World} (cs : Array Value) (t : TypeId) (hn : n0 ≤ W.heap.size) (h : Full n0 (W.alloc (.cells cs t)) W') : Full n0 W W' :=
  ((Full.refl n0 W).alloc hn _).trans h
/-- An append leaves all that is calm. -/
theorem full_append {n0 B : Nat} {W w1 : World} {v v' : Value} {k m : Nat} {xs ys : List Value} {tmp : Obj} (hv : Boxed W B 32 v) (hrow : W.ownsRow n0 40 4 v k xs) (hn : n0 ≤ W.heap.size) (hB : n0 ≤ B)
    (hown' : w1.ownsRow n0 40 4 v' m ys) (hgrow : (W.alloc tmp).grownBy w1 v.ownBlock) :
    Boxed w1 B 32 v ∧ Boxed (w1.setCell ⟨B, 0, none⟩ v') B 32 v' ∧ (w1.setCell ⟨B, 0, none⟩ v').ownsRow n0 40 4 v' m ys ∧ Full n0 W (w1.setCell ⟨B, 0, none⟩ v') := by
  obtain ⟨a1, a2, a3, a4, a5⟩ := hv.appended (by decide) hrow hn hB hown' hgrow
  refine ⟨a1, a2, a3, a5, fun b o hb hc => ?_⟩
  rcases hc with hc | ⟨cs, t, fr, rfl, h1, h2⟩
  · exact a4.same b o hb hc
  · have hlt := (Array.getElem?_eq_some_iff.1 hb).1
    have hbB : b ≠ B := fun e => by
      subst e
      have : W.heap[b]? = some (.cells #[v] 32 (0, 0)) := hv
      rw [hb] at this
      injection this with this
      injection this with _ q _
      exact h2 q
    have hrow2 : (W.alloc tmp).ownsRow n0 40 4 v k xs := hrow.alloc tmp
    have hstep : w1.heap[b]? = some (.cells cs t fr) := by
      refine (hgrow.block b (by rw [alloc_sz2]; omega) (fun e => ?_)).trans ((Below.heap_alloc W tmp b hlt).trans hb)
      rcases hrow.2 with ⟨rfl, _⟩ | ⟨g, cap, cur, rfl, _, hgb, _⟩
      · cases e
      · injection e with e
        have e2 : g = b := e.symm
        subst e2
        rw [hb] at hgb
        injection hgb with hgb
        injection hgb with _ q _
        exact h1 q
    have := (grownBy_setCell' w1 B v').block b (Array.getElem?_eq_some_iff.1 hstep).1 (fun e => hbB (by injection e))
    exact this.trans hstep

set_option maxRecDepth 100000 in
set_option maxHeartbeats 1000000 in
/-- The closure that appends. -/
theorem push_any (n0 B : Nat) (m : Mv) (l : List Mv) (W : World) (h : Lst n0 B W l) (hl : l.length ≤ 1000000) :
    Calls Tryz.prog 110 #[mvV m, .pointer (some ⟨B, 0, none⟩)] W fun e W' => e = .returned (.bool true) ∧ Lst n0 B W' (l ++ [m]) ∧ Full n0 W W' := by
  obtain ⟨hB, hn, v, hv, hrow⟩ := h
  obtain ⟨A, cap, rfl⟩ := own_slice hrow
  obtain ⟨i0, hi, hz0, hz1, hz2⟩ := info_parts mv_info
  have hF0 : Full n0 W (W.alloc (.cells #[.int .i64 m.id, .int .i64 m.arg, .int .u8 (m.kind : Int), .int .i64 m.n] 40)) := (Full.refl n0 W).alloc hn _
  have hv1 := hv.alloc (.cells #[.int .i64 m.id, .int .i64 m.arg, .int .u8 (m.kind : Int), .int .i64 m.n] 40)
  have hr1 := hrow.alloc (.cells #[.int .i64 m.id, .int .i64 m.arg, .int .u8 (m.kind : Int), .int .i64 m.n] 40)
  have cv := hv.cell
  have fv := hv.frozen
  have hlt := hv.lt
  unfold mvV
  go_enter Tryz.func110, Tryz.ntmps110
  go_wp2_with (at_builtin; refine wpList_append_own _ rfl _ _ 32 rfl n0 40 i0 _ 4 32 Tryz.underlying32 hi hz0 hz1 hz2 rfl (by decide) _ _ _ rfl (hr1.alloc _) ⟨W.heap.size + 1, 0, none⟩ 1 1 [.int .i64 m.id, .int .i64 m.arg, .int .u8 (m.kind : Int), .int .i64 m.n] rfl rfl (lit_new2 _ _ _ (by simp) _) (fun u hu => by simp at hu; rcases hu with rfl | rfl | rfl | rfl <;> rfl) (by unfold maxLen; omega) (by omega) (by simp; omega) ?_; intro v' w2 hown' hgrow _; obtain ⟨g', cap', rfl⟩ := row_succ hown'; obtain ⟨q1, q2, q3, q4⟩ := full_append hv1 hr1 (by rw [alloc_sz2]; omega) hB hown' hgrow; have hc1 := q1.cell; have hf1 := q1.frozen)
  go_ret
  refine ⟨rfl, ⟨hB, Nat.le_trans (by rw [alloc_sz2]; omega) q4.below.size, _, q2, ?_⟩, hF0.trans q4⟩
  · rw [mvCells_append, mvCells_one, List.length_append]; exact q3

end Go.Proofs.YtoncdnelacolaaaGreatDoor.Ar
