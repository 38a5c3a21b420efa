/- A range over a function value of whatever form (a method bound to its receiver among them): what the caller owes, and what it may go on from. -/
import Derived.RangeFuncNested
import Derived.RangeFuncKeeps
namespace Go.Proofs.YtoncdnelacolaaaGreatDoor.Ar
open Go Go.Proofs Go.RowKit
variable {P : Program} {F : Fence} {n : Nat}

/-- What a caller's word abides: new blocks, and a turn of what the iterator may turn (Al) from a block on. -/
def AbidesAl {β : Type} (Al : Obj → Prop) (B : Nat) (J : β → World → Prop) : Prop :=
  ∀ s X Y row, J s X → X.grownBy Y row → (∀ r, row = some r → B ≤ r ∧ ∃ o : Obj, X.heap[r]? = some o ∧ Al o) → J s Y
def WalkO (o : Obj) : Prop := o.isWalk = true
theorem abidesAl_walk {β : Type} {B : Nat} {J : β → World → Prop} : AbidesAl WalkO B J ↔ AbidesFrom B J := Iff.rfl
theorem abidesAl_of_own {β : Type} {B : Nat} {I : β → World → Prop} (h : OwnFrom B I) : AbidesAl WalkO B I := fun s X Y row hs hg hr => h s X Y row hs hg (fun r e => by
  obtain ⟨hB, o, ho, hw⟩ := hr r e
  exact ⟨hB, o, ho, Obj.not_cells_of_walk hw⟩)
theorem AbidesAl.up {β : Type} {Al : Obj → Prop} {J : β → World → Prop} {B B' : Nat} (h : AbidesAl Al B J) (hB : B ≤ B') : AbidesAl Al B' J := fun s X Y row hs hg hr => h s X Y row hs hg (fun r e => ⟨Nat.le_trans hB (hr r e).1, (hr r e).2⟩)

/-- What an iterator promises, wherever its yield stands among what it is handed. -/
def SeqAt {α : Type} (Al : Obj → Prop) (F : Fence) (n : Nat) (P : Program) (g : Nat) (hand : Value → Array Value) (encs : α → Array Value) (Kp : World → World → Prop) (S Sp : List α → Prop) (Rn : List α → α → Prop) (w : World) : Prop :=
  ∀ (l : Nat) (J Jx : List α → World → Prop) (W : World), Below w.heap.size w W → AbidesAl Al W.heap.size J → AbidesAl Al W.heap.size Jx →
    (∀ pre x V, J pre V → Rn pre x → YieldAt F (n - 1) P l (encs x) V fun e V' => (e = .returned (.bool true) ∧ J (pre ++ [x]) V' ∧ Kp V V' ∧ KeepsFrom W.heap.size V V') ∨ (e = .returned (.bool false) ∧ Jx (pre ++ [x]) V' ∧ KeepsFrom W.heap.size V V')) →
    J [] W → CallsIn F n P g (hand (.func (.yield l) #[] #[])) W fun e W' => (∃ v, e = .returned v) ∧ ((∃ xs, S xs ∧ J xs W') ∨ (∃ pre, Sp pre ∧ Jx pre W'))

/-- How the value that is ranged over is called with a yield. -/
def Hands (P : Program) (F : Fence) (a : Act) (g : Operand) (gf : Nat) (hand : Value → Array Value) : Prop :=
  ∀ (l : Nat) (W : World), ∃ d, (resolve a.eval (rangeCall g l) 0).run P W = .ok d W ∧ (∀ f', Target.leads P W d.target d.args = some f' → F.fn f') ∧
    (invoke d.target d.args).run P W = .ok (.enter gf (hand (.func (.yield l) #[] #[]))) W

theorem hands_bound {a : Act} {g : Operand} {gf : Nat} {bd : Array Value} (hg : a.eval g = .func (.func gf) bd #[]) (hF : F.fn gf) (eg : ∀ args w, (callFunc gf args).run P w = .ok (.enter gf args) w) :
    Hands P F a g gf (fun y => bd ++ #[y]) := fun l W => by
  refine ⟨{ target := .fn (.func gf) #[], args := bd ++ #[.func (.yield l) #[] #[]] }, ?_, ?_, ?_⟩
  · simp only [resolve, hg]
    simp [go_sem]
  · intro f' h
    simp [Target.leads] at h
    subst h
    exact hF
  · simp [invoke, go_sem, eg]
theorem hands_plain {a : Act} {g : Operand} {gf : Nat} {lb : Array Value} (hg : a.eval g = .func (.func gf) #[] lb) (hF : F.fn gf) (eg : ∀ args w, (callFunc gf args).run P w = .ok (.enter gf args) w) :
    Hands P F a g gf (fun y => #[y] ++ lb) := fun l W => by
  refine ⟨{ target := .fn (.func gf) lb, args := #[.func (.yield l) #[] #[]] }, ?_, ?_, ?_⟩
  · simp only [resolve, hg]
    simp [go_sem]
  · intro f' h
    simp [Target.leads] at h
    subst h
    exact hF
  · simp [invoke, go_sem, eg]
theorem keeps_putObj {B l : Nat} {W : World} (o : Obj) (h : l < B) : KeepsFrom B W (W.putObj l o) :=
  ⟨by simp [World.putObj], fun k _ hk ho _ => (World.putObj_heap_other (by omega)).trans ho⟩
theorem kf_up {B B' : Nat} {W W' : World} (h : KeepsFrom B W W') (hB : B ≤ B') : KeepsFrom B' W W' := ⟨h.size, fun k o hk ho hc => h.same k o (Nat.le_trans hB hk) ho hc⟩

section law
variable {α : Type} {g : Operand} {ps : Array Tmp} {assign body : Code} {Q : Exit → Act → World → Prop} {a : Act} {w : World} {gf : Nat} {hand : Value → Array Value}
  {encs : α → Array Value} {Kp : World → World → Prop} {S Sp : List α → Prop} {Rn : List α → α → Prop} {w0 : World} {I : List α → World → Prop} {Ix : Code → List α → World → Prop} {Ax : α → Act → World → Prop}

/-- The record of a loop as the rounds leave it. -/
def recOf (fn : Nat) (a : Act) (ps : Array Tmp) (assign body : Code) (D : Nat) (st : LoopState) (pe : Option Code) : Loop := { state := st, pending := pe, fn := fn, tmps := a.tmps, params := ps, assign := assign, body := body, defers := D }

/-- The two blocks of book-keeping, and what the caller keeps. -/
def Book (fn : Nat) (a : Act) (ps : Array Tmp) (assign body : Code) (D : Nat) (st : LoopState) (pe : Option Code) (W : World) : Prop :=
  W.heap[D + 1]? = some (.loop (recOf fn a ps assign body D st pe)) ∧ W.heap[D]? = some (.deferred (some []))

theorem Book.keeps {fn D : Nat} {st : LoopState} {pe : Option Code} {W W' : World} (h : Book fn a ps assign body D st pe W) (hk : KeepsFrom D W W') : Book fn a ps assign body D st pe W' :=
  ⟨hk.same _ _ (Nat.le_succ _) h.1 rfl, hk.same _ _ (Nat.le_refl _) h.2 rfl⟩
theorem Book.grown {fn D : Nat} {st : LoopState} {pe : Option Code} {W W' : World} {row : Option Nat} (h : Book fn a ps assign body D st pe W) (hg : W.grownBy W' row) (hr : ∀ r, row = some r → D + 2 ≤ r) : Book fn a ps assign body D st pe W' :=
  ⟨(hg.block _ (Array.getElem?_eq_some_iff.1 h.1).1 (fun e => by have := hr _ e.symm; omega)).trans h.1, (hg.block _ (Array.getElem?_eq_some_iff.1 h.2).1 (fun e => by have := hr _ e.symm; omega)).trans h.2⟩
theorem Book.turn {fn D : Nat} {st st' : LoopState} {pe pe' : Option Code} {W : World} (h : Book fn a ps assign body D st pe W) :
    Book fn a ps assign body D st' pe' (W.putObj (D + 1) (.loop (recOf fn a ps assign body D st' pe'))) :=
  ⟨World.putObj_heap_same (Array.getElem?_eq_some_iff.1 h.1).1, (World.putObj_heap_other (by omega)).trans h.2⟩

/-- One round. -/
theorem round_at (hI : OwnFrom w.heap.size I) (hIx : ∀ c, OwnFrom w.heap.size (Ix c)) (hAx : ∀ x a', OwnFrom w.heap.size (fun (_ : Unit) W => Ax x a' W))
    (hKt : ∀ {A B C : World}, Kp A B → Kp B C → Kp A C) (hKb : ∀ (W : World) (l : Nat) (o o' : Obj), w.heap.size ≤ l → W.heap[l]? = some o → o.isCells = false → o.isWalk = false → Kp W (W.putObj l o')) (hps : ∀ x, (encs x).size = ps.size)
    (hassign : ∀ (l : Nat) (pre : List α) (x : α) (W : World) (K : Act → World → Prop), I pre W → (∀ a' W', KeepsFrom w.heap.size W W' → Kp W W' → I pre W' → Ax x a' W' → K a' W') →
      assign.wpIn (F.inRound l) (n - 1 - 1) P (Exit.then K (fun _ _ _ => False)) { tmps := (ps.zip (encs x)).foldl (fun t (p, v) => t.setIfInBounds p v) a.tmps, defers := [] } W)
    (hbody : ∀ (l : Nat) (pre : List α) (x : α) (a' : Act) (W : World), w.heap.size ≤ l → (∃ r, W.heap[l]? = some (.loop r)) → I pre W → Ax x a' W → Rn pre x → body.wpIn (F.inRound l) (n - 1 - 1) P (ownPostG w.heap.size Kp I Ix (pre ++ [x]) W) a' W)
    {fn : Nat} (hfn : F.fn fn) (pre : List α) (x : α) (V : World) (hi : I pre V) (hbk : Book fn a ps assign body w.heap.size .ready none V) (hlen : Rn pre x) :
    YieldAt F (n - 1 - 1) P (w.heap.size + 1) (encs x) V fun e V' =>
      (e = .returned (.bool true) ∧ (I (pre ++ [x]) V' ∧ Book fn a ps assign body w.heap.size .ready none V') ∧ Kp V V' ∧ KeepsFrom (w.heap.size + 2) V V') ∨
      (e = .returned (.bool false) ∧ (∃ c, Ix c (pre ++ [x]) V' ∧ Book fn a ps assign body w.heap.size .done (some c) V') ∧ KeepsFrom (w.heap.size + 2) V V') := by
  refine ⟨fn, _, assign, body, run_yield (P := P) (args := encs x) hbk.1 (hps x), roundIn_of_wpIn hfn (hassign _ pre x V _ hi ?_)⟩
  intro a1 V1 hk1 hp1 hi1 hax
  have hb1 := hbk.keeps hk1
  refine ⟨_, run_beginRound hb1.1 rfl, ?_⟩
  have hb2 : Book fn a ps assign body w.heap.size .busy none (V1.putObj (w.heap.size + 1) (.loop (recOf fn a ps assign body w.heap.size .busy none))) := hb1.turn
  have hp2 := hKb V1 (w.heap.size + 1) _ (.loop (recOf fn a ps assign body w.heap.size .busy none)) (Nat.le_succ _) hb1.1 rfl rfl
  refine wpIn_mono (hbody _ pre x a1 _ (Nat.le_succ _) ⟨_, hb2.1⟩ (hI.putObj _ hi1 (Nat.le_succ _) hb1.1 rfl) ((hAx x a1).putObj (s := ()) _ hax (Nat.le_succ _) hb1.1 rfl) hlen) ?_
  have leave : ∀ (c : Code) (V3 : World), KeepsFrom w.heap.size (V1.putObj (w.heap.size + 1) (.loop (recOf fn a ps assign body w.heap.size .busy none))) V3 → Ix c (pre ++ [x]) V3 →
      ∃ ok w', (Instr.endRound (w.heap.size + 1) (some c)).run P V3 = .ok ok w' ∧ ok = .bool false ∧ (∃ c, Ix c (pre ++ [x]) w' ∧ Book fn a ps assign body w.heap.size .done (some c) w') ∧ KeepsFrom (w.heap.size + 2) V w' := by
    intro c V3 hk3 hx
    have hb3 := hb2.keeps hk3
    exact ⟨_, _, run_endRound (P := P) (some c) hb3.1, rfl, ⟨c, (hIx c).putObj _ hx (Nat.le_succ _) hb3.1 rfl, hb3.turn⟩, (kf_up (B' := w.heap.size + 2) hk1 (by omega)).trans ((keeps_putObj (B := w.heap.size + 2) _ (by omega)).trans ((kf_up (B' := w.heap.size + 2) hk3 (by omega)).trans (keeps_putObj (B := w.heap.size + 2) _ (by omega))))⟩
  rintro e a3 V3 hp
  cases e with
  | normal =>
    obtain ⟨hk3, hp3, hi3⟩ := hp
    have hb3 := hb2.keeps hk3
    exact ⟨_, _, run_endRound (P := P) none hb3.1, .inl ⟨rfl, ⟨hI.putObj _ hi3 (Nat.le_succ _) hb3.1 rfl, hb3.turn⟩, hKt hp1 (hKt (hKt hp2 hp3) (hKb _ _ _ _ (Nat.le_succ _) hb3.1 rfl rfl)), (kf_up (B' := w.heap.size + 2) hk1 (by omega)).trans ((keeps_putObj (B := w.heap.size + 2) _ (by omega)).trans ((kf_up (B' := w.heap.size + 2) hk3 (by omega)).trans (keeps_putObj (B := w.heap.size + 2) _ (by omega))))⟩⟩
  | ret =>
    obtain ⟨_, _, hr, rfl, h⟩ := leave _ V3 hp.1 hp.2
    exact ⟨_, _, hr, .inr ⟨rfl, h⟩⟩
  | exit id =>
    obtain ⟨_, _, hr, rfl, h⟩ := leave _ V3 hp.1 hp.2
    exact ⟨_, _, hr, .inr ⟨rfl, h⟩⟩
  | goto t =>
    obtain ⟨_, _, hr, rfl, h⟩ := leave _ V3 hp.1 hp.2
    exact ⟨_, _, hr, .inr ⟨rfl, h⟩⟩
  | panic ch => exact hp.elim
  | outgrown => exact hp.elim

/-- The statement. -/
theorem range_at {Al : Obj → Prop} (hro : F.round = none) (h1 : 1 ≤ n) (hh : Hands P F a g gf hand) (hseq : SeqAt Al F (n - 1) P gf hand encs Kp S Sp Rn w0)
    (hKt : ∀ {A B C : World}, Kp A B → Kp B C → Kp A C) (hKb : ∀ (W : World) (l : Nat) (o o' : Obj), w.heap.size ≤ l → W.heap[l]? = some o → o.isCells = false → o.isWalk = false → Kp W (W.putObj l o'))
    (hb0 : Below w0.heap.size w0 w) (hps : ∀ x, (encs x).size = ps.size)
    (I : List α → World → Prop) (Ix : Code → List α → World → Prop) (hI : OwnFrom w.heap.size I) (hIx : ∀ c, OwnFrom w.heap.size (Ix c)) (hIA : AbidesAl Al w.heap.size I) (hIxA : ∀ c, AbidesAl Al w.heap.size (Ix c)) (h0 : I [] w) (Ax : α → Act → World → Prop) (hAx : ∀ x a', OwnFrom w.heap.size (fun (_ : Unit) W => Ax x a' W))
    (hassign : ∀ (l : Nat) (pre : List α) (x : α) (W : World) (K : Act → World → Prop), I pre W → (∀ a' W', KeepsFrom w.heap.size W W' → Kp W W' → I pre W' → Ax x a' W' → K a' W') →
      assign.wpIn (F.inRound l) (n - 1 - 1) P (Exit.then K (fun _ _ _ => False)) { tmps := (ps.zip (encs x)).foldl (fun t (p, v) => t.setIfInBounds p v) a.tmps, defers := [] } W)
    (hbody : ∀ (l : Nat) (pre : List α) (x : α) (a' : Act) (W : World), w.heap.size ≤ l → (∃ r, W.heap[l]? = some (.loop r)) → I pre W → Ax x a' W → Rn pre x → body.wpIn (F.inRound l) (n - 1 - 1) P (ownPostG w.heap.size Kp I Ix (pre ++ [x]) W) a' W)
    (hdone : ∀ (D : Nat) (xs : List α) (W : World), w.heap.size ≤ D → S xs → I xs W → W.heap[D]? = some (.deferred (some [])) → Q .normal { a with defers := { target := .collected D, args := #[] } :: a.defers } W)
    (hstop : ∀ (D : Nat) (c : Code) (pre : List α) (W : World), w.heap.size ≤ D → Sp pre → Ix c pre W → W.heap[D]? = some (.deferred (some [])) → c.wpIn F n P Q { a with defers := { target := .collected D, args := #[] } :: a.defers } W) :
    (Code.rangeFunc g ps assign body).wpIn F n P Q a w := by
  refine wpIn_rangeFunc fun fn hfn => ?_
  rw [hro]
  have hb1 : Book fn a ps assign body w.heap.size .ready none ((w.alloc (.deferred (some []))).alloc (.loop (recOf fn a ps assign body w.heap.size .ready none))) := by
    refine ⟨?_, (Below.heap_alloc _ _ _ (by simp)).trans (World.alloc_heap_new w _)⟩
    have := World.alloc_heap_new (w.alloc (.deferred (some []))) (.loop (recOf fn a ps assign body w.heap.size .ready none))
    rwa [World.size_alloc] at this
  have hbl : Below w.heap.size w ((w.alloc (.deferred (some []))).alloc (.loop (recOf fn a ps assign body w.heap.size .ready none))) := ((Below.refl _ w).alloc (Nat.le_refl _) _).alloc (by simp) _
  have hi1 : I [] ((w.alloc (.deferred (some []))).alloc (.loop (recOf fn a ps assign body w.heap.size .ready none))) := hI.alloc _ (hI.alloc _ h0)
  have hz2 : ((w.alloc (.deferred (some []))).alloc (.loop (recOf fn a ps assign body w.heap.size .ready none))).heap.size = w.heap.size + 2 := by simp
  have hrun := run_enterLoop_outer (P := P) (w := w) fn a.tmps ps assign body
  obtain ⟨W1, hW1⟩ : ∃ W1, (w.alloc (.deferred (some []))).alloc (.loop (recOf fn a ps assign body w.heap.size .ready none)) = W1 := ⟨_, rfl⟩
  rw [hW1] at hb1 hbl hi1 hz2
  obtain ⟨d, hd1, hd2, hd3⟩ := hh (w.heap.size + 1) W1
  refine ⟨w.heap.size + 1, [{ target := .collected w.heap.size, args := #[] }], W1, d, W1, gf, _, W1, by rw [← hW1]; exact hrun, hd1, hd2, hd3, fun _ => h1, ?_⟩
  have hz1 : w.heap.size + 2 ≤ W1.heap.size := (Array.getElem?_eq_some_iff.1 hb1.1).1
  have up : ∀ {A : World} {row : Option Nat}, (∀ r, row = some r → W1.heap.size ≤ r ∧ ∃ o : Obj, A.heap[r]? = some o ∧ Al o) → ∀ r, row = some r → w.heap.size ≤ r ∧ ∃ o : Obj, A.heap[r]? = some o ∧ Al o :=
    fun hr r e => ⟨Nat.le_trans hbl.size (hr r e).1, (hr r e).2⟩
  refine (hseq (w.heap.size + 1) (fun pre W => I pre W ∧ Book fn a ps assign body w.heap.size .ready none W) (fun pre W => ∃ c, Ix c pre W ∧ Book fn a ps assign body w.heap.size .done (some c) W)
    W1 (hb0.trans (hbl.mono hb0.size)) (fun s A B row hs hg hr => ⟨hIA s A B row hs.1 hg (up hr), hs.2.grown hg (fun r e => Nat.le_trans hz1 (hr r e).1)⟩)
    (fun s A B row hs hg hr => by
      obtain ⟨c, hc, hk⟩ := hs
      exact ⟨c, hIxA c s A B row hc hg (up hr), hk.grown hg (fun r e => Nat.le_trans hz1 (hr r e).1)⟩)
    (fun pre x V hv hlen => by
      rw [hz2]
      exact round_at (P := P) (F := F) (n := n) (Kp := Kp) (Rn := Rn) hI hIx hAx hKt hKb hps hassign hbody hfn pre x V hv.1 hv.2 hlen) ⟨hi1, hb1⟩).mono ?_
  rintro e W2 ⟨⟨v, rfl⟩, (⟨xs, hS, hi, hbk⟩ | ⟨pre, hSp, c, hi, hbk⟩)⟩
  · exact ⟨none, _, run_endLoop (P := P) hbk.1 (by simp [recOf]), hdone _ xs _ (Nat.le_refl _) hS (hI.putObj _ hi (Nat.le_succ _) hbk.1 rfl) ((World.putObj_heap_other (by omega)).trans hbk.2)⟩
  · exact ⟨some c, _, run_endLoop (P := P) hbk.1 (by simp [recOf]), hstop _ c pre _ (Nat.le_refl _) hSp ((hIx c).putObj _ hi (Nat.le_succ _) hbk.1 rfl) ((World.putObj_heap_other (by omega)).trans hbk.2)⟩
end law

end Go.Proofs.YtoncdnelacolaaaGreatDoor.Ar
