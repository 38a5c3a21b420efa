/- lex.Pairs at right tokens. -/
import Derived.Test.YthjnoboceibjjaaGreatDoorSpecP
import Derived.Test.YthjnoboceibjjaaGreatDoorWalkAO
import Derived.Test.YthjnoboceibjjaaGreatDoorWalkAH
import Derived.Test.YthjnoboceibjjaaGreatDoorWalkBL
import Derived.Laws.OwnMore
import Derived.WalkSmall
import Derived.BigRegion
import Derived.Deep.QuietTactic
import Derived.BigQuiet
namespace Go.Proofs.YthjnoboceibjjaaGreatDoor.Lx
open Go Go.Proofs Go.RowKit Go.Shelf

theorem intT_info : (Tryz.prog.info? 3).map (fun i => (i.zero, i.size, i.bytes)) = some (some (.int .i64 0), 1, 8) := by kernel_rfl
def inVals (o : List Int) : List Value := o.map (Value.int .i64)
def natVals (s : List Nat) : List Value := s.map fun (n : Nat) => Value.int .i64 (n : Int)
theorem inVals_len (o : List Int) : (inVals o).length = o.length := List.length_map _
theorem natVals_snoc (s : List Nat) (k : Nat) : natVals (s ++ [k]) = natVals s ++ [.int .i64 (k : Int)] := by simp [natVals]
theorem inVals_snoc (s : List Int) (k : Int) : inVals (s ++ [k]) = inVals s ++ [.int .i64 k] := by simp [inVals]
theorem inVals_app (a b : List Int) : inVals (a ++ b) = inVals a ++ inVals b := List.map_append ..
theorem inVals_set (o : List Int) (k : Nat) (a : Int) : inVals (o.set k a) = (inVals o).set k (.int .i64 a) := List.map_set ..
theorem row_step {o : List Int} {n k : Nat} (hk : o.length = k) (hlt : k < n) (a : Int) : (inVals (o ++ List.replicate (n - k) 0)).set k (.int .i64 a) = inVals ((o ++ [a]) ++ List.replicate (n - (k + 1)) 0) := by
  obtain ⟨m, hm⟩ : ∃ m, n - k = m + 1 := ⟨n - k - 1, by omega⟩
  rw [hm, show n - (k + 1) = m by omega, List.replicate_succ]
  unfold inVals
  rw [List.map_append, List.set_append_right _ _ (by rw [List.length_map]; omega), List.length_map, hk, Nat.sub_self]
  simp
theorem row_fit {o : List Int} {n k t : Nat} (hk : o.length = k) (hlt : k < n) (ht : t < k) : ((inVals (o ++ List.replicate (n - k) 0)).set k (.int .i64 (t : Int))).set t (.int .i64 (k : Int)) = inVals (((o ++ [(t : Int)]).set t (k : Int)) ++ List.replicate (n - (k + 1)) 0) := by
  rw [row_step hk hlt, inVals_app, List.set_append_left _ _ (by simp [inVals]; omega), ← inVals_set, ← inVals_app]
theorem set_twice {l : List Value} {k : Nat} (a b : Value) : (l.set k a).set k b = l.set k b := by simp
theorem SlIn.of_own {W : World} {base : Nat} {v : Value} {l : List Int} (h : W.ownsRow base 3 1 v l.length (inVals l)) : SlIn W v l := by
  have hown := h
  rcases h.2 with ⟨rfl, h0⟩ | ⟨g, cap, cur, rfl, _, hgb, _⟩
  · exact ⟨none, 0, by rw [h0], fun h1 => absurd h1 (by omega)⟩
  refine ⟨_, cap, rfl, fun h0 => ⟨g, 0, rfl, (Array.getElem?_eq_some_iff.1 hgb).1, fun i n hi => ?_⟩⟩
  rw [Nat.zero_add, hown.cellAt i (by have := (List.getElem?_eq_some_iff.1 hi).1; omega)]
  unfold inVals
  rw [List.getElem?_map, hi]; rfl
theorem own_set {W : World} {base : Nat} {e : TypeId} {size n : Nat} {v u : Value} {xs : List Value} {a : Addr} (h : W.ownsRow base e size v n xs) (ha : v.ownBlock = none ∨ v.ownBlock ≠ some a.block) : (W.setCell a u).ownsRow base e size v n xs :=
  h.kept (row := some a.block) ⟨rfl, rfl, rfl, by simp, fun k _ hk => heap_setCell_other W a k u (fun e => hk (by simp [e]))⟩ ha
theorem apart_ne {v : Value} {g n c : Nat} (h : Apart v (.slice (some ⟨g, 0, none⟩) n c)) : v.ownBlock = none ∨ v.ownBlock ≠ some g := h

def PairsP (w : World) (l : List Tk) (e : Ending) (w' : World) : Prop :=
  ∃ u, e = .returned (.tuple #[u, .int .i64 ((pairsOf l).2.1 : Int), .int .i64 ((pairsOf l).2.2 : Int)]) ∧ SlIn w' u (pairsOf l).1 ∧ Below w.heap.size w w'
theorem PairsP.bad {w w' : World} {l : List Tk} {a c : Nat} (h : pairsOf l = ([], a, c)) (hb : Below w.heap.size w w') : PairsP w l (.returned (.tuple #[.slice none 0 0, .int .i64 (a : Int), .int .i64 (c : Int)])) w' := by
  refine ⟨.slice none 0 0, by rw [h], ?_, hb⟩
  rw [h]
  exact ⟨none, 0, rfl, fun h0 => absurd h0 (by simp)⟩
theorem PairsP.good {w w' : World} {l : List Tk} {o : List Int} {base n : Nat} {v : Value} (h : pairsOf l = (o, 0, 0)) (hn : n = o.length) (hown : w'.ownsRow base 3 1 v n (inVals o)) (hb : Below w.heap.size w w') : PairsP w l (.returned (.tuple #[v, .int .i64 0, .int .i64 0])) w' := by
  subst hn
  refine ⟨v, by rw [h]; rfl, ?_, hb⟩
  rw [h]
  exact SlIn.of_own hown

theorem pairs_bad (v : Value) (l : List Tk) (w : World) (ha : SlTw w v l) (hl : l.length ≤ 100000) (ht : ∀ x ∈ l, x.text.size ≤ 100000) (hG : Gl w) (h0 : toksErr l ≠ 0) :
    Calls Tryz.prog 8 #[v] w (PairsP w l) := by
  have hte := tokensError_any v l w ha hl ht hG
  have Hf := Lib.hid (show pairsOf l = ([], 0, toksErr l) from if_pos h0)
  generalize toksErr l = te at *
  have ht3 : ((te : Int) != 0) = true := by simp; omega
  have Hte := Lib.hid hte
  obtain ⟨A, ca, rfl, _⟩ := ha
  clear hte h0
  go_enter Tryz.func8, Tryz.ntmps8
  go_wp2_with (go_at_call 16; refine Hte.out.mono ?_; rintro e w1 ⟨rfl, hb1⟩)
  go_ret3
  exact PairsP.bad Hf.out hb1

theorem opener_r (x : ByteArray) (w : World) (h : x.toList = [41]) : Calls Tryz.prog 24 #[.string x] w fun e w' => e = .returned (.string ⟨#[40]⟩) ∧ w' = w := by
  have q : (x.toList == [41]) = true := by rw [h]; rfl
  clear h
  go_enter Tryz.func24, Tryz.ntmps24
  go_wp2
  go_ret
  exact ⟨rfl, rfl⟩
theorem opener_c (x : ByteArray) (w : World) (h : x.toList ≠ [41]) : Calls Tryz.prog 24 #[.string x] w fun e w' => e = .returned (.string ⟨#[123]⟩) ∧ w' = w := by
  have q : (x.toList == [41]) = false := by simp [h]
  clear h
  go_enter Tryz.func24, Tryz.ntmps24
  go_wp2
  go_ret
  exact ⟨rfl, rfl⟩

/-- What a text may be, as the walk tests it. -/
theorem five (x : Tk) : (opB x = true ∧ ((x.text.toList == [40]) = true ∨ ((x.text.toList == [40]) = false ∧ (x.text.toList == [123]) = true))) ∨
    (opB x = false ∧ clB x = true ∧ (x.text.toList == [40]) = false ∧ (x.text.toList == [123]) = false ∧ (((x.text.toList == [41]) = true ∧ x.text.toList = [41]) ∨ ((x.text.toList == [41]) = false ∧ (x.text.toList == [125]) = true ∧ x.text.toList = [125]))) ∨
    (opB x = false ∧ clB x = false ∧ (x.text.toList == [40]) = false ∧ (x.text.toList == [123]) = false ∧ (x.text.toList == [41]) = false ∧ (x.text.toList == [125]) = false) := by
  unfold opB clB
  by_cases h1 : x.text.toList = [40]
  · exact .inl ⟨by simp [h1], .inl (by rw [h1]; rfl)⟩
  by_cases h2 : x.text.toList = [123]
  · exact .inl ⟨by simp [h2], .inr ⟨by rw [h2]; rfl, by rw [h2]; rfl⟩⟩
  by_cases h3 : x.text.toList = [41]
  · exact .inr (.inl ⟨by simp [h3], by simp [h3], by rw [h3]; rfl, by rw [h3]; rfl, .inl ⟨by rw [h3]; rfl, h3⟩⟩)
  by_cases h4 : x.text.toList = [125]
  · exact .inr (.inl ⟨by simp [h4], by simp [h4], by rw [h4]; rfl, by rw [h4]; rfl, .inr ⟨by rw [h4]; rfl, by rw [h4]; rfl, h4⟩⟩)
  exact .inr (.inr ⟨by simp [h1, h2], by simp [h3, h4], by simp [h1], by simp [h2], by simp [h3], by simp [h4]⟩)
theorem fit_r {x y : Tk} (hx : x.text.toList = [41]) : fitB y x = (y.text.toList == [40]) := by
  unfold fitB
  rw [hx]
  by_cases h : y.text.toList = [40]
  · rw [h]; rfl
  · simp [h]
theorem fit_c {x y : Tk} (hx : x.text.toList = [125]) : fitB y x = (y.text.toList == [123]) := by
  unfold fitB
  rw [hx]
  by_cases h : y.text.toList = [123]
  · rw [h]; rfl
  · simp [h]

end Go.Proofs.YthjnoboceibjjaaGreatDoor.Lx

namespace Go.Proofs.YthjnoboceibjjaaGreatDoor.Lx
open Go Go.Proofs Go.RowKit Go.Shelf

/-- What holds at the head of each round. -/
def PairsAt (w : World) (B : Nat) (l : List Tk) (k : Nat) (o : List Int) (s : List Nat) (u : Value) (wr : World) : Prop :=
  o.length = k ∧ s.length ≤ k ∧ OpenAt l k s ∧ pgo l l 0 [] [] = pgo l (l.drop k) k o s ∧
  wr.ownsRow B 3 1 (.slice (some ⟨B, 0, none⟩) l.length l.length) l.length (inVals (o ++ List.replicate (l.length - k) 0)) ∧
  wr.ownsRow B 3 1 u s.length (natVals s) ∧ Apart u (.slice (some ⟨B, 0, none⟩) l.length l.length) ∧ B < wr.heap.size ∧ Below w.heap.size w wr

theorem PairsAt.start {w w1 w2 : World} {l : List Tk} (hb1 : Below w.heap.size w w1) (hown : w2.ownsRow w1.heap.size 3 1 (.slice (some ⟨w1.heap.size, 0, none⟩) l.length l.length) l.length (List.replicate l.length (.int .i64 0))) (hg : w1.grownBy w2 none) :
    PairsAt w w1.heap.size l 0 [] [] (.slice none 0 0) w2 := by
  refine ⟨rfl, Nat.le_refl _, (fun t h => by cases h), rfl, ?_, World.ownsRow_nil _ _ _ _, .inl rfl, (World.ownsRow.lt hown _ rfl).2, hb1.grown hg hb1.size (fun k hk => by cases hk)⟩
  rw [List.nil_append, Nat.sub_zero, show inVals (List.replicate l.length 0) = List.replicate l.length (.int .i64 0) by simp [inVals]]
  exact hown

/-- Behind the box of the token and the first store. -/
theorem PairsAt.stored {w wr : World} {B k : Nat} {l : List Tk} {o : List Int} {s : List Nat} {u : Value} (h : PairsAt w B l k o s u wr) (hw : w.heap.size ≤ B) (hlt : k < l.length) (ob : Obj) (a : Int) :
    ((wr.setCell ⟨B, k, none⟩ (.int .i64 a)).alloc ob).ownsRow B 3 1 (.slice (some ⟨B, 0, none⟩) l.length l.length) l.length (inVals ((o ++ [a]) ++ List.replicate (l.length - (k + 1)) 0)) ∧
    ((wr.setCell ⟨B, k, none⟩ (.int .i64 a)).alloc ob).ownsRow B 3 1 u s.length (natVals s) ∧ Below w.heap.size w ((wr.setCell ⟨B, k, none⟩ (.int .i64 a)).alloc ob) := by
  obtain ⟨h1, _, _, _, h5, h6, h7, h8, h9⟩ := h
  have e := (World.ownsRow.stored h5 k (.int .i64 a)).1
  rw [row_step h1 hlt] at e
  have hb := h9.setCell (p := ⟨B, k, none⟩) hw (.int .i64 a)
  exact ⟨e.alloc ob, (own_set h6 (apart_ne h7)).alloc ob, hb.alloc hb.size ob⟩

theorem PairsAt.opened {w wr w3 : World} {B k : Nat} {l : List Tk} {o : List Int} {s : List Nat} {u v' : Value} (h : PairsAt w B l k o s u wr) (hw : w.heap.size ≤ B) (hlt : k < l.length) (ob kb : Obj)
    (hown' : w3.ownsRow B 3 1 v' (s.length + 1) (natVals s ++ [.int .i64 (k : Int)])) (hgrow : (((wr.setCell ⟨B, k, none⟩ (.int .i64 (-1))).alloc ob).alloc kb).grownBy w3 u.ownBlock)
    (hatt : v'.ownBlock = u.ownBlock ∨ v'.ownBlock = some (((wr.setCell ⟨B, k, none⟩ (.int .i64 (-1))).alloc ob).alloc kb).heap.size) (ho : opB (nthTk l k) = true)
    (hpg : pgo l (l.drop k) k o s = pgo l (l.drop (k + 1)) (k + 1) (o ++ [-1]) (s ++ [k])) : PairsAt w B l (k + 1) (o ++ [-1]) (s ++ [k]) v' w3 := by
  obtain ⟨e1, e2, e3⟩ := h.stored hw hlt ob (-1)
  obtain ⟨h1, h2, h3, h4, h5, h6, h7, h8, h9⟩ := h
  have e1' := e1.alloc kb
  have e2' := e2.alloc kb
  have hap : Apart (.slice (some ⟨B, 0, none⟩) l.length l.length) u := Apart.symm e1' h7
  have hz : B < (((wr.setCell ⟨B, k, none⟩ (.int .i64 (-1))).alloc ob).alloc kb).heap.size := (World.ownsRow.lt e1' _ rfl).2
  refine ⟨by simp [h1], by simp; omega, h3.snoc ho, h4.trans hpg, Apart.kept e1' hap hgrow, ?_, Apart.symm hown' (Apart.next e1' hap (Nat.le_refl _) hatt), Nat.lt_of_lt_of_le hz hgrow.size, ?_⟩
  · rw [natVals_snoc, List.length_append]; exact hown'
  · exact (e3.alloc e3.size kb).grown hgrow (by have := hz; omega) (fun j hj => by have := (World.ownsRow.lt e2' j hj).1; omega)
theorem PairsAt.other {w wr : World} {B k : Nat} {l : List Tk} {o : List Int} {s : List Nat} {u : Value} (h : PairsAt w B l k o s u wr) (hw : w.heap.size ≤ B) (hlt : k < l.length) (ob : Obj)
    (hpg : pgo l (l.drop k) k o s = pgo l (l.drop (k + 1)) (k + 1) (o ++ [-1]) s) : PairsAt w B l (k + 1) (o ++ [-1]) s u ((wr.setCell ⟨B, k, none⟩ (.int .i64 (-1))).alloc ob) := by
  obtain ⟨e1, e2, e3⟩ := h.stored hw hlt ob (-1)
  obtain ⟨h1, h2, h3, h4, h5, h6, h7, h8, h9⟩ := h
  exact ⟨by simp [h1], by omega, h3.next, h4.trans hpg, e1, e2, h7, (World.ownsRow.lt e1 _ rfl).2, e3⟩
theorem PairsAt.same {w W W1 : World} {B k : Nat} {l : List Tk} {o : List Int} {s : List Nat} {u : Value} (h : PairsAt w B l k o s u W1) (hW : W.heap = W1.heap ∧ W.os = W1.os ∧ W.tape = W1.tape ∧ W.output = W1.output) : PairsAt w B l k o s u W := by
  obtain ⟨h1, h2, h3, h4, h5, h6, h7, h8, h9⟩ := h
  obtain ⟨e1, e2, e3, e4⟩ := hW
  refine ⟨h1, h2, h3, h4, ?_, ?_, h7, by rw [e1]; exact h8, ⟨e2.trans h9.os, e3.trans h9.tape, e4.trans h9.output, by rw [e1]; exact h9.size, fun i hi => by rw [e1]; exact h9.block i hi⟩⟩
  · unfold World.ownsRow at *; rw [e1]; exact h5
  · unfold World.ownsRow at *; rw [e1]; exact h6
theorem PairsAt.fitted {w wr W : World} {B k g c : Nat} {l : List Tk} {o : List Int} {q : List Nat} {t : Nat} (h : PairsAt w B l k o (q ++ [t]) (.slice (some ⟨g, 0, none⟩) (q.length + 1) c) wr) (hw : w.heap.size ≤ B) (hlt : k < l.length) (ob : Obj)
    (hpg : pgo l (l.drop k) k o (q ++ [t]) = pgo l (l.drop (k + 1)) (k + 1) ((o ++ [(t : Int)]).set t (k : Int)) q)
    {V : World} (hV : V = (((wr.setCell ⟨B, k, none⟩ (.int .i64 (-1))).alloc ob).setCell ⟨B, k, none⟩ (.int .i64 (t : Int))).setCell ⟨B, t, none⟩ (.int .i64 (k : Int)))
    (hW : W.heap = V.heap ∧ W.os = V.os ∧ W.tape = V.tape ∧ W.output = V.output) :
    PairsAt w B l (k + 1) ((o ++ [(t : Int)]).set t (k : Int)) q (.slice (some ⟨g, 0, none⟩) q.length c) W := by
  refine PairsAt.same ?_ hW
  subst hV
  obtain ⟨e1, e2, e3⟩ := h.stored hw hlt ob (-1)
  obtain ⟨h1, h2, h3, h4, h5, h6, h7, h8, h9⟩ := h
  have htk : t < k := (h3 t (by simp)).1
  have hr := (World.ownsRow.stored (World.ownsRow.stored e1 k (.int .i64 (t : Int))).1 t (.int .i64 (k : Int))).1
  rw [← row_step h1 hlt, set_twice, row_fit h1 hlt htk] at hr
  have h6' : ((wr.setCell ⟨B, k, none⟩ (.int .i64 (-1))).alloc ob).ownsRow B 3 1 (.slice (some ⟨g, 0, none⟩) (q.length + 1) c) (q.length + 1) (natVals q ++ [.int .i64 (t : Int)]) := by
    rw [← natVals_snoc]; simpa using e2
  have hp := ownsRow_pop (by simp [natVals]) h6'
  have hne : (Value.slice (some ⟨g, 0, none⟩) q.length c).ownBlock = none ∨ (Value.slice (some ⟨g, 0, none⟩) q.length c).ownBlock ≠ some B := by
    rcases h7 with h7 | h7
    · simp [Value.ownBlock] at h7
    · exact .inr h7
  exact ⟨by simp [h1], by simp at h2; omega, fun y hy => ⟨by have := (h3 y (by simp [hy])).1; omega, (h3 y (by simp [hy])).2⟩, h4.trans hpg, hr, own_set (own_set hp hne) hne, hne, (World.ownsRow.lt hr _ rfl).2,
    (e3.setCell (p := ⟨B, k, none⟩) hw _).setCell (p := ⟨B, t, none⟩) hw _⟩
theorem own_cap {W : World} {base g n cap : Nat} {e : TypeId} {size : Nat} {xs : List Value} (h : W.ownsRow base e size (.slice (some ⟨g, 0, none⟩) n cap) n xs) : n ≤ cap ∧ cap ≤ maxLen := by
  rcases h.2 with ⟨h1, _⟩ | ⟨g', cap', cur, hv, _, _, hn, hm, _⟩
  · cases h1
  · cases hv; exact ⟨hn, hm⟩
theorem PairsAt.drewN {w wr : World} {B k : Nat} {l : List Tk} {o : List Int} {s : List Nat} {u : Value} (h : PairsAt w B l k o s u wr) (n : Nat) : PairsAt w B l k o s u { wr with drawn := wr.drawn + n } := by
  obtain ⟨h1, h2, h3, h4, h5, h6, h7, h8, h9⟩ := h
  exact ⟨h1, h2, h3, h4, h5, h6, h7, h8, below_draws h9 n⟩

set_option maxRecDepth 100000 in
set_option maxHeartbeats 16000000 in
theorem pairs_good (v : Value) (l : List Tk) (w : World) (ha : SlTw w v l) (hl : l.length ≤ 100000) (ht : ∀ x ∈ l, x.text.size ≤ 100000) (hG : Gl w) (h0 : toksErr l = 0) :
    Calls Tryz.prog 8 #[v] w (PairsP w l) := by
  have hte := tokensError_any v l w ha hl ht hG
  rw [h0] at hte
  have Hte := Lib.hid hte
  have hl9 := toksErr_len h0
  obtain ⟨A, ca, rfl, hA⟩ := ha
  have Hp := Lib.hid (show pairsOf l = pgo l l 0 [] [] by unfold pairsOf; rw [if_neg (by rw [h0]; decide)])
  clear hte h0
  obtain ⟨i0, hi, hz0, hzz1, hz2⟩ := info_parts intT_info
  have hmk : ∀ w1 : World, ∃ w2, (Instr.makeSlice 28 (.int .i64 (l.length : Int)) (.int .i64 (l.length : Int))).run Tryz.prog w1 = .ok (.slice (some ⟨w1.heap.size, 0, none⟩) l.length l.length) w2 ∧ w2.ownsRow w1.heap.size 3 1 (.slice (some ⟨w1.heap.size, 0, none⟩) l.length l.length) l.length (List.replicate l.length (.int .i64 0)) ∧ w1.grownBy w2 none := fun w1 => by
    obtain ⟨w2, h1, h2, h3⟩ := run_make_full (P := Tryz.prog) w1 w1.heap.size 28 3 i0 (.int .i64 0) 1 Tryz.underlying28 hi hz0 hzz1 .i64 .i64 l.length (by rw [hz2]; omega) (by unfold maxLen; omega) (Nat.le_refl _)
    have e : (madeCells (Value.int .i64 0).cells (l.length * 1)).toList = List.replicate l.length (.int .i64 0) := by rw [Nat.mul_one]; exact toList_madeCells_one _ _
    rw [e] at h2
    exact ⟨w2, h1, h2, h3⟩
  have Hmk := Lib.hid hmk
  clear hmk
  have e40 : (⟨#[40]⟩ : ByteArray).toList = [40] := by rw [ByteArray.toList_eq]
  have e123 : (⟨#[123]⟩ : ByteArray).toList = [123] := by rw [ByteArray.toList_eq]
  go_enter Tryz.func8, Tryz.ntmps8
  go_wp2_with (go_at_call 16; refine Hte.out.mono ?_; rintro e w1 ⟨rfl, hb1⟩; obtain ⟨w2, hrun, hown2, hg2⟩ := Hmk.out w1)
  have Hst := Lib.hid (PairsAt.start hb1 hown2 hg2)
  have hwB := hb1.size
  clear hrun hown2 hg2 hb1
  generalize w1.heap.size = B at *
  go_loopw [7, 21] (fun u i wr => ∃ (k : Nat) (o : List Int) (s : List Nat), k ≤ l.length ∧ i = .int .i64 (k : Int) ∧ PairsAt w B l k o s u wr) (fun _ i _ => l.length - (intOf i).toNat)
  case atStart => exact ⟨0, [], [], Nat.zero_le _, rfl, Hst.out⟩
  case round =>
    obtain ⟨k, o, s, hk, rfl, hat⟩ := hrel
    have Hat := Lib.hid hat
    obtain ⟨hok, hsk, hop, hpg, hrow, hopn, hap, hBs, hbw⟩ := hat
    by_cases hlt : k < l.length
    · obtain ⟨b1, o1, rfl, hbb, hc1⟩ := hA (by omega)
      have HC := Lib.hid (fun (j : Nat) (y : Tk) (hj : l[j]? = some y) => (hbw.cell (p := ⟨b1, o1 + j * 3 + 1, none⟩) hbb).trans (hc1 j y hj).2.1)
      obtain ⟨p1, p2, at1, p3⟩ := hc1 k _ (List.getElem?_eq_getElem hlt)
      have p1' := (hbw.cell (p := ⟨b1, o1 + k * 3, none⟩) hbb).trans p1
      have p2' := (hbw.cell (p := ⟨b1, o1 + k * 3 + 1, none⟩) hbb).trans p2
      have p3' := (hbw.cell (p := ⟨b1, o1 + k * 3 + 2, none⟩) hbb).trans p3
      have hbz := hbw.size
      have hbz2 : b1 < wr.heap.size := by omega
      have hbB : b1 ≠ B := by omega
      have hBne : B ≠ wr.heap.size := by omega
      have rk : wr.cell? ⟨B, k, none⟩ = some (.int .i64 0) := by
        rw [hrow.cellAt k (by omega)]
        obtain ⟨m, hm⟩ : ∃ m, l.length - k = m + 1 := ⟨l.length - k - 1, by omega⟩
        unfold inVals
        rw [hm, List.getElem?_map, List.getElem?_append_right (by omega), hok, Nat.sub_self, List.replicate_succ]; rfl
      have rkf : wr.frozen? ⟨B, k, none⟩ = false := hrow.frozenAt k
      have Hd := Lib.hid (show l.drop k = l[k] :: l.drop (k + 1) from List.drop_eq_getElem_cons hlt)
      have Hn := Lib.hid (nth_at hlt)
      have Hrow := Lib.hid hrow
      have Hopn := Lib.hid hopn
      have Hop := Lib.hid hop
      have Hpg := Lib.hid hpg
      have Hok := Lib.hid hok
      have Hap := Lib.hid hap
      clear p1 p2 p3 hc1 hA hrow hopn hop hpg hok hap
      generalize l[k] = x at p1' p2' p3' Hd Hn
      have hbk := Lib.hid (Hat.out.stored hwB hlt (.cells #[.int .u8 (x.kind : Int), .string x.text, .int .i64 at1] 33) (-1))
      rcases five x with ⟨ho, hq⟩ | ⟨ho, hcl, q1, q2, hq⟩ | ⟨ho, hcl, q1, q2, q3, q4⟩
      · have Hs := Lib.hid (show pgo l (l.drop k) k o s = pgo l (l.drop (k + 1)) (k + 1) (o ++ [-1]) (s ++ [k]) by rw [Hd.out]; exact pgo_open ho)
        have Ho := Lib.hid (show opB (nthTk l k) = true by rw [Hn.out]; exact ho)
        clear ho
        rcases hq with q1 | ⟨q1, q2⟩
        all_goals
          go_wp2_with (at_builtin; refine wpList_append_own_at _ rfl _ _ 28 rfl B 3 i0 _ 1 8 Tryz.underlying28 hi hz0 hzz1 hz2 rfl (by decide) _ _ _ rfl (hbk.out.2.1.alloc _) ⟨wr.heap.size + 1, 0, none⟩ 1 1 [.int .i64 (k : Int)] rfl rfl (lit_new _ _ _ (by simp) _) (fun u hu => by simp at hu; subst hu; rfl) (by unfold maxLen; omega) (by omega) (by simp; omega) ?_; intro v' w3 hown' hgrow _ hatt)
          go_roundw
          case rel => exact ⟨k + 1, o ++ [-1], s ++ [k], by omega, by go_num, Hat.out.opened hwB hlt _ _ hown' hgrow hatt Ho.out Hs.out⟩
          case measure => simp [intOf]; omega
      · have hone : ∃ c : UInt8, (∀ W, Calls Tryz.prog 24 #[.string x.text] W fun e w' => e = .returned (.string ⟨#[c]⟩) ∧ w' = W) ∧ ∀ y, fitB y x = (y.text.toList == [c]) := by
          rcases hq with ⟨_, hx⟩ | ⟨_, _, hx⟩
          · exact ⟨40, fun W => opener_r _ W hx, fun y => fit_r hx⟩
          · exact ⟨123, fun W => opener_c _ W (by rw [hx]; decide), fun y => fit_c hx⟩
        obtain ⟨c, hopc, hfit⟩ := hone
        have ec : (⟨#[c]⟩ : ByteArray).toList = [c] := by rw [ByteArray.toList_eq]
        have Hopc := Lib.hid hopc
        have Hfit := Lib.hid hfit
        have hq' : (x.text.toList == [41]) = true ∨ ((x.text.toList == [41]) = false ∧ (x.text.toList == [125]) = true) := by
          rcases hq with ⟨h1, _⟩ | ⟨h1, h2, _⟩
          · exact .inl h1
          · exact .inr ⟨h1, h2⟩
        clear hq hopc hfit
        by_cases hs0 : s.length = 0
        · obtain rfl : s = [] := List.length_eq_zero_iff.1 hs0
          have Hf := Lib.hid (show pairsOf l = ([], k, 4) from Hp.out.trans (Hpg.out.trans (by rw [Hd.out]; exact pgo_none ho hcl rfl)))
          obtain ⟨A2, c2, rfl⟩ := own_form Hopn.out
          clear hs0 ho hcl
          rcases hq' with q3 | ⟨q3, q4⟩
          all_goals
            go_wp2
            go_quiet (fail)
            go_wp2
            go_ret3
            exact PairsP.bad Hf.out (below_draws hbk.out.2.2 _)
        · obtain ⟨q, t, rfl, htk, hto, hgl, hdl, hql⟩ := Hop.out.last (by omega)
          have hown5 := Hopn.out
          rw [show (q ++ [t]).length = q.length + 1 by simp] at hown5
          obtain ⟨g, cap, rfl⟩ := ownsRow_succ hown5
          have hgB : g ≠ B := by
            rcases Hap.out with h7 | h7
            · simp [Value.ownBlock] at h7
            · intro e; subst e; exact h7 rfl
          have hgz : g < wr.heap.size := (World.ownsRow.lt hown5 _ rfl).2
          have hcap := (own_cap hown5).1
          have rq : wr.cell? ⟨g, q.length, none⟩ = some (.int .i64 (t : Int)) := by rw [hown5.cellAt q.length (by omega)]; simp [natVals]
          have htl : t < l.length := by omega
          have rt := HC.out t _ (List.getElem?_eq_getElem htl)
          have hnt := nth_at htl
          have rB := Hrow.out.cellAt t (by omega)
          have rBf : wr.frozen? ⟨B, t, none⟩ = false := Hrow.out.frozenAt t
          obtain ⟨vt, hvt⟩ : ∃ vt, wr.cell? ⟨B, t, none⟩ = some vt := ⟨_, rB.trans (List.getElem?_eq_getElem (by have h9 := Hok.out; rw [inVals_len]; simp; omega))⟩
          have hne : t ≠ k := by omega
          have hne2 : ¬ k = t := by omega
          have hti : (t : Int) < (l.length : Int) := by omega
          have hki : (k : Int) < (l.length : Int) := by omega
          have hqi : (q.length : Int) < (q.length : Int) + 1 := by omega
          have hqc : (q.length : Int) ≤ (cap : Int) := by omega
          have hc0 : ¬ cap = 0 := by omega
          have hq9 : q.length ≤ 900 := by have h9 := hsk; simp at h9; omega
          have hq0 : (0 : Int) ≤ (q.length : Int) := by omega
          have hqd : decide ((q.length : Int) < 0) = false := by simp
          have Hgl := Lib.hid hgl
          have Hdl := Lib.hid hdl
          have Hnt := Lib.hid hnt
          clear rB hown5 hgl hdl hnt hs0 hql
          generalize l[t] = y at rt Hnt
          cases hfb : fitB y x with
          | false =>
            have qf : (y.text.toList == [c]) = false := by rw [← Hfit.out y]; exact hfb
            have qf2 : (y.text.toList != [c]) = true := by rw [bne, qf]; rfl
            have Hf := Lib.hid (show pairsOf l = ([], k, 4) from Hp.out.trans (Hpg.out.trans (by rw [Hd.out]; exact pgo_bad ho hcl (by simp) (by rw [Hgl.out, Hnt.out]; exact hfb))))
            clear hfb ho hcl
            rcases hq' with q3 | ⟨q3, q4⟩
            all_goals
              go_wp2
              go_quiet (first
                | exact Calls.quiet_of_same (Hopc.out _)
                | (go_at_call 24; exact Calls.quiet_of_same (Hopc.out _)))
              go_wp2
              go_ret3
              exact PairsP.bad Hf.out (below_draws hbk.out.2.2 _)
          | true =>
            have qf : (y.text.toList == [c]) = true := by rw [← Hfit.out y]; exact hfb
            have qf2 : (y.text.toList != [c]) = false := by rw [bne, qf]; rfl
            have Hs := Lib.hid (show pgo l (l.drop k) k o (q ++ [t]) = pgo l (l.drop (k + 1)) (k + 1) ((o ++ [(t : Int)]).set t (k : Int)) q by
              rw [Hd.out, pgo_fit ho hcl (by simp) (by rw [Hgl.out, Hnt.out]; exact hfb), Hgl.out, Hdl.out])
            clear hfb ho hcl
            rcases hq' with q3 | ⟨q3, q4⟩
            all_goals
              go_wp2
              go_quiet (first
                | exact Calls.quiet_of_same (Hopc.out _)
                | (go_at_call 24; exact Calls.quiet_of_same (Hopc.out _)))
              go_wp2
              go_region
              all_goals
                go_wp2
                go_roundw
                case rel => exact ⟨k + 1, (o ++ [(t : Int)]).set t (k : Int), q, by omega, by go_num, Hat.out.fitted hwB hlt _ Hs.out rfl ⟨rfl, rfl, rfl, rfl⟩⟩
                case measure => simp [intOf]; omega
      · have Hs := Lib.hid (show pgo l (l.drop k) k o s = pgo l (l.drop (k + 1)) (k + 1) (o ++ [-1]) s by rw [Hd.out]; exact pgo_else ho hcl)
        clear ho hcl
        go_wp2
        go_roundw
        case rel => exact ⟨k + 1, o ++ [-1], s, by omega, by go_num, Hat.out.other hwB hlt _ Hs.out⟩
        case measure => simp [intOf]; omega
    · have hdl : l.drop k = [] := List.drop_of_length_le (by omega)
      rw [hdl] at hpg
      by_cases hs0 : s.length = 0
      · obtain rfl : s = [] := List.length_eq_zero_iff.1 hs0
        have Hf := Lib.hid (show pairsOf l = (o, 0, 0) from Hp.out.trans (hpg.trans (by rw [pgo, if_pos (by rfl)])))
        rw [show l.length - k = 0 by omega, List.replicate_zero, List.append_nil] at hrow
        obtain ⟨A2, c2, rfl⟩ := own_form hopn
        have Hrow := Lib.hid hrow
        have Hok := Lib.hid (show l.length = o.length by omega)
        clear hA hdl hpg hs0 hok hrow
        go_wp2
        go_ret3
        exact PairsP.good Hf.out Hok.out Hrow.out hbw
      · cases s with
        | nil => exact absurd rfl hs0
        | cons a r =>
          have Hf := Lib.hid (show pairsOf l = ([], a, 4) from Hp.out.trans (hpg.trans (by rw [pgo, if_neg hs0]; rfl)))
          have hown5 := hopn
          rw [show (a :: r).length = r.length + 1 from rfl] at hown5
          obtain ⟨g, cap, rfl⟩ := ownsRow_succ hown5
          have rq : wr.cell? ⟨g, 0, none⟩ = some (.int .i64 (a : Int)) := by rw [hown5.cellAt 0 (by omega)]; simp [natVals]
          have hqi : (0 : Int) < (r.length : Int) + 1 := by omega
          clear hA hdl hpg hs0 hok hrow hopn hown5 hap
          go_wp2
          go_quiet (fail)
          go_wp2
          go_ret3
          exact PairsP.bad Hf.out (below_draws hbw _)

end Go.Proofs.YthjnoboceibjjaaGreatDoor.Lx
