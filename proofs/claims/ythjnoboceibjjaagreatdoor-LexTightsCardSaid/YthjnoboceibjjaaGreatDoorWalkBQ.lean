/- LexTights: for every list of tokens it returns true. -/
import Derived.Test.YthjnoboceibjjaaGreatDoorWalkBN
import Derived.Test.YthjnoboceibjjaaGreatDoorWalkBJ
import Derived.Deep.RegionHeld3
import Derived.Test.YthjnoboceibjjaaGreatDoorWalkBK
import Derived.Test.YthjnoboceibjjaaGreatDoorWalkAQ
namespace Go.Proofs.YthjnoboceibjjaaGreatDoor.Lx
open Go Go.Proofs Go.RowKit Go.Shelf

set_option maxHeartbeats 1000000 in
theorem closing_is (x : Tk) (at_ : Int) (d : ByteArray) (w : World) (h : (x.kind = 4 ∧ x.text.toList = [40] ∧ d = ⟨#[41]⟩) ∨ (x.kind = 4 ∧ x.text.toList = [123] ∧ d = ⟨#[125]⟩) ∨ (x.text.toList ≠ [40] ∧ x.text.toList ≠ [123] ∧ d = ⟨#[]⟩)) :
    Calls Tryz.prog 25 #[.agg #[.int .u8 (x.kind : Int), .string x.text, .int .i64 at_]] w fun e w' => e = .returned (.string d) ∧ Below w.heap.size w w' := by
  rcases h with ⟨hk, h1, rfl⟩ | ⟨hk, h1, rfl⟩ | ⟨h1, h2, rfl⟩
  · have k1 : ((x.kind : Int) == 4) = true := by rw [hk]; rfl
    have t1 : (x.text.toList == [40]) = true := by rw [h1]; rfl
    clear hk h1
    go_enter Tryz.func25, Tryz.ntmps25
    go_wp2
    go_ret
    exact ⟨rfl, (Below.refl _ _).alloc (Nat.le_refl _) _⟩
  · have k1 : ((x.kind : Int) == 4) = true := by rw [hk]; rfl
    have t1 : (x.text.toList == [40]) = false := by rw [h1]; rfl
    have t2 : (x.text.toList == [123]) = true := by rw [h1]; rfl
    clear hk h1
    go_enter Tryz.func25, Tryz.ntmps25
    go_wp2
    go_ret
    exact ⟨rfl, (Below.refl _ _).alloc (Nat.le_refl _) _⟩
  · have t1 : (x.text.toList == [40]) = false := by simp [h1]
    have t2 : (x.text.toList == [123]) = false := by simp [h2]
    clear h1 h2
    by_cases hk : x.kind = 4
    · have k1 : ((x.kind : Int) == 4) = true := by rw [hk]; rfl
      clear hk
      go_enter Tryz.func25, Tryz.ntmps25
      go_wp2
      go_ret
      exact ⟨rfl, (Below.refl _ _).alloc (Nat.le_refl _) _⟩
    · have k1 : ((x.kind : Int) == 4) = false := by simp; omega
      clear hk
      go_enter Tryz.func25, Tryz.ntmps25
      go_wp2
      go_ret
      exact ⟨rfl, (Below.refl _ _).alloc (Nat.le_refl _) _⟩

theorem toks_good {l : List Tk} (h : toksErr l = 0) : ∀ x ∈ l, goodTk x = true := by
  unfold toksErr at h
  split at h
  · exact absurd h (by decide)
  · split at h
    · exact absurd h (by decide)
    · rename_i h2
      have h3 : l.all goodTk = true := by simpa using h2
      exact List.all_eq_true.1 h3

/-- The two lists that grow. -/
structure RowsAt (B : Nat) (o : List Int) (s : List Nat) (vo vs : Value) (W : World) : Prop where
  out : W.ownsRow B 3 1 vo o.length (inVals o)
  opn : W.ownsRow B 3 1 vs s.length (natVals s)
  ab : Apart vo vs
  ba : Apart vs vo
  low : B ≤ W.heap.size
theorem RowsAt.below {B : Nat} {o : List Int} {s : List Nat} {vo vs : Value} {W W' : World} (h : RowsAt B o s vo vs W) (hb : Below W.heap.size W W') : RowsAt B o s vo vs W' :=
  ⟨ownsRow_below h.out hb, ownsRow_below h.opn hb, h.ab, h.ba, Nat.le_trans h.low hb.size⟩
theorem RowsAt.alloc {B : Nat} {o : List Int} {s : List Nat} {vo vs : Value} {W : World} (h : RowsAt B o s vo vs W) (ob : Obj) : RowsAt B o s vo vs (W.alloc ob) :=
  ⟨h.out.alloc ob, h.opn.alloc ob, h.ab, h.ba, by rw [alloc_sz]; have := h.low; omega⟩
theorem RowsAt.pushOut {B : Nat} {o : List Int} {s : List Nat} {vo vs v' : Value} {W W' : World} {a : Int} (h : RowsAt B o s vo vs W) (hown' : W'.ownsRow B 3 1 v' (o.length + 1) (inVals o ++ [.int .i64 a])) (hg : W.grownBy W' vo.ownBlock) (hat : v'.ownBlock = vo.ownBlock ∨ v'.ownBlock = some W.heap.size) :
    RowsAt B (o ++ [a]) s v' vs W' :=
  ⟨by rw [inVals_snoc, List.length_append]; exact hown', Apart.kept h.opn h.ba hg, Apart.symm hown' (Apart.next h.opn h.ba (Nat.le_refl _) hat), Apart.next h.opn h.ba (Nat.le_refl _) hat, Nat.le_trans h.low hg.size⟩
theorem RowsAt.pushOpen {B : Nat} {o : List Int} {s : List Nat} {vo vs v' : Value} {W W' : World} {k : Nat} (h : RowsAt B o s vo vs W) (hown' : W'.ownsRow B 3 1 v' (s.length + 1) (natVals s ++ [.int .i64 (k : Int)])) (hg : W.grownBy W' vs.ownBlock) (hat : v'.ownBlock = vs.ownBlock ∨ v'.ownBlock = some W.heap.size) :
    RowsAt B o (s ++ [k]) vo v' W' :=
  ⟨Apart.kept h.out h.ab hg, by rw [natVals_snoc, List.length_append]; exact hown', Apart.next h.out h.ab (Nat.le_refl _) hat, Apart.symm hown' (Apart.next h.out h.ab (Nat.le_refl _) hat), Nat.le_trans h.low hg.size⟩
theorem RowsAt.low_out {B b off : Nat} {o : List Int} {s : List Nat} {vo vs v : Value} {W W' : World} (h : RowsAt B o s vo vs W) (hg : W.grownBy W' vo.ownBlock) (hb : b < B) (hc : W.cell? ⟨b, off, none⟩ = some v) : W'.cell? ⟨b, off, none⟩ = some v :=
  hg.cell hc (fun e => by have := (World.ownsRow.lt h.out b e.symm).1; omega)

structure RefAt (w : World) (l : List Tk) (k : Nat) (o : List Int) (s : List Nat) (vo vs : Value) (wr : World) : Prop where
  len : o.length = k
  few : s.length ≤ k
  opn : OpenAt l k s
  pg : pgo l l 0 [] [] = pgo l (l.drop k) k o s
  rows : RowsAt w.heap.size o s vo vs wr
  low : Below w.heap.size w wr

end Go.Proofs.YthjnoboceibjjaaGreatDoor.Lx

namespace Go.Proofs.YthjnoboceibjjaaGreatDoor.Lx
open Go Go.Proofs Go.RowKit Go.Shelf

theorem refPairs_bad (v : Value) (l : List Tk) (w : World) (ha : SlTw w v l) (hl : l.length ≤ 100000) (ht : ∀ x ∈ l, x.text.size ≤ 100000) (h0 : toksErr l ≠ 0) :
    Calls Tryz.prog 9 #[v] w (PairsP w l) := by
  have hte := refTokensError_any v l w ha hl ht
  have Hf := Lib.hid (show pairsOf l = ([], 0, toksErr l) from if_pos h0)
  generalize toksErr l = te at *
  have ht3 : ((te : Int) != 0) = true := by simp; omega
  have Hte := Lib.hid hte
  obtain ⟨A, ca, rfl, _⟩ := ha
  clear hte h0
  go_enter Tryz.func9, Tryz.ntmps9
  go_wp2_with (go_at_call 22; refine Hte.out.mono ?_; rintro e w1 ⟨rfl, hb1⟩)
  go_ret3
  exact PairsP.bad Hf.out hb1

theorem RefAt.start {w w1 : World} {l : List Tk} (hb : Below w.heap.size w w1) : RefAt w l 0 [] [] (.slice none 0 0) (.slice none 0 0) w1 :=
  ⟨rfl, Nat.le_refl _, (fun t h => by cases h), rfl, ⟨World.ownsRow_nil _ _ _ _, World.ownsRow_nil _ _ _ _, .inl rfl, .inl rfl, hb.size⟩, hb⟩

theorem below_as {B : Nat} {w V W : World} (h : Below B w V) (e : W.heap = V.heap ∧ W.os = V.os ∧ W.tape = V.tape ∧ W.output = V.output) : Below B w W :=
  ⟨e.2.1.trans h.os, e.2.2.1.trans h.tape, e.2.2.2.trans h.output, by rw [e.1]; exact h.size, fun i hi => by rw [e.1]; exact h.block i hi⟩
theorem RowsAt.same {B : Nat} {o : List Int} {s : List Nat} {vo vs : Value} {W W' : World} (h : RowsAt B o s vo vs W) (e : W'.heap = W.heap) : RowsAt B o s vo vs W' := by
  obtain ⟨h1, h2, h3, h4, h5⟩ := h
  refine ⟨?_, ?_, h3, h4, by rw [e]; exact h5⟩
  · unfold World.ownsRow at *; rw [e]; exact h1
  · unfold World.ownsRow at *; rw [e]; exact h2

/-- Behind the stores of a pair. -/
theorem RowsAt.fitted {B k t g1 c1 g2 c2 : Nat} {o : List Int} {q : List Nat} {W W' : World} (hok : o.length = k)
    (h : RowsAt B (o ++ [-1]) (q ++ [t]) (.slice (some ⟨g1, 0, none⟩) (o.length + 1) c1) (.slice (some ⟨g2, 0, none⟩) (q.length + 1) c2) W)
    (hW : W'.heap = ((W.setCell ⟨g1, k, none⟩ (.int .i64 (t : Int))).setCell ⟨g1, t, none⟩ (.int .i64 (k : Int))).heap) :
    RowsAt B ((o ++ [(t : Int)]).set t (k : Int)) q (.slice (some ⟨g1, 0, none⟩) (o.length + 1) c1) (.slice (some ⟨g2, 0, none⟩) q.length c2) W' := by
  refine RowsAt.same ?_ hW
  obtain ⟨h1, h2, h3, h4, h5⟩ := h
  have hl : (o ++ [(-1 : Int)]).length = o.length + 1 := by simp
  have hl2 : ((o ++ [(t : Int)]).set t (k : Int)).length = o.length + 1 := by simp
  rw [hl] at h1
  have hset : ((inVals (o ++ [-1])).set k (.int .i64 (t : Int))).set t (.int .i64 (k : Int)) = inVals ((o ++ [(t : Int)]).set t (k : Int)) := by
    rw [← inVals_set, set_snoc _ _ _ _ hok, ← inVals_set]
  have h2' : W.ownsRow B 3 1 (.slice (some ⟨g2, 0, none⟩) (q.length + 1) c2) (q.length + 1) (natVals q ++ [.int .i64 (t : Int)]) := by
    rw [← natVals_snoc]; simpa using h2
  have hp := ownsRow_pop (by simp [natVals]) h2'
  have hne : (Value.slice (some ⟨g2, 0, none⟩) q.length c2).ownBlock = none ∨ (Value.slice (some ⟨g2, 0, none⟩) q.length c2).ownBlock ≠ some g1 := by
    rcases h4 with h7 | h7
    · simp [Value.ownBlock] at h7
    · exact .inr h7
  have hne2 : Apart (.slice (some ⟨g1, 0, none⟩) (o.length + 1) c1) (.slice (some ⟨g2, 0, none⟩) q.length c2) := by
    rcases h3 with h7 | h7
    · simp [Value.ownBlock] at h7
    · exact .inr h7
  have e2 := (World.ownsRow.stored (World.ownsRow.stored h1 k (.int .i64 (t : Int))).1 t (.int .i64 (k : Int))).1
  rw [hset] at e2
  exact ⟨by rw [hl2]; exact e2, own_set (own_set hp hne) hne, hne2, hne, by simpa using h5⟩
set_option maxRecDepth 100000 in
set_option maxHeartbeats 16000000 in
theorem refPairs_good (v : Value) (l : List Tk) (w : World) (ha : SlTw w v l) (hl : l.length ≤ 100000) (ht : ∀ x ∈ l, x.text.size ≤ 100000) (h0 : toksErr l = 0) :
    Calls Tryz.prog 9 #[v] w (PairsP w l) := by
  have hte := refTokensError_any v l w ha hl ht
  rw [h0] at hte
  have Hte := Lib.hid hte
  have hl9 := toksErr_len h0
  have Hgood := Lib.hid (toks_good h0)
  obtain ⟨A, ca, rfl, hA⟩ := ha
  have Hp := Lib.hid (show pairsOf l = pgo l l 0 [] [] by unfold pairsOf; rw [if_neg (by rw [h0]; decide)])
  clear hte h0
  obtain ⟨i0, hi, hz0, hzz1, hz2⟩ := info_parts intT_info
  go_enter Tryz.func9, Tryz.ntmps9
  go_wp2_with (go_at_call 22; refine Hte.out.mono ?_; rintro e w1 ⟨rfl, hb1⟩)
  have Hst := Lib.hid (RefAt.start (l := l) hb1)
  clear hb1
  go_loopw [6, 7, 8] (fun vo vs i wr => ∃ (k : Nat) (o : List Int) (s : List Nat), k ≤ l.length ∧ i = .int .i64 (k : Int) ∧ RefAt w l k o s vo vs wr) (fun _ _ i _ => l.length - (intOf i).toNat)
  case atStart => exact ⟨0, [], [], Nat.zero_le _, rfl, Hst.out⟩
  case round =>
    obtain ⟨k, o, s, hk, rfl, hat⟩ := hrel
    obtain ⟨hok, hsk, hop, hpg, hrows, hbw⟩ := hat
    by_cases hlt : k < l.length
    · obtain ⟨b1, o1, rfl, hbb, hc1⟩ := hA (by omega)
      have HC := Lib.hid (fun (W : World) (hb : Below w.heap.size w W) (j : Nat) (y : Tk) (hj : l[j]? = some y) => show W.cell? ⟨b1, o1 + j * 3, none⟩ = some (.int .u8 (y.kind : Int)) ∧ W.cell? ⟨b1, o1 + j * 3 + 1, none⟩ = some (.string y.text) ∧ ∃ p : Int, W.cell? ⟨b1, o1 + j * 3 + 2, none⟩ = some (.int .i64 p) from
        ⟨(hb.cell (p := ⟨b1, o1 + j * 3, none⟩) hbb).trans (hc1 j y hj).1, (hb.cell (p := ⟨b1, o1 + j * 3 + 1, none⟩) hbb).trans (hc1 j y hj).2.1, by
          obtain ⟨p, hp⟩ := (hc1 j y hj).2.2
          exact ⟨p, (hb.cell (p := ⟨b1, o1 + j * 3 + 2, none⟩) hbb).trans hp⟩⟩)
      have Hx := Lib.hid (List.getElem?_eq_getElem hlt)
      have hgd := Hgood.out _ (List.getElem_mem hlt)
      have Hd := Lib.hid (show l.drop k = l[k] :: l.drop (k + 1) from List.drop_eq_getElem_cons hlt)
      have Hn := Lib.hid (nth_at hlt)
      have hbz := hbw.size
      have Hok := Lib.hid hok
      have Hop := Lib.hid hop
      have Hpg := Lib.hid hpg
      have hol : o.length ≤ 900 := by omega
      clear hc1 hA hop hpg hok
      generalize l[k] = x at hgd Hx Hd Hn
      obtain ⟨AO, cO, rfl⟩ := own_form hrows.out
      rcases five x with ⟨ho, hq⟩ | ⟨ho, hcl, q1, q2, hq⟩ | ⟨ho, hcl, q1, q2, q3, q4⟩
      · have Hs := Lib.hid (show pgo l (l.drop k) k o s = pgo l (l.drop (k + 1)) (k + 1) (o ++ [-1]) (s ++ [k]) by rw [Hd.out]; exact pgo_open ho)
        have Ho := Lib.hid (show opB (nthTk l k) = true by rw [Hn.out]; exact ho)
        have hclo : ∃ d : UInt8, ∀ at_ W, Calls Tryz.prog 25 #[.agg #[.int .u8 (x.kind : Int), .string x.text, .int .i64 at_]] W fun e w' => e = .returned (.string ⟨#[d]⟩) ∧ Below W.heap.size W w' := by
          have h4 := good_sign hgd (.inl ho)
          unfold opB at ho
          simp only [Bool.or_eq_true, decide_eq_true_eq] at ho
          rcases ho with e | e
          · exact ⟨41, fun at_ W => closing_is x at_ _ W (.inl ⟨h4, e, rfl⟩)⟩
          · exact ⟨125, fun at_ W => closing_is x at_ _ W (.inr (.inl ⟨h4, e, rfl⟩))⟩
        obtain ⟨d, hclo⟩ := hclo
        have ed : (⟨#[d]⟩ : ByteArray).toList = [d] := by rw [ByteArray.toList_eq]
        have Hclo := Lib.hid hclo
        obtain ⟨AS, cS, rfl⟩ := own_form hrows.opn
        clear hclo ho hq hgd
        go_wp2_with (first
          | (go_at_call 25; refine (Hclo.out _ _).mono ?_; rintro e wB ⟨rfl, hbB⟩; have hRB := hRA.below hbB; have hBB := hbA.trans (hbB.mono hbA.size); obtain ⟨r1, r2, at2, r3⟩ := HC.out _ hBB k x Hx.out)
          | (at_builtin; have hpast := hbB; refine wpList_append_own_at _ rfl _ _ 28 rfl w.heap.size 3 i0 _ 1 8 Tryz.underlying28 hi hz0 hzz1 hz2 rfl (by decide) _ _ _ rfl (hRB.opn.alloc _) ⟨wB.heap.size, 0, none⟩ 1 1 [.int .i64 (k : Int)] rfl rfl (lit_new _ _ _ rfl _) (fun u hu => by simp at hu; subst hu; rfl) (by unfold maxLen; omega) (by omega) (by have := hBB.size; simp; omega) ?_; intro vC wC hownC hgrowC _ hatC; have hRC := (hRB.alloc (.cells #[.int .i64 (k : Int)] 3)).pushOpen hownC hgrowC hatC; have hBC := (hBB.alloc hBB.size _).grown hgrowC (by have := hBB.size; simp; omega) (fun j hj => (World.ownsRow.lt hRB.opn j hj).1))
          | (at_builtin; refine wpList_append_own_at _ rfl _ _ 28 rfl w.heap.size 3 i0 _ 1 8 Tryz.underlying28 hi hz0 hzz1 hz2 rfl (by decide) _ _ _ rfl (hrows.out.alloc _) ⟨wr.heap.size, 0, none⟩ 1 1 [.int .i64 (-1)] rfl rfl (lit_new _ _ _ rfl _) (fun u hu => by simp at hu; subst hu; rfl) (by unfold maxLen; omega) (by omega) (by simp; omega) ?_; intro vA wA hownA hgrowA _ hatA; have hRA := (hrows.alloc (.cells #[.int .i64 (-1)] 3)).pushOut hownA hgrowA hatA; have hbA := (hbw.alloc hbz _).grown hgrowA (by simp; omega) (fun j hj => (World.ownsRow.lt hrows.out j hj).1); obtain ⟨p1, p2, at1, p3⟩ := HC.out _ hbA k x Hx.out; obtain ⟨AA, cA, rfl⟩ := own_form hownA))
        go_roundw
        case rel => exact ⟨k + 1, o ++ [-1], s ++ [k], by omega, by go_num, ⟨by simp [Hok.out], by simp; omega, Hop.out.snoc Ho.out, Hpg.out.trans Hs.out, hRC, hBC⟩⟩
        case measure => simp [intOf]; omega
      · have hone : ∃ c : UInt8, x.text.toList = [c] ∧ ∀ y, fitB y x = true → opB y = true → True := by
          rcases hq with ⟨_, hx⟩ | ⟨_, _, hx⟩
          · exact ⟨41, hx, fun _ _ _ => trivial⟩
          · exact ⟨125, hx, fun _ _ _ => trivial⟩
        have hclo : ∀ at_ W, Calls Tryz.prog 25 #[.agg #[.int .u8 (x.kind : Int), .string x.text, .int .i64 at_]] W fun e w' => e = .returned (.string ⟨#[]⟩) ∧ Below W.heap.size W w' := fun at_ W => closing_is x at_ _ W (.inr (.inr ⟨by simpa using q1, by simpa using q2, rfl⟩))
        have Hclo := Lib.hid hclo
        have hq' : ((x.text.toList == [41]) = true ∧ (x.text.toList != [41]) = false) ∨ ((x.text.toList == [41]) = false ∧ (x.text.toList != [41]) = true ∧ (x.text.toList == [125]) = true ∧ (x.text.toList != [125]) = false) := by
          rcases hq with ⟨h1, _⟩ | ⟨h1, h2, _⟩
          · exact .inl ⟨h1, by rw [bne, h1]; rfl⟩
          · exact .inr ⟨h1, by rw [bne, h1]; rfl, h2, by rw [bne, h2]; rfl⟩
        clear hclo hone
        by_cases hs0 : s.length = 0
        · obtain rfl : s = [] := List.length_eq_zero_iff.1 hs0
          have Hf := Lib.hid (show pairsOf l = ([], k, 4) from Hp.out.trans (Hpg.out.trans (by rw [Hd.out]; exact pgo_none ho hcl rfl)))
          obtain ⟨AS, cS, rfl⟩ := own_form hrows.opn
          clear hs0 ho hcl hgd hq q1 q2
          rcases hq' with ⟨q3, q4⟩ | ⟨q3, q4, q5, q6⟩
          all_goals
            go_wp2_with (first
              | (go_at_call 25; refine (Hclo.out _ _).mono ?_; rintro e wB ⟨rfl, hbB⟩; have hRB := hRA.below hbB; have hBB := hbA.trans (hbB.mono hbA.size); obtain ⟨r1, r2, at2, r3⟩ := HC.out _ hBB k x Hx.out)
              | (at_builtin; refine wpList_append_own_at _ rfl _ _ 28 rfl w.heap.size 3 i0 _ 1 8 Tryz.underlying28 hi hz0 hzz1 hz2 rfl (by decide) _ _ _ rfl (hrows.out.alloc _) ⟨wr.heap.size, 0, none⟩ 1 1 [.int .i64 (-1)] rfl rfl (lit_new _ _ _ rfl _) (fun u hu => by simp at hu; subst hu; rfl) (by unfold maxLen; omega) (by omega) (by simp; omega) ?_; intro vA wA hownA hgrowA _ hatA; have hRA := (hrows.alloc (.cells #[.int .i64 (-1)] 3)).pushOut hownA hgrowA hatA; have hbA := (hbw.alloc hbz _).grown hgrowA (by simp; omega) (fun j hj => (World.ownsRow.lt hrows.out j hj).1); obtain ⟨p1, p2, at1, p3⟩ := HC.out _ hbA k x Hx.out; obtain ⟨AA, cA, rfl⟩ := own_form hownA))
            go_quiet (fail)
            go_wp2
            go_ret3
            exact PairsP.bad Hf.out (below_draws hBB _)
        · obtain ⟨q, t, rfl, htk, hto, hgl, hdl, hql⟩ := Hop.out.last (by omega)
          have hown5 := hrows.opn
          rw [show (q ++ [t]).length = q.length + 1 by simp] at hown5
          obtain ⟨g2, c2, rfl⟩ := ownsRow_succ hown5
          have htl : t < l.length := by omega
          have Hy := Lib.hid (List.getElem?_eq_getElem htl)
          have hgy := Hgood.out _ (List.getElem_mem htl)
          have Hnt := Lib.hid (nth_at htl)
          rw [nth_at htl] at hto
          generalize l[t] = y at Hy hgy Hnt hto
          have hclo2 : ∃ d : UInt8, (∀ at_ W, Calls Tryz.prog 25 #[.agg #[.int .u8 (y.kind : Int), .string y.text, .int .i64 at_]] W fun e w' => e = .returned (.string ⟨#[d]⟩) ∧ Below W.heap.size W w') ∧ fitB y x = ([d] == x.text.toList) := by
            have h4 := good_sign hgy (.inl hto)
            unfold opB at hto
            simp only [Bool.or_eq_true, decide_eq_true_eq] at hto
            rcases hto with e | e
            · exact ⟨41, fun at_ W => closing_is y at_ _ W (.inl ⟨h4, e, rfl⟩), by
                unfold fitB; rw [e]
                by_cases h : x.text.toList = [41]
                · rw [h]; rfl
                · simp [h]; exact fun h' => h h'.symm⟩
            · exact ⟨125, fun at_ W => closing_is y at_ _ W (.inr (.inl ⟨h4, e, rfl⟩)), by
                unfold fitB; rw [e]
                by_cases h : x.text.toList = [125]
                · rw [h]; rfl
                · simp [h]; exact fun h' => h h'.symm⟩
          obtain ⟨d, hclo2, hfit⟩ := hclo2
          have ed : (⟨#[d]⟩ : ByteArray).toList = [d] := by rw [ByteArray.toList_eq]
          have Hclo2 := Lib.hid hclo2
          have hq9 : q.length ≤ 900 := by have h9 := hsk; simp at h9; omega
          have hq0 : (0 : Int) ≤ (q.length : Int) := by omega
          have hqi : (q.length : Int) < (q.length : Int) + 1 := by omega
          have hcap := (own_cap hown5).1
          have hqc : (q.length : Int) ≤ (c2 : Int) := by omega
          have hc0 : ¬ c2 = 0 := by omega
          have hne : t ≠ k := by omega
          have hne2 : ¬ k = t := by omega
          have hti : (t : Int) < (l.length : Int) := by omega
          have hki : (k : Int) < (l.length : Int) := by omega
          have hto2 : (t : Int) < (o.length : Int) + 1 := by have := Hok.out; omega
          have hko2 : (k : Int) < (o.length : Int) + 1 := by have := Hok.out; omega
          have Hgl := Lib.hid hgl
          have Hdl := Lib.hid hdl
          have Hrows := Lib.hid hrows
          clear hclo2 hto hgd hgy hgl hdl hql hs0 hq q1 q2 hown5
          cases hfb : fitB y x with
          | false =>
            have qf : ([d] == x.text.toList) = false := by rw [← hfit]; exact hfb
            have qf2 : ([d] != x.text.toList) = true := by rw [bne, qf]; rfl
            have Hf := Lib.hid (show pairsOf l = ([], k, 4) from Hp.out.trans (Hpg.out.trans (by rw [Hd.out]; exact pgo_bad ho hcl (by simp) (by rw [Hgl.out, Hnt.out]; exact hfb))))
            clear hfb ho hcl hfit
            rcases hq' with ⟨q3, q4⟩ | ⟨q3, q4, q5, q6⟩
            all_goals
              go_wp2_with (first
                | (go_at_call 25; refine (Hclo.out _ _).mono ?_; rintro e wB ⟨rfl, hbB⟩; have hRB := hRA.below hbB; have hBB := hbA.trans (hbB.mono hbA.size); obtain ⟨r1, r2, at2, r3⟩ := HC.out _ hBB k x Hx.out)
                | (at_builtin; refine wpList_append_own_at _ rfl _ _ 28 rfl w.heap.size 3 i0 _ 1 8 Tryz.underlying28 hi hz0 hzz1 hz2 rfl (by decide) _ _ _ rfl (hrows.out.alloc _) ⟨wr.heap.size, 0, none⟩ 1 1 [.int .i64 (-1)] rfl rfl (lit_new _ _ _ rfl _) (fun u hu => by simp at hu; subst hu; rfl) (by unfold maxLen; omega) (by omega) (by simp; omega) ?_; intro vA wA hownA hgrowA _ hatA; have hRA := (hrows.alloc (.cells #[.int .i64 (-1)] 3)).pushOut hownA hgrowA hatA; have hbA := (hbw.alloc hbz _).grown hgrowA (by simp; omega) (fun j hj => (World.ownsRow.lt hrows.out j hj).1); obtain ⟨p1, p2, at1, p3⟩ := HC.out _ hbA k x Hx.out; obtain ⟨gA, cA, rfl⟩ := ownsRow_succ hownA))
              obtain ⟨y1, y2, aty, y3⟩ := HC.out _ hBB t y Hy.out
              have hoq := hRB.opn
              rw [show (q ++ [t]).length = q.length + 1 by simp] at hoq
              have rq : wB.cell? ⟨g2, q.length, none⟩ = some (.int .i64 (t : Int)) := by rw [hoq.cellAt q.length (by omega)]; simp [natVals]
              have hg2z : g2 < wB.heap.size := (World.ownsRow.lt hoq _ rfl).2
              have hb1z : b1 < wB.heap.size := by have := hBB.size; omega
              clear hoq
              have hw1 : IntKind.i64.wrap ((q.length : Int) + 1 - 1) = (q.length : Int) := by rw [show (q.length : Int) + 1 - 1 = (q.length : Int) by omega]; exact IntWalk.i64_in _ (by omega)
              have hw2 : IntKind.i64.wrap (q.length : Int) = (q.length : Int) := IntWalk.i64_in _ (by omega)
              go_region_held3 (fun w' => w'.cell? ⟨g2, q.length, none⟩ = some (.int .i64 (t : Int)) ∧ w'.cell? ⟨b1, o1 + t * 3, none⟩ = some (.int .u8 (y.kind : Int)) ∧ w'.cell? ⟨b1, o1 + t * 3 + 1, none⟩ = some (.string y.text) ∧ w'.cell? ⟨b1, o1 + t * 3 + 2, none⟩ = some (.int .i64 aty) ∧ w'.cell? ⟨b1, o1 + k * 3 + 1, none⟩ = some (.string x.text))
                (first
                  | go_keep
                  | (go_split_ands
                     exact ⟨(hbD.cell (p := ⟨g2, q.length, none⟩) hg2z).trans (by assumption), (hbD.cell (p := ⟨b1, o1 + t * 3, none⟩) hb1z).trans (by assumption), (hbD.cell (p := ⟨b1, o1 + t * 3 + 1, none⟩) hb1z).trans (by assumption), (hbD.cell (p := ⟨b1, o1 + t * 3 + 2, none⟩) hb1z).trans (by assumption), (hbD.cell (p := ⟨b1, o1 + k * 3 + 1, none⟩) hb1z).trans (by assumption)⟩))
                ((go_at_call 25; refine (Hclo2.out _ _).mono ?_; rintro e wD ⟨rfl, hbD⟩))
              go_wp2
              go_ret3
              exact PairsP.bad Hf.out ((below_draws hBB 1).trans (hbD.mono hBB.size))
          | true =>
            have qf : ([d] == x.text.toList) = true := by rw [← hfit]; exact hfb
            have qf2 : ([d] != x.text.toList) = false := by rw [bne, qf]; rfl
            have Hs := Lib.hid (show pgo l (l.drop k) k o (q ++ [t]) = pgo l (l.drop (k + 1)) (k + 1) ((o ++ [(t : Int)]).set t (k : Int)) q by
              rw [Hd.out, pgo_fit ho hcl (by simp) (by rw [Hgl.out, Hnt.out]; exact hfb), Hgl.out, Hdl.out])
            clear hfb ho hcl hfit
            rcases hq' with ⟨q3, q4⟩ | ⟨q3, q4, q5, q6⟩
            all_goals
              go_wp2_with (first
                | (go_at_call 25; refine (Hclo.out _ _).mono ?_; rintro e wB ⟨rfl, hbB⟩; have hRB := hRA.below hbB; have hBB := hbA.trans (hbB.mono hbA.size); obtain ⟨r1, r2, at2, r3⟩ := HC.out _ hBB k x Hx.out)
                | (at_builtin; refine wpList_append_own_at _ rfl _ _ 28 rfl w.heap.size 3 i0 _ 1 8 Tryz.underlying28 hi hz0 hzz1 hz2 rfl (by decide) _ _ _ rfl (hrows.out.alloc _) ⟨wr.heap.size, 0, none⟩ 1 1 [.int .i64 (-1)] rfl rfl (lit_new _ _ _ rfl _) (fun u hu => by simp at hu; subst hu; rfl) (by unfold maxLen; omega) (by omega) (by simp; omega) ?_; intro vA wA hownA hgrowA _ hatA; have hRA := (hrows.alloc (.cells #[.int .i64 (-1)] 3)).pushOut hownA hgrowA hatA; have hbA := (hbw.alloc hbz _).grown hgrowA (by simp; omega) (fun j hj => (World.ownsRow.lt hrows.out j hj).1); obtain ⟨p1, p2, at1, p3⟩ := HC.out _ hbA k x Hx.out; obtain ⟨gA, cA, rfl⟩ := ownsRow_succ hownA))
              obtain ⟨y1, y2, aty, y3⟩ := HC.out _ hBB t y Hy.out
              have hoq := hRB.opn
              rw [show (q ++ [t]).length = q.length + 1 by simp] at hoq
              have rq : wB.cell? ⟨g2, q.length, none⟩ = some (.int .i64 (t : Int)) := by rw [hoq.cellAt q.length (by omega)]; simp [natVals]
              have hg2z : g2 < wB.heap.size := (World.ownsRow.lt hoq _ rfl).2
              have hb1z : b1 < wB.heap.size := by have := hBB.size; omega
              clear hoq
              have hw1 : IntKind.i64.wrap ((q.length : Int) + 1 - 1) = (q.length : Int) := by rw [show (q.length : Int) + 1 - 1 = (q.length : Int) by omega]; exact IntWalk.i64_in _ (by omega)
              have hw2 : IntKind.i64.wrap (q.length : Int) = (q.length : Int) := IntWalk.i64_in _ (by omega)
              go_region_held3 (fun w' => w'.cell? ⟨g2, q.length, none⟩ = some (.int .i64 (t : Int)) ∧ w'.cell? ⟨b1, o1 + t * 3, none⟩ = some (.int .u8 (y.kind : Int)) ∧ w'.cell? ⟨b1, o1 + t * 3 + 1, none⟩ = some (.string y.text) ∧ w'.cell? ⟨b1, o1 + t * 3 + 2, none⟩ = some (.int .i64 aty) ∧ w'.cell? ⟨b1, o1 + k * 3 + 1, none⟩ = some (.string x.text))
                (first
                  | go_keep
                  | (go_split_ands
                     exact ⟨(hbD.cell (p := ⟨g2, q.length, none⟩) hg2z).trans (by assumption), (hbD.cell (p := ⟨b1, o1 + t * 3, none⟩) hb1z).trans (by assumption), (hbD.cell (p := ⟨b1, o1 + t * 3 + 1, none⟩) hb1z).trans (by assumption), (hbD.cell (p := ⟨b1, o1 + t * 3 + 2, none⟩) hb1z).trans (by assumption), (hbD.cell (p := ⟨b1, o1 + k * 3 + 1, none⟩) hb1z).trans (by assumption)⟩))
                ((go_at_call 25; refine (Hclo2.out _ _).mono ?_; rintro e wD ⟨rfl, hbD⟩))
              clear hw1 hw2
              have hRD := (RowsAt.same hRB (W' := wB.drew) rfl).below hbD
              have hBD := (below_draws hBB 1).trans (hbD.mono hBB.size)
              have hRD' : RowsAt w.heap.size (o ++ [-1]) (q ++ [t]) (.slice (some ⟨gA, 0, none⟩) (o.length + 1) cA) (.slice (some ⟨g2, 0, none⟩) (q.length + 1) c2) wD := hRD
              have rqD : wD.cell? ⟨g2, q.length, none⟩ = some (.int .i64 (t : Int)) := (hbD.cell (p := ⟨g2, q.length, none⟩) hg2z).trans rq
              have hoD := hRD.out
              rw [show (o ++ [(-1 : Int)]).length = o.length + 1 by simp] at hoD
              have hok9 := Hok.out
              have pk : wD.cell? ⟨gA, k, none⟩ = some (.int .i64 (-1)) := by rw [hoD.cellAt k (by omega), inVals_snoc, List.getElem?_append_right (by rw [inVals_len]; omega), inVals_len, hok9, Nat.sub_self]; rfl
              have pkf : wD.frozen? ⟨gA, k, none⟩ = false := hoD.frozenAt k
              have ptf : wD.frozen? ⟨gA, t, none⟩ = false := hoD.frozenAt t
              obtain ⟨vt, pt⟩ : ∃ vt, wD.cell? ⟨gA, t, none⟩ = some vt := ⟨_, (hoD.cellAt t (by omega)).trans (List.getElem?_eq_getElem (by rw [inVals_len]; simp; omega))⟩
              have HRD := Lib.hid hRD'
              have hgA := (World.ownsRow.lt hoD _ rfl).1
              clear hoD hRD hRD' hok9 y1 y2 y3 r1 r2 r3 p1 p2 p3
              go_wp2
              go_region
              all_goals
                go_wp2
                go_roundw
                case rel => exact ⟨k + 1, (o ++ [(t : Int)]).set t (k : Int), q, by omega, by go_num, ⟨by simp [Hok.out], by simp at hsk; omega, Hop.out.pop, Hpg.out.trans Hs.out, RowsAt.fitted Hok.out HRD.out rfl, below_as ((hBD.setCell (p := ⟨gA, k, none⟩) hgA (.int .i64 (t : Int))).setCell (p := ⟨gA, t, none⟩) hgA (.int .i64 (k : Int))) ⟨rfl, rfl, rfl, rfl⟩⟩⟩
                case measure => simp [intOf]; omega
      · have Hs := Lib.hid (show pgo l (l.drop k) k o s = pgo l (l.drop (k + 1)) (k + 1) (o ++ [-1]) s by rw [Hd.out]; exact pgo_else ho hcl)
        have hclo : ∀ at_ W, Calls Tryz.prog 25 #[.agg #[.int .u8 (x.kind : Int), .string x.text, .int .i64 at_]] W fun e w' => e = .returned (.string ⟨#[]⟩) ∧ Below W.heap.size W w' := fun at_ W => closing_is x at_ _ W (.inr (.inr ⟨by simpa using q1, by simpa using q2, rfl⟩))
        have Hclo := Lib.hid hclo
        have q5 : (x.text.toList != [41]) = true := by rw [bne, q3]; rfl
        have q6 : (x.text.toList != [125]) = true := by rw [bne, q4]; rfl
        obtain ⟨AS, cS, rfl⟩ := own_form hrows.opn
        clear hclo ho hcl hgd q1 q2
        go_wp2_with (first
          | (go_at_call 25; refine (Hclo.out _ _).mono ?_; rintro e wB ⟨rfl, hbB⟩; have hRB := hRA.below hbB; have hBB := hbA.trans (hbB.mono hbA.size); obtain ⟨r1, r2, at2, r3⟩ := HC.out _ hBB k x Hx.out)
          | (at_builtin; refine wpList_append_own_at _ rfl _ _ 28 rfl w.heap.size 3 i0 _ 1 8 Tryz.underlying28 hi hz0 hzz1 hz2 rfl (by decide) _ _ _ rfl (hrows.out.alloc _) ⟨wr.heap.size, 0, none⟩ 1 1 [.int .i64 (-1)] rfl rfl (lit_new _ _ _ rfl _) (fun u hu => by simp at hu; subst hu; rfl) (by unfold maxLen; omega) (by omega) (by simp; omega) ?_; intro vA wA hownA hgrowA _ hatA; have hRA := (hrows.alloc (.cells #[.int .i64 (-1)] 3)).pushOut hownA hgrowA hatA; have hbA := (hbw.alloc hbz _).grown hgrowA (by simp; omega) (fun j hj => (World.ownsRow.lt hrows.out j hj).1); obtain ⟨p1, p2, at1, p3⟩ := HC.out _ hbA k x Hx.out; obtain ⟨AA, cA, rfl⟩ := own_form hownA))
        go_roundw
        case rel => exact ⟨k + 1, o ++ [-1], s, by omega, by go_num, ⟨by simp [Hok.out], by omega, Hop.out.next, Hpg.out.trans Hs.out, hRB, hBB⟩⟩
        case measure => simp [intOf]; omega
    · have hdl : l.drop k = [] := List.drop_of_length_le (by omega)
      rw [hdl] at hpg
      by_cases hs0 : s.length = 0
      · obtain rfl : s = [] := List.length_eq_zero_iff.1 hs0
        have Hf := Lib.hid (show pairsOf l = (o, 0, 0) from Hp.out.trans (hpg.trans (by rw [pgo, if_pos (by rfl)])))
        obtain ⟨AO, cO, rfl⟩ := own_form hrows.out
        obtain ⟨AS, cS, rfl⟩ := own_form hrows.opn
        have Hrow := Lib.hid hrows.out
        clear hA hdl hpg hs0 hok hrows
        go_wp2
        go_ret3
        exact PairsP.good Hf.out rfl Hrow.out hbw
      · cases s with
        | nil => exact absurd rfl hs0
        | cons a r =>
          have Hf := Lib.hid (show pairsOf l = ([], a, 4) from Hp.out.trans (hpg.trans (by rw [pgo, if_neg hs0]; rfl)))
          have hown5 := hrows.opn
          rw [show (a :: r).length = r.length + 1 from rfl] at hown5
          obtain ⟨g, cap, rfl⟩ := ownsRow_succ hown5
          have rq : wr.cell? ⟨g, 0, none⟩ = some (.int .i64 (a : Int)) := by rw [hown5.cellAt 0 (by omega)]; simp [natVals]
          have hqi : (0 : Int) < (r.length : Int) + 1 := by omega
          obtain ⟨AO, cO, rfl⟩ := own_form hrows.out
          clear hA hdl hpg hs0 hok hrows hown5
          go_wp2
          go_quiet (fail)
          go_wp2
          go_ret3
          exact PairsP.bad Hf.out (below_draws hbw _)

end Go.Proofs.YthjnoboceibjjaaGreatDoor.Lx

namespace Go.Proofs.YthjnoboceibjjaaGreatDoor.Lx
open Go Go.Proofs Go.RowKit Go.Shelf

theorem pairs_any (v : Value) (l : List Tk) (w : World) (ha : SlTw w v l) (hl : l.length ≤ 100000) (ht : ∀ x ∈ l, x.text.size ≤ 100000) (hG : Gl w) :
    Calls Tryz.prog 8 #[v] w (PairsP w l) := by
  by_cases h0 : toksErr l = 0
  · exact pairs_good v l w ha hl ht hG h0
  · exact pairs_bad v l w ha hl ht hG h0
theorem refPairs_any (v : Value) (l : List Tk) (w : World) (ha : SlTw w v l) (hl : l.length ≤ 100000) (ht : ∀ x ∈ l, x.text.size ≤ 100000) :
    Calls Tryz.prog 9 #[v] w (PairsP w l) := by
  by_cases h0 : toksErr l = 0
  · exact refPairs_good v l w ha hl ht h0
  · exact refPairs_bad v l w ha hl ht h0
theorem pgo_len (l : List Tk) : ∀ (r : List Tk) (k : Nat) (o : List Int) (s : List Nat), (pgo l r k o s).1.length ≤ o.length + r.length := by
  intro r
  induction r with
  | nil => intro k o s; rw [pgo]; split <;> simp
  | cons x r ih =>
    intro k o s
    rw [pgo]
    split
    · have := ih (k + 1) (o ++ [-1]) (s ++ [k]); simp at this ⊢; omega
    · split
      · split
        · simp
        · split
          · have := ih (k + 1) ((o ++ [((s.getLastD 0 : Nat) : Int)]).set (s.getLastD 0) (k : Int)) s.dropLast; simp at this ⊢; omega
          · simp
      · have := ih (k + 1) (o ++ [-1]) s; simp at this ⊢; omega
theorem pairs_len (l : List Tk) : (pairsOf l).1.length ≤ l.length := by
  unfold pairsOf
  split
  · simp
  · have := pgo_len l l 0 [] []; simpa using this

set_option maxRecDepth 100000 in
set_option maxHeartbeats 8000000 in
theorem lexTights_in (A : Option Addr) (c : Nat) (l : List Ta) (w : World) (hG : Gl w) (hsrc : Src w (.slice A l.length c) l.length (taCells l)) (hl0 : l.length ≤ 140737488355328) (hsh : shortB (l.map Ta.tk) = true) :
    Calls Tryz.prog 3 #[.slice A l.length c] w (AwakeP w) := by
  obtain ⟨i0, hi, hz0, hz1, hz2⟩ := info_parts tk_info
  have hmap : (l.map Ta.tk).length = l.length := List.length_map _
  have hl1 : l.length ≤ 1000 := by
    unfold shortB at hsh
    rw [Bool.and_eq_true] at hsh
    have := of_decide_eq_true hsh.2
    omega
  have htt : ∀ x ∈ l.map Ta.tk, x.text.size ≤ 100000 := by
    intro x hx
    unfold shortB at hsh
    rw [Bool.and_eq_true, List.all_eq_true] at hsh
    have := of_decide_eq_true (hsh.1 x hx)
    omega
  have hsl := SlTw.of_src hsrc
  have Hshort := Lib.hid (short_any (.slice A l.length c) (l.map Ta.tk) w hsl (by omega) (fun x hx => Nat.le_trans (htt x hx) (by omega)))
  have Hti := Lib.hid (fun v W hv hG' => tight_any v (l.map Ta.tk) W hv (by omega) htt hG')
  have Hrt := Lib.hid (fun W hv => refTight_any (.slice A l.length c) (l.map Ta.tk) W hv (by omega) htt)
  have Hpa := Lib.hid (fun v W hv hG' => pairs_any v (l.map Ta.tk) W hv (by omega) htt hG')
  have Hrp := Lib.hid (fun W hv => refPairs_any (.slice A l.length c) (l.map Ta.tk) W hv (by omega) htt)
  have hpl : (pairsOf (l.map Ta.tk)).1.length ≤ 1000 := by have := pairs_len (l.map Ta.tk); omega
  have Hso := Lib.hid (fun W v (h : Src W v l.length (taCells l)) => SlTw.of_src h)
  have Hsh := Lib.hid hsh
  have HS := Lib.hid hsl
  have Hsrc := Lib.hid hsrc
  unfold PairsP at Hpa Hrp
  clear hsl hsrc htt hmap hsh
  generalize l.map Ta.tk = L at *
  generalize pairsOf L = P at *
  generalize tight L = T at *
  generalize tightErr L = te at *
  go_enter Tryz.func3, Tryz.ntmps3
  go_wp2_with (first
    | (go_at_call 5; refine (awake_any _ (hG.next hB7)).mono ?_; rintro e w8 ⟨rfl, hb8⟩; have hB8 := hB7.trans (hb8.mono hB7.size))
    | (go_at_call 10; refine (sameInts_self _ _ P.1 _ (hin5.below hb6) hin6 (by omega)).mono ?_; rintro e w7 ⟨rfl, hb7⟩; have hB7 := hB6.trans (hb7.mono hB6.size))
    | (go_at_call 9; refine (Hrp.out _ (HS.out.below hB5)).mono ?_; rintro e w6 ⟨u6, rfl, hin6, hb6⟩; have hB6 := hB5.trans (hb6.mono hB5.size))
    | (go_at_call 8; refine (Hpa.out _ _ (Hso.out _ _ (Src.of_own hown4 (by decide))) (hG.next hB4)).mono ?_; rintro e w5 ⟨u5, rfl, hin5, hb5⟩; have hB5 := hB4.trans (hb5.mono hB4.size))
    | (at_builtin; have hpast := hb3; refine wpList_copy rfl _ _ 22 rfl 33 i0 _ 3 32 Tryz.underlying22 hi hz0 hz1 hz2 rfl (by decide) rfl _ l.length (taCells l) rfl (Hsrc.out.next hB3) (taCells_len l) (taCells_one l) (by unfold maxLen; omega) (by omega) ?_; intro v4 w4 hown4 hb4; have hB4 := hB3.trans (hb4.mono hB3.size); obtain ⟨A4, c4, rfl⟩ := own_form hown4)
    | (go_at_call 7; refine (Hrt.out _ (HS.out.below hB2)).mono ?_; rintro e w3 ⟨rfl, hb3⟩; have hB3 := hB2.trans (hb3.mono hB2.size))
    | (go_at_call 6; refine (Hti.out _ _ (Hso.out _ _ (Src.of_own hown1 (by decide))) (hG.next hb1)).mono ?_; rintro e w2 ⟨rfl, hb2⟩; have hB2 := hb1.trans (hb2.mono hb1.size))
    | (at_builtin; refine wpList_copy rfl _ _ 22 rfl 33 i0 _ 3 32 Tryz.underlying22 hi hz0 hz1 hz2 rfl (by decide) rfl _ l.length (taCells l) rfl Hsrc.out (taCells_len l) (taCells_one l) (by unfold maxLen; omega) (by omega) ?_; intro v1 w1 hown1 hb1; obtain ⟨A1, c1, rfl⟩ := own_form hown1)
    | (go_at_call 4; refine Hshort.out.mono ?_; rw [Hsh.out]; rintro e w' ⟨rfl, rfl⟩))
  go_ret
  exact ⟨rfl, hB8⟩

set_option maxRecDepth 100000 in
set_option maxHeartbeats 4000000 in
theorem lexTights_any (A : Option Addr) (c : Nat) (l : List Ta) (w : World) (hG : Gl w) (hsrc : Src w (.slice A l.length c) l.length (taCells l)) (hl0 : l.length ≤ 140737488355328) (ht : ∀ x ∈ l, x.tk.text.size ≤ 140737488355328) :
    Calls Tryz.prog 3 #[.slice A l.length c] w (AwakeP w) := by
  cases hsh : shortB (l.map Ta.tk) with
  | true => exact lexTights_in A c l w hG hsrc hl0 hsh
  | false =>
    have htx : ∀ x ∈ l.map Ta.tk, x.text.size ≤ 140737488355328 := fun x hx => by
      obtain ⟨y, hy, rfl⟩ := List.mem_map.1 hx
      exact ht y hy
    have hshort := short_any (.slice A l.length c) (l.map Ta.tk) w (SlTw.of_src hsrc) (by rw [List.length_map]; omega) htx
    rw [hsh] at hshort
    have Hshort := Lib.hid hshort
    clear hshort hsrc ht htx hsh
    generalize l.map Ta.tk = L at *
    generalize l.length = n at *
    go_enter Tryz.func3, Tryz.ntmps3
    go_wp2_with (first
      | (go_at_call 4; refine Hshort.out.mono ?_; rintro e w' ⟨rfl, rfl⟩)
      | (go_at_call 5; refine (awake_any _ hG).mono ?_; rintro e w1 ⟨rfl, hb1⟩))
    go_ret
    exact ⟨rfl, hb1⟩

end Go.Proofs.YthjnoboceibjjaaGreatDoor.Lx
