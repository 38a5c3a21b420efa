/- The iterator over all places of an arena. -/
import Derived.Test.YtoncdnelacolaaaGreatDoorAIterC
import Derived.Test.YtoncdnelacolaaaGreatDoorAWalkG
namespace Go.Proofs.YtoncdnelacolaaaGreatDoor.Ar
open Go Go.Proofs Go.RowKit Lx Ps
attribute [local go_sem] Oper.semAt_some

/-- What the iterator may write: variables that hold places. -/
def PlaceO (o : Obj) : Prop := ∃ (cs : Array Value) (fr : Nat × Nat), o = .cells cs 85 fr
/-- What the iterators over places may turn: those, and records of loops. -/
def AnyO (o : Obj) : Prop := o.isCells = false ∨ PlaceO o

theorem set_one {W : World} {b i : Nat} {cs : Array Value} {t : TypeId} {v : Value} (h : W.heap[b]? = some (.cells cs t (0, 0))) : (W.setCell ⟨b, i, none⟩ v).heap[b]? = some (.cells (cs.setIfInBounds i v) t (0, 0)) := by
  rw [setCell_eq_setRow W b i cs t (0, 0) v h]
  exact setRow_heap _ _ _ _ _ _ h
theorem five_set {W : World} {b : Nat} {x0 x1 x2 x3 x4 y0 y1 y2 y3 y4 : Value} {t : TypeId} (h : W.heap[b]? = some (.cells #[x0, x1, x2, x3, x4] t (0, 0))) :
    (((((W.setCell ⟨b, 0, none⟩ y0).setCell ⟨b, 1, none⟩ y1).setCell ⟨b, 2, none⟩ y2).setCell ⟨b, 3, none⟩ y3).setCell ⟨b, 4, none⟩ y4).heap[b]? = some (.cells #[y0, y1, y2, y3, y4] t (0, 0)) :=
  set_one (set_one (set_one (set_one (set_one h))))
theorem five_grown (W : World) (b : Nat) (y0 y1 y2 y3 y4 : Value) :
    W.grownBy (((((W.setCell ⟨b, 0, none⟩ y0).setCell ⟨b, 1, none⟩ y1).setCell ⟨b, 2, none⟩ y2).setCell ⟨b, 3, none⟩ y3).setCell ⟨b, 4, none⟩ y4) (some b) := by
  have tr : ∀ {X Y Z : World}, X.grownBy Y (some b) → Y.grownBy Z (some b) → X.grownBy Z (some b) := fun h k =>
    ⟨k.os.trans h.os, k.tape.trans h.tape, k.output.trans h.output, Nat.le_trans h.size k.size, fun i hi hne => (k.block i (Nat.lt_of_lt_of_le hi h.size) hne).trans (h.block i hi hne)⟩
  have st : ∀ (X : World) (i : Nat) (y : Value), X.grownBy (X.setCell ⟨b, i, none⟩ y) (some b) := fun X i y =>
    ⟨rfl, rfl, rfl, by simp, fun k _ hne => by
      have hk : ¬ b = k := fun e => hne (by rw [e])
      rw [World.setCell]
      simp [Array.getElem?_modify, hk]⟩
  exact tr (tr (tr (tr (st _ _ _) (st _ _ _)) (st _ _ _)) (st _ _ _)) (st _ _ _)

theorem rowL_some {a : Ar} {k : Nat} (hk : k ≤ a.ids.length) : 0 < (rowL a k).length := by
  unfold rowL
  split
  · simp
  · rename_i h
    have : k - 1 < a.ids.length := by omega
    rw [List.getElem?_eq_getElem this]
    simp
theorem plAt_nat (a : Ar) (k j : Nat) : plAt a k j = (rowL a k)[j]? := by
  unfold plAt
  rw [if_neg (by omega), Int.toNat_natCast, Int.toNat_natCast]
def rowsK (a : Ar) (k : Nat) : List Pl := (List.range k).flatMap (rowL a)
theorem rowsK_succ (a : Ar) (k : Nat) : rowsK a (k + 1) = rowsK a k ++ rowL a k := by
  unfold rowsK
  rw [List.range_succ, List.flatMap_append]; simp
def encP (p : Pl) : Array Value := #[plV p]
def plC (o : Option Pl) : Array Value := match o with
  | some p => #[.bool p.base.cell, .int .i64 p.base.n, .int .i64 (p.id : Int), .int .i64 (p.arg : Int), .bool p.jumps]
  | none => #[.bool false, .int .i64 0, .int .i64 0, .int .i64 0, .bool false]

theorem placesL_rows (a : Ar) : placesL a = rowsK a (a.ids.length + 1) := rfl
theorem rows_prefix {a : Ar} {k : Nat} (j : Nat) (hk : k ≤ a.ids.length) : (rowsK a k ++ (rowL a k).take j) <+: placesL a := by
  obtain ⟨r, hr⟩ := range_prefix (show k + 1 ≤ a.ids.length + 1 by omega)
  refine ⟨(rowL a k).drop j ++ r.flatMap (rowL a), ?_⟩
  rw [placesL_rows]
  unfold rowsK
  rw [← hr, List.flatMap_append, List.range_succ, List.flatMap_append]
  simp only [List.append_assoc, List.flatMap_cons, List.flatMap_nil, List.append_nil]
  rw [← List.append_assoc (List.take j _), List.take_append_drop]
theorem rowL_nums {a : Ar} {k j : Nat} {p : Pl} (h : (rowL a k)[j]? = some p) : p.id = k ∧ p.arg = j := plAt_nums ((plAt_nat a k j).trans h)
/-- The cells of the place at hand, by name. -/
theorem plR_at {a : Ar} {k j : Nat} {o : Option Pl} (h : (rowL a k)[j]? = o) : plR (plAt a k j) = .tuple #[.agg (plC o), .bool o.isSome] := by
  rw [plAt_nat, h]
  cases o <;> rfl

/-- How many places of a row are still to come. -/
def plMeas (L B : Nat) (ok : Value) (W : World) : Nat := match ok with
  | .bool true => L + 1 - (intOf ((W.cell? ⟨B, 3, none⟩).getD undef)).toNat
  | _ => 0

set_option maxRecDepth 100000 in
set_option maxHeartbeats 4000000 in
theorem places1_in (n lY : Nat) (ids : Value) (a : Ar) (w0 : World) (J Jx : List Pl → World → Prop) (W : World) (hn : 1 ≤ n) (hin : ArIn w0 ids a) (hw : Below w0.heap.size w0 W)
    (hJ : AbidesAl AnyO W.heap.size J)
    (hY : ∀ pre x W1, J pre W1 → pre ++ [x] <+: placesL a → YieldAt Fence.wide (n - 1) Tryz.prog lY (encP x) W1 fun e W' =>
      (e = .returned (.bool true) ∧ J (pre ++ [x]) W' ∧ Kp w0.heap.size W1 W') ∨ (e = .returned (.bool false) ∧ Jx (pre ++ [x]) W')) (h0 : J [] W) :
    CallsIn Fence.wide n Tryz.prog 61 #[arV ids a, .func (.yield lY) #[] #[]] W fun e W' => (∃ v, e = .returned v) ∧
      ((∃ ys, ys = placesL a ∧ J ys W') ∨ (∃ pre, pre <+: placesL a ∧ Jx pre W')) := by
  have hpl : ∀ (k j : Nat) V, Below w0.heap.size w0 V → Calls Tryz.prog 70 #[arV ids a, .int .i64 (k : Int), .int .i64 (j : Int)] V fun r w' => r = .returned (plR (plAt a k j)) ∧ Below V.heap.size V w' := fun k j V hb => place_any ids a k j V (hin.below hb)
  have hlen := hin.len
  have hrl : ∀ k, (rowL a k).length ≤ 140737488355330 := by
    intro k
    unfold rowL
    split
    · simp
    · split
      · simp
      · rename_i t ht
        rw [List.length_cons, paramsFrom_length]
        have := hin.lens t (List.mem_of_getElem? ht)
        omega
  obtain ⟨A, cap, rfl, -⟩ := hin.sl
  clear hin
  have hb0 : Below W.heap.size W (W.alloc (.cells #[.slice A a.ids.length cap, .bool a.root.cell, .int .i64 a.root.n, .bool a.jumps] 80)) := (Below.refl _ _).alloc (Nat.le_refl _) _
  have hbx := heap_alloc_new W (.cells #[.slice A a.ids.length cap, .bool a.root.cell, .int .i64 a.root.n, .bool a.jumps] 80 (0, 0))
  have Hpl := Lib.hid hpl
  have HJ := Lib.hid hJ
  have HY := Lib.hid hY
  have HR := Lib.hid hrl
  clear hpl hJ hY hrl
  unfold arV at *
  refine callsIn_of_wp Tryz.func61 rfl trivial ?_ rfl
  simp only [Tryz.ntmps61, List.size_toArray, List.length_cons, List.length_nil, Nat.reduceAdd, Nat.reduceSub, Array.replicate_succ, Array.replicate_zero, List.push_toArray, List.append_toArray, List.nil_append, List.cons_append]
  gi_wp2
  gi_loopw [4, 5, 6, 12] (fun _ _ _ c wr => ∃ k : Nat, k ≤ a.ids.length + 1 ∧ c = .int .i64 (k : Int) ∧ J (rowsK a k) wr ∧ Below w0.heap.size w0 wr ∧ W.heap.size ≤ wr.heap.size ∧ wr.heap[W.heap.size]? = some (.cells #[.slice A a.ids.length cap, .bool a.root.cell, .int .i64 a.root.n, .bool a.jumps] 80 (0, 0))) (fun _ _ _ c _ => a.ids.length + 1 - (intOf c).toNat)
  case atStart => exact ⟨0, Nat.zero_le _, rfl, abides_next HJ.out h0 hb0, hw.trans (hb0.mono hw.size), hb0.size, hbx⟩
  case round =>
    obtain ⟨k, hk, rfl, hJk, hbw, hzk, hbk⟩ := hrel
    obtain ⟨⟨d0, d1, d2, d3⟩, -, -⟩ := four_c hbk
    have HJk := Lib.hid hJk
    have Hbk := Lib.hid hbk
    clear hJk hbk hbx h0 hb0
    by_cases hlt : k < a.ids.length + 1
    · obtain ⟨p0, hp0⟩ : ∃ p0, (rowL a k)[0]? = some p0 := ⟨_, List.getElem?_eq_getElem (rowL_some (by omega))⟩
      have hcall := Hpl.out k 0 wr hbw
      rw [plR_at hp0] at hcall
      have Hcall := Lib.hid hcall
      have Hp0 := Lib.hid hp0
      clear hcall hp0
      dsimp only [plC, Option.isSome] at Hcall
      gi_wp2_with (refine ⟨trivial, ?_⟩; gi_at_call 70; refine (callsIn_wide.2 Hcall.out).mono ?_; rintro e w1 ⟨rfl, hb1⟩)
      have hbp := heap_alloc_new w1 (.cells #[.bool p0.base.cell, .int .i64 p0.base.n, .int .i64 (p0.id : Int), .int .i64 (p0.arg : Int), .bool p0.jumps] 85)
      have hz1 : W.heap.size ≤ w1.heap.size := Nat.le_trans hzk hb1.size
      have hb2 : Below w0.heap.size w0 w1 := hbw.trans (hb1.mono hbw.size)
      have hbk2 := (Below.heap_alloc w1 (.cells #[.bool p0.base.cell, .int .i64 p0.base.n, .int .i64 (p0.id : Int), .int .i64 (p0.arg : Int), .bool p0.jumps] 85) _ (Nat.lt_of_lt_of_le (Array.getElem?_eq_some_iff.1 Hbk.out).1 hb1.size)).trans ((hb1.block _ (Array.getElem?_eq_some_iff.1 Hbk.out).1).trans Hbk.out)
      have hJ2 := abides_next HJ.out (abides_next HJ.out HJk.out hb1) ((Below.refl _ w1).alloc (Nat.le_refl _) (.cells #[.bool p0.base.cell, .int .i64 p0.base.n, .int .i64 (p0.id : Int), .int .i64 (p0.arg : Int), .bool p0.jumps] 85))
      have hRlt : W.heap.size < w1.heap.size := Nat.lt_of_lt_of_le (Array.getElem?_eq_some_iff.1 Hbk.out).1 hb1.size
      have hn0 : w0.heap.size ≤ w1.heap.size := hb2.size
      gi_loopw [6] (fun ok wr2 => ∃ (j : Nat) (o : Option Pl), j ≤ (rowL a k).length ∧ (rowL a k)[j]? = o ∧ ok = .bool o.isSome ∧ J (rowsK a k ++ (rowL a k).take j) wr2 ∧ Below w0.heap.size w0 wr2 ∧ W.heap.size ≤ wr2.heap.size ∧ wr2.heap[W.heap.size]? = some (.cells #[.slice A a.ids.length cap, .bool a.root.cell, .int .i64 a.root.n, .bool a.jumps] 80 (0, 0)) ∧ wr2.heap[w1.heap.size]? = some (.cells (plC o) 85 (0, 0)))
        (fun ok wr2 => plMeas (rowL a k).length w1.heap.size ok wr2)
      case atStart =>
        exact ⟨0, some p0, Nat.zero_le _, Hp0.out, rfl, by simpa using hJ2, hb2.alloc hb2.size _, by rw [alloc_sz2]; omega, hbk2, hbp⟩
      case round =>
        obtain ⟨j, o, hj, ho, rfl, hJj, hbj, hzj, hbkj, hbpj⟩ := hrel
        have HJj := Lib.hid hJj
        have Hbkj := Lib.hid hbkj
        have Hbpj := Lib.hid hbpj
        clear hJj hbp hbk2 hJ2
        cases o with
        | none =>
          have hjL : j = (rowL a k).length := by
            have := List.getElem?_eq_none_iff.1 ho
            omega
          have Ho := Lib.hid hjL
          clear hbkj hbpj ho hjL
          gi_wp2
          go_roundw
          case rel =>
            refine ⟨k + 1, by omega, by go_num, ?_, hbj, hzj, Hbkj.out⟩
            rw [rowsK_succ]
            have := HJj.out
            rw [Ho.out, List.take_length] at this
            exact this
          case measure => simp [intOf]; omega
        | some p =>
          obtain ⟨hpi, hpa⟩ := rowL_nums ho
          have hjL : j < (rowL a k).length := (List.getElem?_eq_some_iff.1 ho).1
          have hcallj := Hpl.out k (j + 1)
          obtain ⟨o2, ho2⟩ : ∃ o2, (rowL a k)[j + 1]? = o2 := ⟨_, rfl⟩
          have hpre : rowsK a k ++ (rowL a k).take (j + 1) = rowsK a k ++ (rowL a k).take j ++ [p] := by
            rw [List.take_add_one, ho]; simp
          have hyl := HY.out _ p wr HJj.out (hpre ▸ rows_prefix (j + 1) (show k ≤ a.ids.length by omega))
          rw [← hpre] at hyl
          obtain ⟨fn, tmps, assign, body, hy0, hR⟩ := hyl
          have hy : (Instr.yield lY #[.agg #[.bool p.base.cell, .int .i64 p.base.n, .int .i64 (p.id : Int), .int .i64 (p.arg : Int), .bool p.jumps]]).run Tryz.prog wr = .ok (.round lY fn tmps assign body) wr := hy0
          have hpx := rows_prefix (j + 1) (show k ≤ a.ids.length by omega)
          dsimp only [plC] at hbpj
          obtain ⟨⟨e0, e1, e2, e3, e4⟩, -, -⟩ := five_c hbpj
          obtain ⟨⟨d0, d1, d2, d3⟩, -, -⟩ := four_c hbkj
          have hrk := HR.out k
          have Ho2 := Lib.hid ho2
          have Hpx := Lib.hid hpx
          have Hpi := Lib.hid (And.intro hpi hpa)
          clear hy0 hbkj ho ho2 hpre hpx hpi hpa hbpj
          gi_wp2
          refine hR.mono ?_
          rintro e' w5 (⟨rfl, hJ5, hk5⟩ | ⟨rfl, hJx5⟩)
          · have hbk5 := hk5.cells Hbkj.out (by decide) (by decide)
            have hbp5 := hk5.cells Hbpj.out (by decide) (by decide)
            dsimp only [plC] at hbp5
            rw [Hpi.out.1, Hpi.out.2] at hbp5
            have hb5 : Below w0.heap.size w0 w5 := hbj.trans hk5.1
            have hz5 : W.heap.size ≤ w5.heap.size := Nat.le_trans hzj hk5.1.size
            have ej : ((j + 1 : Nat) : Int) = (j : Int) + 1 := by omega
            have hc5 := hcallj w5 hb5
            rw [plR_at Ho2.out, ej] at hc5
            have HM := Lib.hid (show plMeas (rowL a k).length w1.heap.size (.bool true) wr = (rowL a k).length + 1 - j by
              unfold plMeas
              rw [show wr.cell? ⟨w1.heap.size, 3, none⟩ = some (.int .i64 (p.arg : Int)) from cell_of_row _ _ 3 _ _ _ Hbpj.out, Hpi.out.2]
              simp [intOf])
            have Hbp5 := Lib.hid hbp5
            have Hbk5 := Lib.hid hbk5
            obtain ⟨⟨f0, f1, f2, f3⟩, -, fl⟩ := four_c hbk5
            obtain ⟨⟨g0, g1, g2, g3, g4⟩, -, gl⟩ := five_c hbp5
            have hj64 : (j : Int) ≤ 140737488355330 := by omega
            have hj00 : (0 : Int) ≤ (j : Int) := by omega
            have HH := Lib.hid (And.intro hjL (And.intro hn0 (And.intro hRlt hz1)))
            clear e0 e1 e2 e3 e4 d0 d1 d2 d3 hbk5 hbp5 hcallj ej hy hR hk5
            cases o2
            all_goals
              have Hc5 := Lib.hid hc5
              clear hc5
              dsimp only [plC, Option.isSome] at Hc5
              gi_wp2_with (refine ⟨trivial, ?_⟩; gi_at_call 70; refine (callsIn_wide.2 Hc5.out).mono ?_; rintro e w6 ⟨rfl, hb6⟩; have hbp6 := Lib.hid (heap_below hb6 gl Hbp5.out); have hbk6 := Lib.hid (heap_below hb6 fl Hbk5.out); obtain ⟨⟨q0, q1, q2, q3, q4⟩, ⟨p0, p1, p2, p3, p4⟩, ql⟩ := five_c hbp6.out; clear f0 f1 f2 f3 g0 g1 g2 g3 g4)
              go_roundw
              case rel =>
                refine ⟨j + 1, _, by omega, Ho2.out, rfl, ?_, ?_, ?_, ?_, ?_⟩
                · exact HJ.out _ _ _ _ (abides_next HJ.out hJ5 hb6) (five_grown w6 w1.heap.size _ _ _ _ _) (fun r e => by
                    injection e with e
                    subst e
                    exact ⟨HH.out.2.2.2, _, hbp6.out, .inr ⟨_, _, rfl⟩⟩)
                · exact below5s (hb5.trans (hb6.mono hb5.size)) HH.out.2.1
                · have := hb6.size
                  simp; omega
                · exact ((five_grown w6 w1.heap.size _ _ _ _ _).block _ (Nat.lt_of_lt_of_le fl hb6.size) (fun e => by injection e with e; have := HH.out.2.2.1; omega)).trans hbk6.out
                · exact five_set hbp6.out
              case measure =>
                refine Nat.lt_of_lt_of_eq ?_ HM.out.symm
                unfold plMeas
                first
                  | (dsimp only; omega)
                  | (dsimp only
                     rw [show World.cell? _ ⟨w1.heap.size, 3, none⟩ = _ from cell_of_row _ _ 3 _ _ _ (five_set hbp6.out)]
                     have := (rowL_nums Ho2.out).2
                     simp [intOf, this]; omega)
          · gi_wp2
            refine bodyPost_ret (results_none rfl _ _ _) rfl ?_
            exact ⟨⟨_, rfl⟩, .inr ⟨_, Hpx.out, hJx5⟩⟩
    · have hkN : k = a.ids.length + 1 := by omega
      subst hkN
      gi_wp2
      go_end0
      exact ⟨⟨_, rfl⟩, .inl ⟨_, (placesL_rows a).symm, HJk.out⟩⟩

/-- The iterator over the places stops. -/
theorem places_seq (n : Nat) (ids : Value) (a : Ar) (w0 w : World) (hn : 1 ≤ n) (hin : ArIn w0 ids a) (hw : Below w0.heap.size w0 w) :
    SeqAt AnyO Fence.wide n Tryz.prog 61 (fun y => #[arV ids a] ++ #[y]) encP (Kp w0.heap.size) (fun ys => ys = placesL a) (fun pre => pre <+: placesL a) (fun pre x => pre ++ [x] <+: placesL a) w :=
  fun l J Jx W hW hJ _ hY h0 => places1_in n l ids a w0 J Jx W hn hin (hw.trans (hW.mono hw.size)) hJ (fun pre x V hv hl => (hY pre x V hv hl).mono (fun _ _ h => h.imp (fun h => ⟨h.1, h.2.1, h.2.2.1⟩) (fun h => ⟨h.1, h.2.1⟩))) h0

end Go.Proofs.YtoncdnelacolaaaGreatDoor.Ar
