/- Slices of tokens that are compared: SameTokens of the reference. -/
import Derived.Test.YthjnoboceibjjaaGreatDoorWalkH
import Derived.Laws.StructEq
import Derived.Laws.OwnMore
namespace Go.Proofs.YthjnoboceibjjaaGreatDoor.Lx
open Go Go.Proofs Go.RowKit Go.Shelf

/-- A slice value that holds tokens, wherever it lies. -/
def SlTk (W : World) (v : Value) (l : List Tk) : Prop :=
  ∃ A cap, v = .slice A l.length cap ∧ (0 < l.length → ∃ b off, A = some ⟨b, off, none⟩ ∧ b < W.heap.size ∧ ∀ i t, l[i]? = some t →
    W.cell? ⟨b, off + i * 3, none⟩ = some (.int .u8 (t.kind : Int)) ∧ W.cell? ⟨b, off + i * 3 + 1, none⟩ = some (.string t.text) ∧ W.cell? ⟨b, off + i * 3 + 2, none⟩ = some (.int .i64 (t.pos : Int)))

/-- Two tokens are the same, as the model reckons it. -/
def sameTk (x y : Tk) : Bool := (x.kind == y.kind) && ((x.text.toList == y.text.toList) && (x.pos == y.pos))

theorem tk_fields : Tryz.prog.underlying 33 = some (.struct (Tryz.prog.fieldsOf 33)) := by kernel_rfl
theorem tk_stood : Tryz.prog.stoodInHeld 33 = false := by kernel_rfl
theorem tk_list : (Tryz.prog.fieldsOf 33).toList = [⟨"Kind", 5, 0, false, "", "", 0⟩, ⟨"Text", 9, 1, false, "", "", 8⟩, ⟨"At", 3, 2, false, "", "", 24⟩] := by kernel_rfl
theorem tk_equal (x y : Tk) (W : World) : (Op.equalIn 10000 33 (.agg #[.int .u8 (x.kind : Int), .string x.text, .int .i64 (x.pos : Int)]) (.agg #[.int .u8 (y.kind : Int), .string y.text, .int .i64 (y.pos : Int)])).run Tryz.prog W = .ok (sameTk x y) W := by
  rw [run_equalIn_agg W 9999 _ _ _ tk_fields tk_stood, tk_list]
  have u5 : Tryz.prog.underlying 5 = some (.int .u8) := Tryz.underlying5
  have u9 : Tryz.prog.underlying 9 = some .string := Tryz.underlying9
  have u3 : Tryz.prog.underlying 3 = some (.int .i64) := Tryz.underlying3
  simp [Op.eqFields, go_sem, sameTk]
  by_cases h1 : x.kind = y.kind <;> by_cases h2 : x.text.toList = y.text.toList <;> by_cases h3 : x.pos = y.pos <;> simp [h1, h2, h3]
  all_goals first | done | (simp [show ¬ ((x.kind : Int) = (y.kind : Int)) from by omega]; first | assumption | omega) | (simp [show ¬ ((x.pos : Int) = (y.pos : Int)) from by omega]; first | assumption | omega)
theorem sameTk_iff (x y : Tk) : sameTk x y = true ↔ x = y := by
  obtain ⟨k, t, p⟩ := x
  obtain ⟨k', t', p'⟩ := y
  have ht : t.toList = t'.toList ↔ t = t' := by
    rw [ByteArray.toList_eq, ByteArray.toList_eq]
    obtain ⟨⟨a⟩⟩ := t
    obtain ⟨⟨b⟩⟩ := t'
    simp
  simp [sameTk, ht]

theorem below_draws {B : Nat} {a w : World} (h : Below B a w) (n : Nat) : Below B a (w.drewN n) := ⟨h.os, h.tape, h.output, h.size, h.block⟩

theorem SlTk.below {W W' : World} {v : Value} {l : List Tk} (h : SlTk W v l) (hb : Below W.heap.size W W') : SlTk W' v l := by
  obtain ⟨A, cap, rfl, hA⟩ := h
  refine ⟨A, cap, rfl, fun h0 => ?_⟩
  obtain ⟨b, off, rfl, hlt, hc⟩ := hA h0
  refine ⟨b, off, rfl, Nat.lt_of_lt_of_le hlt hb.size, fun i t ht => ?_⟩
  obtain ⟨p1, p2, p3⟩ := hc i t ht
  exact ⟨(hb.cell (p := ⟨b, off + i * 3, none⟩) hlt).trans p1, (hb.cell (p := ⟨b, off + i * 3 + 1, none⟩) hlt).trans p2, (hb.cell (p := ⟨b, off + i * 3 + 2, none⟩) hlt).trans p3⟩

set_option maxHeartbeats 800000 in
theorem sameTokens_any (a b : Value) (l m : List Tk) (w : World) (ha : SlTk w a l) (hb : SlTk w b m) (hl : l.length ≤ 100000) (hm : m.length ≤ 100000) [Decidable (l = m)] :
    Calls Tryz.prog 15 #[a, b] w fun e w' => e = .returned (.bool (decide (l = m))) ∧ Below w.heap.size w w' := by
  obtain ⟨A, ca, rfl, hA⟩ := ha
  obtain ⟨B, cb, rfl, hB⟩ := hb
  by_cases hlen : l.length = m.length
  · have ht : ((l.length : Int) != (m.length : Int)) = false := by simp; omega
    have Hlen := Lib.hid hlen
    clear hlen
    go_enter Tryz.func15, Tryz.ntmps15
    go_wp2
    go_loopw [5] (fun i wr => ∃ k : Nat, k ≤ l.length ∧ i = .int .i64 k ∧ (∀ j, j < k → l[j]? = m[j]?) ∧ Below w.heap.size w wr) (fun i _ => l.length - (intOf i).toNat)
    case atStart => exact ⟨0, Nat.zero_le _, rfl, fun j h => absurd h (by omega), Below.refl _ _⟩
    case round =>
      obtain ⟨k, hk, rfl, hj, hbw⟩ := hrel
      have Hj := Lib.hid hj
      clear hj
      by_cases hlt : k < l.length
      · obtain ⟨b1, o1, rfl, hb1, hc1⟩ := hA (by omega)
        obtain ⟨b2, o2, rfl, hb2, hc2⟩ := hB (by have := Hlen.out; omega)
        have hkm : k < m.length := by have := Hlen.out; omega
        obtain ⟨p1, p2, p3⟩ := hc1 k _ (List.getElem?_eq_getElem hlt)
        obtain ⟨q1, q2, q3⟩ := hc2 k _ (List.getElem?_eq_getElem hkm)
        have p1' := (hbw.cell (p := ⟨b1, o1 + k * 3, none⟩) hb1).trans p1
        have p2' := (hbw.cell (p := ⟨b1, o1 + k * 3 + 1, none⟩) hb1).trans p2
        have p3' := (hbw.cell (p := ⟨b1, o1 + k * 3 + 2, none⟩) hb1).trans p3
        have q1' := (hbw.cell (p := ⟨b2, o2 + k * 3, none⟩) hb2).trans q1
        have q2' := (hbw.cell (p := ⟨b2, o2 + k * 3 + 1, none⟩) hb2).trans q2
        have q3' := (hbw.cell (p := ⟨b2, o2 + k * 3 + 2, none⟩) hb2).trans q3
        clear p1 p2 p3 q1 q2 q3 hc1 hc2 hA hB
        have Hx := Lib.hid (List.getElem?_eq_getElem hlt)
        have Hy := Lib.hid (List.getElem?_eq_getElem hkm)
        generalize l[k] = x at p1' p2' p3' Hx
        generalize m[k] = y at q1' q2' q3' Hy
        by_cases hxy : x = y
        · have hne := fun W => (tk_equal x y W).trans (by rw [(sameTk_iff x y).2 hxy])
          have Hxy := Lib.hid hxy
          clear hxy
          go_wp2
          go_quiet (fail)
          go_wp2
          go_roundw
          case rel =>
            refine ⟨k + 1, by omega, by go_num, fun j hj => ?_, below_draws hbw _⟩
            rcases Nat.lt_succ_iff_lt_or_eq.1 hj with h | rfl
            · exact Hj.out j h
            · rw [Hx.out, Hy.out, Hxy.out]
          case measure => simp [intOf]; omega
        · have hf : sameTk x y = false := by
            cases h : sameTk x y
            · rfl
            · exact absurd ((sameTk_iff x y).1 h) hxy
          have hne := fun W => (tk_equal x y W).trans (by rw [hf])
          have Hxy := Lib.hid hxy
          clear hxy hf
          go_wp2
          go_quiet (fail)
          go_wp2
          go_ret
          refine ⟨ret_bool (decide_eq_false ?_).symm, below_draws hbw _⟩
          rintro rfl
          have := Hx.out.symm.trans Hy.out
          exact Hxy.out (by simpa using this)
      · go_wp2
        go_ret
        refine ⟨ret_bool (decide_eq_true ?_).symm, hbw⟩
        apply List.ext_getElem?
        intro j
        by_cases h : j < k
        · exact Hj.out j h
        · rw [List.getElem?_eq_none (by omega), List.getElem?_eq_none (by have := Hlen.out; omega)]
  · have ht : ((l.length : Int) != (m.length : Int)) = true := by simp; omega
    have Hlen := Lib.hid hlen
    clear hlen
    go_enter Tryz.func15, Tryz.ntmps15
    go_wp2
    go_ret
    exact ⟨ret_bool (decide_eq_false (fun h => Hlen.out (by rw [h]))).symm, Below.refl _ _⟩

/-- What a call has made reads so. -/
theorem SlTk.of_own {W : World} {base : Nat} {v : Value} {l : List Tk} (h : W.ownsRow base 33 3 v l.length (tkCells l)) : SlTk W v l := by
  have hown := h
  rcases h.2 with ⟨rfl, h0⟩ | ⟨g, cap, cur, rfl, _, hgb, _⟩
  · exact ⟨none, 0, by rw [h0], fun h1 => absurd h1 (by omega)⟩
  refine ⟨_, cap, rfl, fun h0 => ⟨g, 0, rfl, (Array.getElem?_eq_some_iff.1 hgb).1, fun i t ht => ?_⟩⟩
  have hcells := fun j hj => World.ownsRow.cellAt hown j hj
  have hil : i < l.length := (List.getElem?_eq_some_iff.1 ht).1
  have hi : ∀ (l : List Tk) (i : Nat) (t : Tk), l[i]? = some t → (tkCells l)[i * 3]? = some (.int .u8 (t.kind : Int)) ∧ (tkCells l)[i * 3 + 1]? = some (.string t.text) ∧ (tkCells l)[i * 3 + 2]? = some (.int .i64 (t.pos : Int)) := by
    intro l
    induction l with
    | nil => intro i t h; simp at h
    | cons x r ih =>
      intro i t h
      cases i with
      | zero => simp at h; subst h; exact ⟨rfl, rfl, rfl⟩
      | succ i =>
        have := ih i t (by simpa using h)
        have e : ∀ n, (tkCells (x :: r))[n + 3]? = (tkCells r)[n]? := fun n => rfl
        rw [show (i + 1) * 3 = i * 3 + 3 from by omega, show i * 3 + 3 + 1 = (i * 3 + 1) + 3 from by omega, show i * 3 + 3 + 2 = (i * 3 + 2) + 3 from by omega, e, e, e]
        exact this
  obtain ⟨e1, e2, e3⟩ := hi l i t ht
  rw [Nat.zero_add]
  exact ⟨(hcells (i * 3) (by omega)).trans e1, (hcells (i * 3 + 1) (by omega)).trans e2, (hcells (i * 3 + 2) (by omega)).trans e3⟩

end Go.Proofs.YthjnoboceibjjaaGreatDoor.Lx
