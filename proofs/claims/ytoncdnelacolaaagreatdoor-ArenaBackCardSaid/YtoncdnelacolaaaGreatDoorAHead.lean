/- Slices of base types, of types, of moves, wherever they lie. -/
import Derived.Test.YtoncdnelacolaaaGreatDoorHead
import Derived.Test.YtoncdnelacolaaaGreatDoorASpecA
import Derived.Laws.StructEq
import Derived.Laws.OwnMore
import Derived.WalkSmall
namespace Go.Proofs.YtoncdnelacolaaaGreatDoor.Ar
open Go Go.Proofs Go.RowKit Lx

/-- A slice value that holds base types. -/
def SlB (W : World) (v : Value) (l : List Bs) : Prop :=
  ∃ A cap, v = .slice A l.length cap ∧ (0 < l.length → ∃ b off, A = some ⟨b, off, none⟩ ∧ b < W.heap.size ∧ ∀ i x, l[i]? = some x →
    W.cell? ⟨b, off + i * 2, none⟩ = some (.bool x.cell) ∧ W.cell? ⟨b, off + i * 2 + 1, none⟩ = some (.int .i64 x.n))
/-- A slice value that holds types. -/
def SlT (W : World) (v : Value) (l : List Ty) : Prop :=
  ∃ A cap, v = .slice A l.length cap ∧ (0 < l.length → ∃ b off, A = some ⟨b, off, none⟩ ∧ b < W.heap.size ∧ ∀ i x, l[i]? = some x →
    ∃ pv, SlB W pv x.params ∧ W.cell? ⟨b, off + i * 3, none⟩ = some pv ∧ W.cell? ⟨b, off + i * 3 + 1, none⟩ = some (.bool x.result.cell) ∧ W.cell? ⟨b, off + i * 3 + 2, none⟩ = some (.int .i64 x.result.n))
/-- A slice value that holds moves. -/
def SlM (W : World) (v : Value) (l : List Mv) : Prop :=
  ∃ A cap, v = .slice A l.length cap ∧ (0 < l.length → ∃ b off, A = some ⟨b, off, none⟩ ∧ b < W.heap.size ∧ ∀ i x, l[i]? = some x →
    W.cell? ⟨b, off + i * 4, none⟩ = some (.int .i64 x.id) ∧ W.cell? ⟨b, off + i * 4 + 1, none⟩ = some (.int .i64 x.arg) ∧ W.cell? ⟨b, off + i * 4 + 2, none⟩ = some (.int .u8 (x.kind : Int)) ∧ W.cell? ⟨b, off + i * 4 + 3, none⟩ = some (.int .i64 x.n))
/-- An arena as a value. -/
def arV (ids : Value) (a : Ar) : Value := .agg #[ids, .bool a.root.cell, .int .i64 a.root.n, .bool a.jumps]
def bsV (b : Bs) : Value := .agg #[.bool b.cell, .int .i64 b.n]
def tyV (pv : Value) (t : Ty) : Value := .agg #[pv, .bool t.result.cell, .int .i64 t.result.n]
def mvV (m : Mv) : Value := .agg #[.int .i64 m.id, .int .i64 m.arg, .int .u8 (m.kind : Int), .int .i64 m.n]
def plV (p : Pl) : Value := .agg #[.bool p.base.cell, .int .i64 p.base.n, .int .i64 (p.id : Int), .int .i64 (p.arg : Int), .bool p.jumps]

theorem SlB.below {W W' : World} {v : Value} {l : List Bs} (h : SlB W v l) (hb : Below W.heap.size W W') : SlB W' v l := by
  obtain ⟨A, cap, rfl, hA⟩ := h
  refine ⟨A, cap, rfl, fun h0 => ?_⟩
  obtain ⟨b, off, rfl, hlt, hc⟩ := hA h0
  refine ⟨b, off, rfl, Nat.lt_of_lt_of_le hlt hb.size, fun i x hx => ?_⟩
  obtain ⟨p1, p2⟩ := hc i x hx
  exact ⟨(hb.cell (p := ⟨b, off + i * 2, none⟩) hlt).trans p1, (hb.cell (p := ⟨b, off + i * 2 + 1, none⟩) hlt).trans p2⟩
theorem SlT.below {W W' : World} {v : Value} {l : List Ty} (h : SlT W v l) (hb : Below W.heap.size W W') : SlT W' v l := by
  obtain ⟨A, cap, rfl, hA⟩ := h
  refine ⟨A, cap, rfl, fun h0 => ?_⟩
  obtain ⟨b, off, rfl, hlt, hc⟩ := hA h0
  refine ⟨b, off, rfl, Nat.lt_of_lt_of_le hlt hb.size, fun i x hx => ?_⟩
  obtain ⟨pv, p0, p1, p2, p3⟩ := hc i x hx
  exact ⟨pv, p0.below hb, (hb.cell (p := ⟨b, off + i * 3, none⟩) hlt).trans p1, (hb.cell (p := ⟨b, off + i * 3 + 1, none⟩) hlt).trans p2, (hb.cell (p := ⟨b, off + i * 3 + 2, none⟩) hlt).trans p3⟩
theorem SlM.below {W W' : World} {v : Value} {l : List Mv} (h : SlM W v l) (hb : Below W.heap.size W W') : SlM W' v l := by
  obtain ⟨A, cap, rfl, hA⟩ := h
  refine ⟨A, cap, rfl, fun h0 => ?_⟩
  obtain ⟨b, off, rfl, hlt, hc⟩ := hA h0
  refine ⟨b, off, rfl, Nat.lt_of_lt_of_le hlt hb.size, fun i x hx => ?_⟩
  obtain ⟨p1, p2, p3, p4⟩ := hc i x hx
  exact ⟨(hb.cell (p := ⟨b, off + i * 4, none⟩) hlt).trans p1, (hb.cell (p := ⟨b, off + i * 4 + 1, none⟩) hlt).trans p2, (hb.cell (p := ⟨b, off + i * 4 + 2, none⟩) hlt).trans p3, (hb.cell (p := ⟨b, off + i * 4 + 3, none⟩) hlt).trans p4⟩
theorem SlB.draws {W : World} {v : Value} {l : List Bs} (h : SlB W v l) (n : Nat) : SlB (W.drewN n) v l := h.below ⟨rfl, rfl, rfl, Nat.le_refl _, fun _ _ => rfl⟩
theorem SlT.draws {W : World} {v : Value} {l : List Ty} (h : SlT W v l) (n : Nat) : SlT (W.drewN n) v l := h.below ⟨rfl, rfl, rfl, Nat.le_refl _, fun _ _ => rfl⟩
theorem SlM.draws {W : World} {v : Value} {l : List Mv} (h : SlM W v l) (n : Nat) : SlM (W.drewN n) v l := h.below ⟨rfl, rfl, rfl, Nat.le_refl _, fun _ _ => rfl⟩

end Go.Proofs.YtoncdnelacolaaaGreatDoor.Ar
