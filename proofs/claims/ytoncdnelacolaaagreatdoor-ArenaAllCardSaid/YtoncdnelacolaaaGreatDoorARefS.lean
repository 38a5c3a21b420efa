/- A row of bools in a block of one's own, that is written; what lies in other blocks stays. -/
import Derived.Test.YtoncdnelacolaaaGreatDoorARefQ
namespace Go.Proofs.YtoncdnelacolaaaGreatDoor.Ar
open Go Go.Proofs Go.RowKit Go.Sort Lx Ps

structure Keep (B : Nat) (Z W : World) : Prop where
  size : Z.heap.size ≤ W.heap.size
  block : ∀ k, k < Z.heap.size → k ≠ B → W.heap[k]? = Z.heap[k]?
theorem Keep.refl (B : Nat) (Z : World) : Keep B Z Z := ⟨Nat.le_refl _, fun _ _ _ => rfl⟩
theorem Keep.below {B : Nat} {Z W W' : World} (h : Keep B Z W) (hb : Below W.heap.size W W') : Keep B Z W' :=
  ⟨Nat.le_trans h.size hb.size, fun k hk hB => (hb.block k (Nat.lt_of_lt_of_le hk h.size)).trans (h.block k hk hB)⟩
theorem Keep.set {B : Nat} {Z W : World} (h : Keep B Z W) (j : Nat) (v : Value) : Keep B Z (W.setCell ⟨B, j, none⟩ v) :=
  ⟨by simpa [World.setCell] using h.size, fun k hk hB => (heap_setCell_other W ⟨B, j, none⟩ k v hB).trans (h.block k hk hB)⟩
theorem Keep.cell {B : Nat} {Z W : World} (h : Keep B Z W) {p : Addr} (hp : p.block < Z.heap.size) (hB : p.block ≠ B) : W.cell? p = Z.cell? p := World.cell?_of_block (w := Z) (h.block p.block hp hB)
theorem Keep.drewN {B : Nat} {Z W : World} (h : Keep B Z W) (n : Nat) : Keep B Z (W.drewN n) := ⟨h.size, h.block⟩

/-- A row of bools of one's own. -/
def RowT (B n : Nat) (T : List Bool) (W : World) : Prop := W.ownsRow B 4 1 (.slice (some ⟨B, 0, none⟩) n n) n (T.map Value.bool)
theorem RowT.lt {B n : Nat} {T : List Bool} {W : World} (h : RowT B n T W) : B < W.heap.size := (World.ownsRow.lt h _ rfl).2
theorem RowT.below {B n : Nat} {T : List Bool} {W W' : World} (h : RowT B n T W) (hb : Below W.heap.size W W') : RowT B n T W' := own_below h hb
theorem RowT.drewN {B n : Nat} {T : List Bool} {W : World} (h : RowT B n T W) (k : Nat) : RowT B n T (W.drewN k) := h.below ⟨rfl, rfl, rfl, Nat.le_refl _, fun _ _ => rfl⟩
theorem RowT.cell {B n : Nat} {T : List Bool} {W : World} (h : RowT B n T W) {j : Nat} {b : Bool} (hj : j < n) (hb : T[j]? = some b) : W.cell? ⟨B, j, none⟩ = some (.bool b) := by
  rw [World.ownsRow.cellAt h j (by omega), List.getElem?_map, hb]; rfl
theorem RowT.frozen {B n : Nat} {T : List Bool} {W : World} (h : RowT B n T W) (j : Nat) : W.frozen? ⟨B, j, none⟩ = false := World.ownsRow.frozenAt h j
theorem RowT.set {B n : Nat} {T : List Bool} {W : World} (h : RowT B n T W) (j : Nat) : RowT B n (T.set j true) (W.setCell ⟨B, j, none⟩ (.bool true)) := by
  have := (World.ownsRow.stored h j (.bool true)).1
  unfold RowT
  rw [List.map_set]
  exact this
theorem bools_info : (Tryz.prog.info? 4).map (fun i => (i.zero, i.size, i.bytes)) = some (some (.bool false), 1, 1) := by kernel_rfl
theorem make_bools (n : Nat) (hn : n ≤ 1000000) (w1 : World) : ∃ w2, (Instr.makeSlice 69 (.int .i64 (n : Int)) (.int .i64 (n : Int))).run Tryz.prog w1 = .ok (.slice (some ⟨w1.heap.size, 0, none⟩) n n) w2 ∧ RowT w1.heap.size n (List.replicate n false) w2 ∧ Below w1.heap.size w1 w2 := by
  obtain ⟨i0, hi, hz0, hzz1, hz2⟩ := info_parts bools_info
  obtain ⟨w2, h1, h2, h3⟩ := run_make_full (P := Tryz.prog) w1 w1.heap.size 69 4 i0 (.bool false) 1 Tryz.underlying69 hi hz0 hzz1 .i64 .i64 n (by rw [hz2]; omega) (by unfold maxLen; omega) (Nat.le_refl _)
  have e : (madeCells (Value.bool false).cells (n * 1)).toList = List.replicate n (.bool false) := by rw [Nat.mul_one]; exact toList_madeCells_one _ _
  rw [e] at h2
  refine ⟨w2, h1, ?_, (Below.refl _ _).grown h3 (Nat.le_refl _) (fun k hk => by cases hk)⟩
  unfold RowT
  rw [List.map_replicate]
  exact h2

end Go.Proofs.YtoncdnelacolaaaGreatDoor.Ar
