/- Moves: all moves of an arena. -/
import Derived.Test.YtoncdnelacolaaaGreatDoorAGather
import Derived.Test.YtoncdnelacolaaaGreatDoorASpecC
import Derived.Deep.Onto
namespace Go.Proofs.YtoncdnelacolaaaGreatDoor.Ar
open Go Go.Proofs Go.RowKit Lx Ps

theorem SlM.of_own {W : World} {base : Nat} {v : Value} {l : List Mv} (h : W.ownsRow base 40 4 v l.length (mvCells l)) : SlM W v l := by
  have hown := h
  rcases h.2 with ⟨rfl, h0⟩ | ⟨g, cap, cur, rfl, _, hgb, _⟩
  · exact ⟨none, 0, by rw [h0], fun h1 => absurd h1 (by omega)⟩
  refine ⟨_, cap, rfl, fun h0 => ⟨g, 0, rfl, (Array.getElem?_eq_some_iff.1 hgb).1, fun i x hx => ?_⟩⟩
  have hcells := fun j hj => World.ownsRow.cellAt hown j hj
  have hil : i < l.length := (List.getElem?_eq_some_iff.1 hx).1
  have hi : ∀ (l : List Mv) (i : Nat) (x : Mv), l[i]? = some x → (mvCells l)[i * 4]? = some (.int .i64 x.id) ∧ (mvCells l)[i * 4 + 1]? = some (.int .i64 x.arg) ∧ (mvCells l)[i * 4 + 2]? = some (.int .u8 (x.kind : Int)) ∧ (mvCells l)[i * 4 + 3]? = some (.int .i64 x.n) := by
    intro l
    induction l with
    | nil => intro i t h; simp at h
    | cons y r ih =>
      intro i t h
      cases i with
      | zero =>
        simp at h
        subst h
        exact ⟨rfl, rfl, rfl, rfl⟩
      | succ i =>
        rw [List.getElem?_cons_succ] at h
        have := ih i t h
        have e : ∀ d, (mvCells (y :: r))[(i + 1) * 4 + d]? = (mvCells r)[i * 4 + d]? := fun d => by
          show (mvVals y ++ mvCells r)[(i + 1) * 4 + d]? = _
          rw [List.getElem?_append_right (by simp [mvVals]; omega)]
          congr 1
          simp [mvVals]; omega
        exact ⟨(e 0).trans this.1, (e 1).trans this.2.1, (e 2).trans this.2.2.1, (e 3).trans this.2.2.2⟩
  obtain ⟨h1, h2, h3, h4⟩ := hi l i x hx
  rw [Nat.zero_add]
  exact ⟨(hcells (i * 4) (by omega)).trans h1, (hcells (i * 4 + 1) (by omega)).trans h2, (hcells (i * 4 + 2) (by omega)).trans h3, (hcells (i * 4 + 3) (by omega)).trans h4⟩

set_option maxRecDepth 100000 in
set_option maxHeartbeats 1000000 in
theorem moves_any (ids : Value) (a : Ar) (w : World) (hin : ArIn w ids a) (h0 : checkE a = 0) :
    Calls Tryz.prog 20 #[arV ids a] w fun e w' => ∃ v, e = .returned (.tuple #[v, .int .i64 0]) ∧ w'.ownsRow w.heap.size 40 4 v (allM a).length (mvCells (allM a)) ∧ Below w.heap.size w w' := by
  have hR := right_of h0
  have hlen := all_len hR
  have hRt : ∀ V, Below w.heap.size w V → Calls Tryz.prog 59 #[arV ids a] V fun r w' => r = .returned (.tuple #[arV ids a, .int .i64 0]) ∧ Below V.heap.size V w' := fun V hb => rightOf_ok ids a V (hin.below hb) h0
  have hga : ∀ V, Below w.heap.size w V → Calls Tryz.prog 60 #[.func (.func 61) #[arV ids a] #[], .func (.func 62) #[] #[]] V fun e w' => ∃ v, e = .returned v ∧ w'.ownsRow V.heap.size 40 4 v (allM a).length (mvCells (allM a)) ∧ Below V.heap.size V w' := fun V hb =>
    gather_moves 61 #[arV ids a] #[] (fun y => #[arV ids a] ++ #[y]) (placesL a) movesP V
      (fun b g hg => hands_bound hg trivial (enters_of Tryz.func61 (by kernel_rfl) rfl))
      (fun U hU => places_seq 4 ids a V U (by omega) (hin.below hb) hU)
      (fun p l U hp hL hl => by
        obtain ⟨N, hN, hN2, -⟩ := place_base hR hp
        exact moves_push _ _ N p l U hL hN hN2 hl)
      (by have : (allM a).length = ((placesL a).flatMap movesP).length := rfl
          omega)
  obtain ⟨A, cap, rfl, -⟩ := hin.sl
  have hba : Below w.heap.size w (w.alloc (.cells #[.slice A a.ids.length cap, .bool a.root.cell, .int .i64 a.root.n, .bool a.jumps] 26)) := (Below.refl _ _).alloc (Nat.le_refl _) _
  have HRt := Lib.hid hRt
  have Hga := Lib.hid hga
  clear hin h0 hR hlen hRt hga
  generalize allM a = L at *
  unfold arV at *
  go_enter Tryz.func20, Tryz.ntmps20
  go_wp2_with (first
    | (go_at_call 59; refine (HRt.out _ hba).mono ?_; rintro r w1 ⟨rfl, hb1⟩; have hb2 := hba.trans (hb1.mono hba.size); have hb3 := fun o => hb2.alloc hb2.size o; have HB3 := Lib.hid hb3; clear hb3)
    | (go_at_call 60; refine (Hga.out _ (HB3.out _)).mono ?_; rintro r w2 ⟨v, rfl, hown, hb4⟩))
  go_ret2
  have hb5 := HB3.out (.cells #[.slice A a.ids.length cap, .bool a.root.cell, .int .i64 a.root.n, .bool a.jumps] 80)
  exact ⟨v, rfl, World.ownsRow.mono hown hb5.size, hb5.trans (hb4.mono hb5.size)⟩

end Go.Proofs.YtoncdnelacolaaaGreatDoor.Ar
