/- Add: what it calls: Grow, Clone. -/
import Derived.Test.YtoncdnelacolaaaGreatDoorARefE
import Derived.Lib.AppendZerosOnto
namespace Go.Proofs.YtoncdnelacolaaaGreatDoor.Ar
open Go Go.Proofs Go.RowKit Lx Ps

section
variable {P : Program} {w : World}
/-- A builtin append whose end is known. -/
theorem wpList_append_known {ops : Array Oper} {rest : List Oper} {o : Oper} {a : Act} {Q : Exit → Act → World → Prop} (hgd : o.guard = none) (s x : Operand) (t tn : TypeId)
    (ho : o.op = .call { callee := .builtin .append, args := #[s, x], argTypes := #[t, tn] }) (v' : Value) (w' : World) (hr : (Builtin.append_ #[t, tn] o.type #[a.eval s, a.eval x]).run P w = .ok v' w')
    (h : wpList P ops Q rest (a.put o.dst v') w') : wpList P ops Q (o :: rest) a w := by
  refine wpList_plain hgd fun K hK => ?_
  unfold Oper.wp
  simp [execOp, ho, resolve, invoke, builtin, hr, Result.andThen]
  exact hK _ _ h
end
theorem own_zeros {w : World} {n cap : Nat} {e : TypeId} {z : Array Value} (hz : z.size = 3) (hc : cap ≤ maxLen) (hn : n ≤ cap) :
    (w.drew.alloc (.cells (#[] ++ Builtin.zeroCells z n ++ Builtin.zeroCells z (cap - n)) e)).ownsRow w.heap.size e 3 (.slice (some ⟨w.heap.size, 0, none⟩) 0 cap) 0 [] := by
  refine ⟨rfl, .inr ⟨w.heap.size, cap, _, rfl, Nat.le_refl _, heap_alloc_new w.drew _, Nat.zero_le _, hc, ?_, by simp⟩⟩
  simp only [Array.size_append, size_zeroCells, hz, Array.size_empty]
  omega

set_option maxRecDepth 100000 in
set_option maxHeartbeats 1000000 in
/-- A row with room for so many types. -/
theorem growT_any (n : Nat) (w : World) (hn : n ≤ 1000) :
    Calls Tryz.prog 125 #[.slice none 0 0, .int .i64 (n : Int)] w fun e w' => ∃ v, e = .returned v ∧ w'.ownsRow w.heap.size 64 3 v 0 [] ∧ Below w.heap.size w w' := by
  obtain ⟨i0, hi, hz0, hz1, hz2⟩ := info_parts ty_info2
  by_cases h0 : n = 0
  · subst h0
    go_enter Tryz.func125, Tryz.ntmps125
    go_wp2
    go_ret
    exact ⟨_, rfl, World.ownsRow_nil _ _ _ _, Below.refl _ _⟩
  · have hp : (0 : Int) < (n : Int) := by omega
    have hnn : ¬ ((n : Int) < 0) := by omega
    have hw : IntKind.i64.wrap (n : Int) = (n : Int) := IntWalk.i64_in _ (by omega)
    have hr := Lib.run_append_grow_zeros (P := Tryz.prog) w 22 3 22 64 i0 _ .i64 .i64 Tryz.underlying22 Tryz.underlying3 hi hz0 none 0 0 [] (by simp [Builtin.firstCells]) n (by omega) (by omega) (by omega) (by omega) (by rw [hz2]; omega) (growslice_fits (by omega) (by rw [hz2]; omega))
    simp only [Nat.zero_add] at hr
    have hcap := grownCap_ge w n 0 64
    have hcm := grownCap_le_maxLen w n 0 64 (by unfold maxLen; omega)
    have hown := own_zeros (w := w) (n := n) (cap := grownCap w n 0 64) (e := 64) (z := (Value.agg #[.slice none 0 0, .bool false, .int .i64 0]).cells) rfl hcm hcap
    have hb : Below w.heap.size w (w.drew.alloc (.cells (#[] ++ Builtin.zeroCells (Value.agg #[.slice none 0 0, .bool false, .int .i64 0]).cells n ++ Builtin.zeroCells (Value.agg #[.slice none 0 0, .bool false, .int .i64 0]).cells (grownCap w n 0 64 - n)) 64)) := Below.alloc ((Below.refl w.heap.size w).drew) (Nat.le_refl _) _
    generalize grownCap w n 0 64 = cap at *
    generalize w.drew.alloc (.cells (#[] ++ Builtin.zeroCells (Value.agg #[.slice none 0 0, .bool false, .int .i64 0]).cells n ++ Builtin.zeroCells (Value.agg #[.slice none 0 0, .bool false, .int .i64 0]).cells (cap - n)) 64) = X at *
    go_enter Tryz.func125, Tryz.ntmps125
    go_wp2_with (at_builtin; refine wpList_append_known rfl _ _ 22 3 rfl _ _ hr ?_)
    go_ret
    exact ⟨_, rfl, hown, hb⟩

end Go.Proofs.YtoncdnelacolaaaGreatDoor.Ar
