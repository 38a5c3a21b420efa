/- The iterator over all places of an arena. -/
import Derived.Test.YtoncdnelacolaaaGreatDoorAList
import Derived.Test.YtoncdnelacolaaaGreatDoorAWalkE
import Derived.Test.YtoncdnelacolaaaGreatDoorAWalkG
namespace Go.Proofs.YtoncdnelacolaaaGreatDoor.Ar
open Go Go.Proofs Go.RowKit Lx Ps

/-- The closure as a value. -/
def yV (B : Nat) : Value := .func (.func 110) #[] #[.pointer (some ⟨B, 0, none⟩)]
def plB (p : Pl) : Obj := .cells #[.bool p.base.cell, .int .i64 p.base.n, .int .i64 (p.id : Int), .int .i64 (p.arg : Int), .bool p.jumps] 85
theorem plB_calm (p : Pl) : CalmO (plB p) := .inr ⟨_, _, _, rfl, by decide, by decide⟩
theorem calm_place (cs : Array Value) (fr : Nat × Nat) : CalmO (.cells cs 85 fr) := .inr ⟨_, _, _, rfl, by decide, by decide⟩
theorem putsL_succ (p : Pl) (k : Nat) : (List.range (k + 1)).map (putM p) = (List.range k).map (putM p) ++ [putM p k] := by rw [List.range_succ, List.map_append]; rfl
theorem tells_succ (p : Pl) (k : Nat) : tellsL p (k + 1) = tellsL p k ++ [tellM p (k : Int)] := by unfold tellsL; rw [List.range_succ, List.map_append]; rfl

set_option maxRecDepth 100000 in
set_option maxHeartbeats 1000000 in
theorem quest_push (n0 B N : Nat) (p : Pl) (l : List Mv) (W : World) (h : Lst n0 B W l) (hN : p.base.n = (N : Int)) (hN2 : N ≤ 64) (hl : l.length + 100 ≤ 1000000) :
    Calls Tryz.prog 80 #[plV p, yV B] W fun e W' => (∃ v, e = .returned v) ∧ Lst n0 B W' (l ++ questP p) ∧ Full n0 W W' := by
  obtain ⟨⟨pc, pn⟩, pid, parg, pj⟩ := p
  dsimp only at hN
  subst hN
  generalize hpe : (⟨⟨pc, (N : Int)⟩, pid, parg, pj⟩ : Pl) = p
  have hn0 := h.2.1
  have hF0 : Full n0 W (W.alloc (plB p)) := (Full.refl n0 W).alloc hn0 _
  have hbx : (W.alloc (plB p)).heap[W.heap.size]? = some (plB p) := heap_alloc_new W _
  have hL0 := h.alloc (plB p)
  have hask := fun V => ask_any p V
  have hput := fun n V => put_any p n V
  have hpush := fun m l V (hV : Lst n0 B V l) hl => push_any n0 B m l V hV hl
  have Hask := Lib.hid hask
  have Hput := Lib.hid hput
  have Hpush := Lib.hid hpush
  have hqs : questP p = askM p :: if p.base.cell then putsL p else [] := rfl
  have Hqs := Lib.hid hqs
  clear hask hput hpush h hqs
  have HbxL := Lib.hid hbx
  have hpa : ∀ V, Lst n0 B V l → Calls Tryz.prog 110 #[.agg #[.int .i64 (p.id : Int), .int .i64 (p.arg : Int), .int .u8 1, .int .i64 0], .pointer (some ⟨B, 0, none⟩)] V fun e W' => e = .returned (.bool true) ∧ Lst n0 B W' (l ++ [askM p]) ∧ Full n0 V W' := fun V hV => Hpush.out (askM p) l V hV (by omega)
  have Hpa := Lib.hid hpa
  clear hpa hbx
  unfold yV
  cases pc
  · subst hpe
    dsimp only [plV, plB] at *
    go_enter Tryz.func80, Tryz.ntmps80
    go_wp2_with (first
      | (go_at_call 116; refine (Hask.out _).mono ?_; rintro r w1 ⟨rfl, hb1⟩; have hk1 := heap_below hb1 (by rw [alloc_sz2]; omega) HbxL.out)
      | (go_at_call 110; refine (Hpa.out _ (hL0.below hb1)).mono ?_; rintro r w2 ⟨rfl, hL2, hF2⟩; obtain ⟨⟨c0, c1, c2, c3, c4⟩, -, -⟩ := five_c (hF2.same _ _ hk1 (calm_place _ _))))
    refine bodyPost_ret (results_none rfl _ _ _) rfl ?_
    refine ⟨⟨_, rfl⟩, ?_, ?_⟩
    · rw [Hqs.out]; exact hL2
    · exact hF0.trans ((Full.of_below (by rw [alloc_sz2]; omega) hb1).trans hF2)
  · subst hpe
    dsimp only [plV, plB] at *
    go_enter Tryz.func80, Tryz.ntmps80
    go_wp2_with (first
      | (go_at_call 116; refine (Hask.out _).mono ?_; rintro r w1 ⟨rfl, hb1⟩; have hk1 := heap_below hb1 (by rw [alloc_sz2]; omega) HbxL.out)
      | (go_at_call 110; refine (Hpa.out _ (hL0.below hb1)).mono ?_; rintro r w2 ⟨rfl, hL2, hF2⟩; obtain ⟨⟨c0, c1, c2, c3, c4⟩, -, -⟩ := five_c (hF2.same _ _ hk1 (calm_place _ _))))
    go_loopw [4, 19] (fun _ c wr => ∃ k : Nat, k ≤ N ∧ c = .int .i64 (k : Int) ∧ Lst n0 B wr (l ++ [askM ⟨⟨true, (N : Int)⟩, pid, parg, pj⟩] ++ (List.range k).map (putM ⟨⟨true, (N : Int)⟩, pid, parg, pj⟩)) ∧ Full n0 W wr ∧ wr.heap[W.heap.size]? = some (plB ⟨⟨true, (N : Int)⟩, pid, parg, pj⟩)) (fun _ c _ => N - (intOf c).toNat)
    case atStart =>
      refine ⟨0, Nat.zero_le _, rfl, by simpa using hL2, hF0.trans ((Full.of_below (by rw [alloc_sz2]; omega) hb1).trans hF2), hF2.same _ _ hk1 (calm_place _ _)⟩
    case round =>
      obtain ⟨k, hk, rfl, hLk, hFk, hbk⟩ := hrel
      have Hbk := Lib.hid hbk
      have HLk := Lib.hid hLk
      have hn0r := hLk.2.1
      obtain ⟨⟨d0, d1, d2, d3, d4⟩, -, -⟩ := five_c hbk
      clear hbk hLk hL2 hF2 hk1 c0 c1 c2 c3 c4
      by_cases hlt : k < N
      · have hpp : ∀ V, Lst n0 B V (l ++ [askM ⟨⟨true, (N : Int)⟩, pid, parg, pj⟩] ++ (List.range k).map (putM ⟨⟨true, (N : Int)⟩, pid, parg, pj⟩)) → Calls Tryz.prog 110 #[.agg #[.int .i64 (pid : Int), .int .i64 (parg : Int), .int .u8 2, .int .i64 (k : Int)], .pointer (some ⟨B, 0, none⟩)] V fun e W' => e = .returned (.bool true) ∧ Lst n0 B W' (l ++ [askM ⟨⟨true, (N : Int)⟩, pid, parg, pj⟩] ++ (List.range k).map (putM ⟨⟨true, (N : Int)⟩, pid, parg, pj⟩) ++ [putM ⟨⟨true, (N : Int)⟩, pid, parg, pj⟩ k]) ∧ Full n0 V W' := fun V hV => Hpush.out (putM ⟨⟨true, (N : Int)⟩, pid, parg, pj⟩ k) _ V hV (by simp; omega)
        have Hpp := Lib.hid hpp
        have hqq := Hput.out (k : Int)
        have Hqq := Lib.hid hqq
        clear hpp hqq
        go_wp2_with (first
          | (go_at_call 117; refine (Hqq.out _).mono ?_; rintro r w3 ⟨rfl, hb3⟩; have hk3 := heap_below hb3 (Array.getElem?_eq_some_iff.1 Hbk.out).1 Hbk.out)
          | (go_at_call 110; refine (Hpp.out _ (HLk.out.below hb3)).mono ?_; rintro r w4 ⟨rfl, hL4, hF4⟩; have hk4 := Lib.hid (hF4.same _ _ hk3 (calm_place _ _)); clear hk3))
        go_roundw
        case rel =>
          refine ⟨k + 1, by omega, by go_num, ?_, hFk.trans ((Full.of_below hn0r hb3).trans hF4), hk4.out⟩
          rw [putsL_succ, ← List.append_assoc]
          exact hL4
        case measure => simp [intOf]; omega
      · have hkN : k = N := by omega
        subst hkN
        go_wp2
        go_end0
        refine ⟨⟨_, rfl⟩, ?_, hFk⟩
        rw [Hqs.out]
        have := HLk.out
        unfold putsL
        simpa using this

end Go.Proofs.YtoncdnelacolaaaGreatDoor.Ar

namespace Go.Proofs.YtoncdnelacolaaaGreatDoor.Ar
open Go Go.Proofs Go.RowKit Lx Ps
attribute [local go_sem] Oper.semAt_some

theorem grown_of_below {w w' : World} (h : Below w.heap.size w w') : w.grownBy w' none := ⟨h.os, h.tape, h.output, h.size, fun i hi _ => h.block i hi⟩
theorem abides_next {β : Type} {Al : Obj → Prop} {J : List β → World → Prop} {B : Nat} (hJ : AbidesAl Al B J) {pre : List β} {w w' : World} (h : J pre w) (hb : Below w.heap.size w w') : J pre w' :=
  hJ pre w w' none h (grown_of_below hb) (fun r e => by cases e)
theorem range_prefix {a b : Nat} (h : a ≤ b) : List.range a <+: List.range b := by
  obtain ⟨c, rfl⟩ := Nat.exists_eq_add_of_le h
  exact ⟨(List.range c).map (a + ·), List.range_add.symm⟩
def encM (m : Mv) : Array Value := #[mvV m]

set_option maxRecDepth 100000 in
set_option maxHeartbeats 2000000 in
theorem quest1_in {Al : Obj → Prop} (n n0 lY N : Nat) (p : Pl) (J Jx : List Mv → World → Prop) (W : World) (hn : 1 ≤ n) (_hn0 : n0 ≤ W.heap.size) (hN : p.base.n = (N : Int)) (hN2 : N ≤ 64)
    (hJ : AbidesAl Al W.heap.size J)
    (hY : ∀ pre x W1, J pre W1 → pre ++ [x] <+: questP p → YieldAt Fence.wide (n - 1) Tryz.prog lY (encM x) W1 fun e W' =>
      (e = .returned (.bool true) ∧ J (pre ++ [x]) W' ∧ Kp n0 W1 W') ∨ (e = .returned (.bool false) ∧ Jx (pre ++ [x]) W')) (h0 : J [] W) :
    CallsIn Fence.wide n Tryz.prog 80 #[plV p, .func (.yield lY) #[] #[]] W fun e W' => (∃ v, e = .returned v) ∧
      ((∃ ys, ys = questP p ∧ J ys W') ∨ (∃ pre, pre <+: questP p ∧ Jx pre W')) := by
  obtain ⟨⟨pc, pn⟩, pid, parg, pj⟩ := p
  dsimp only at hN
  subst hN
  have hb0 : Below W.heap.size W (W.alloc (.cells #[.bool pc, .int .i64 (N : Int), .int .i64 (pid : Int), .int .i64 (parg : Int), .bool pj] 85)) := (Below.refl _ _).alloc (Nat.le_refl _) _
  have hbx := heap_alloc_new W (.cells #[.bool pc, .int .i64 (N : Int), .int .i64 (pid : Int), .int .i64 (parg : Int), .bool pj] 85)
  have hask := fun V => ask_any ⟨⟨pc, (N : Int)⟩, pid, parg, pj⟩ V
  have hput := fun (k : Nat) V => put_any ⟨⟨pc, (N : Int)⟩, pid, parg, pj⟩ (k : Int) V
  have hlen0 : [] ++ [askM ⟨⟨pc, (N : Int)⟩, pid, parg, pj⟩] <+: questP ⟨⟨pc, (N : Int)⟩, pid, parg, pj⟩ := ⟨_, rfl⟩
  have HyA := Lib.hid (fun (V : World) (hb : Below W.heap.size W V) => show ∃ fn tmps assign body, (Instr.yield lY #[.agg #[.int .i64 (pid : Int), .int .i64 (parg : Int), .int .u8 1, .int .i64 0]]).run Tryz.prog V = .ok (.round lY fn tmps assign body) V ∧
      RoundIn Fence.wide (n - 1) Tryz.prog lY fn tmps assign body V (fun e W' => (e = .returned (.bool true) ∧ J [askM ⟨⟨pc, (N : Int)⟩, pid, parg, pj⟩] W' ∧ Kp n0 V W') ∨ (e = .returned (.bool false) ∧ Jx [askM ⟨⟨pc, (N : Int)⟩, pid, parg, pj⟩] W')) from
    hY [] (askM ⟨⟨pc, (N : Int)⟩, pid, parg, pj⟩) V (abides_next hJ h0 hb) hlen0)
  unfold plV at *
  dsimp only at *
  refine callsIn_of_wp Tryz.func80 rfl trivial ?_ rfl
  simp only [Tryz.ntmps80, List.size_toArray, List.length_cons, List.length_nil, Nat.reduceAdd, Nat.reduceSub, Array.replicate_succ, Array.replicate_zero, List.push_toArray, List.append_toArray, List.nil_append, List.cons_append]
  have Hask := Lib.hid hask
  have Hput := Lib.hid hput
  have Hbx := Lib.hid hbx
  clear hask hput hbx hlen0 h0
  cases pc
  · gi_wp2_with (refine ⟨trivial, ?_⟩; gi_at_call 116; refine (callsIn_wide.2 (Hask.out _)).mono ?_; rintro e w1 ⟨rfl, hb1⟩; have hk1 := Lib.hid (heap_below hb1 (by rw [alloc_sz2]; omega) Hbx.out); have hb2 := hb0.trans (hb1.mono hb0.size); obtain ⟨fn, tmps, assign, body, hy, hR⟩ := HyA.out _ hb2)
    refine hR.mono ?_
    rintro e' w5 (⟨rfl, hJ5, hk5⟩ | ⟨rfl, hJx5⟩)
    · obtain ⟨⟨c0, c1, c2, c3, c4⟩, -, -⟩ := five_c (hk5.cells hk1.out (by decide) (by decide))
      gi_wp2
      refine bodyPost_ret (results_none rfl _ _ _) rfl ?_
      exact ⟨⟨_, rfl⟩, .inl ⟨_, rfl, hJ5⟩⟩
    · gi_wp2
      refine bodyPost_ret (results_none rfl _ _ _) rfl ?_
      exact ⟨⟨_, rfl⟩, .inr ⟨_, ⟨[], rfl⟩, hJx5⟩⟩
  · gi_wp2_with (refine ⟨trivial, ?_⟩; gi_at_call 116; refine (callsIn_wide.2 (Hask.out _)).mono ?_; rintro e w1 ⟨rfl, hb1⟩; have hk1 := Lib.hid (heap_below hb1 (by rw [alloc_sz2]; omega) Hbx.out); have hb2 := hb0.trans (hb1.mono hb0.size); obtain ⟨fn, tmps, assign, body, hy, hR⟩ := HyA.out _ hb2)
    refine hR.mono ?_
    rintro e' w5 (⟨rfl, hJ5, hk5⟩ | ⟨rfl, hJx5⟩)
    · have hbk5 := hk5.cells hk1.out (by decide) (by decide)
      obtain ⟨⟨c0, c1, c2, c3, c4⟩, -, -⟩ := five_c hbk5
      have hz5 : W.heap.size ≤ w5.heap.size := Nat.le_trans hb2.size hk5.2.1.size
      clear hk5 hy hR hk1 hb1 hb2 HyA
      gi_wp2
      gi_loopw [4, 19] (fun _ c wr => ∃ k : Nat, k ≤ N ∧ c = .int .i64 (k : Int) ∧ J ([askM ⟨⟨true, (N : Int)⟩, pid, parg, pj⟩] ++ (List.range k).map (putM ⟨⟨true, (N : Int)⟩, pid, parg, pj⟩)) wr ∧ W.heap.size ≤ wr.heap.size ∧ wr.heap[W.heap.size]? = some (.cells #[.bool true, .int .i64 (N : Int), .int .i64 (pid : Int), .int .i64 (parg : Int), .bool pj] 85)) (fun _ c _ => N - (intOf c).toNat)
      case atStart => exact ⟨0, Nat.zero_le _, rfl, hJ5, hz5, hbk5⟩
      case round =>
        obtain ⟨k, hk, rfl, hJk, hzk, hbk⟩ := hrel
        have hsz : wr.heap.size < wr.heap.size + 1 := Nat.lt_succ_self _
        obtain ⟨⟨d0, d1, d2, d3, d4⟩, -, -⟩ := five_c hbk
        have Hbk := Lib.hid hbk
        have HJk := Lib.hid hJk
        clear hbk hJk c0 c1 c2 c3 c4 hJ5 hbk5
        by_cases hlt : k < N
        · have hlen : [askM ⟨⟨true, (N : Int)⟩, pid, parg, pj⟩] ++ (List.range k).map (putM ⟨⟨true, (N : Int)⟩, pid, parg, pj⟩) ++ [putM ⟨⟨true, (N : Int)⟩, pid, parg, pj⟩ k] <+: questP ⟨⟨true, (N : Int)⟩, pid, parg, pj⟩ := by
            rw [List.append_assoc, ← putsL_succ]
            obtain ⟨r, hr⟩ := range_prefix (show k + 1 ≤ N by omega)
            refine ⟨r.map (putM ⟨⟨true, (N : Int)⟩, pid, parg, pj⟩), ?_⟩
            simp only [questP, putsL, if_true, List.cons_append, List.nil_append, List.cons.injEq, true_and, Int.toNat_natCast]
            rw [← List.map_append, hr]
          have Hlen := Lib.hid hlen
          have Hyk := Lib.hid (fun (V : World) (hb : Below wr.heap.size wr V) => show ∃ fn tmps assign body, (Instr.yield lY #[.agg #[.int .i64 (pid : Int), .int .i64 (parg : Int), .int .u8 2, .int .i64 (k : Int)]]).run Tryz.prog V = .ok (.round lY fn tmps assign body) V ∧
              RoundIn Fence.wide (n - 1) Tryz.prog lY fn tmps assign body V (fun e W' => (e = .returned (.bool true) ∧ J ([askM ⟨⟨true, (N : Int)⟩, pid, parg, pj⟩] ++ (List.range k).map (putM ⟨⟨true, (N : Int)⟩, pid, parg, pj⟩) ++ [putM ⟨⟨true, (N : Int)⟩, pid, parg, pj⟩ k]) W' ∧ Kp n0 V W') ∨ (e = .returned (.bool false) ∧ Jx ([askM ⟨⟨true, (N : Int)⟩, pid, parg, pj⟩] ++ (List.range k).map (putM ⟨⟨true, (N : Int)⟩, pid, parg, pj⟩) ++ [putM ⟨⟨true, (N : Int)⟩, pid, parg, pj⟩ k]) W')) from
            hY _ (putM ⟨⟨true, (N : Int)⟩, pid, parg, pj⟩ k) V (abides_next hJ HJk.out hb) hlen)
          have Hpk := Lib.hid (Hput.out k)
          clear hlen
          gi_wp2_with (refine ⟨trivial, ?_⟩; gi_at_call 117; refine (callsIn_wide.2 (Hpk.out _)).mono ?_; rintro e w6 ⟨rfl, hb6⟩; have hk6 := Lib.hid (heap_below hb6 (Array.getElem?_eq_some_iff.1 Hbk.out).1 Hbk.out); obtain ⟨fn, tmps, assign, body, hy, hR⟩ := Hyk.out _ hb6)
          refine hR.mono ?_
          rintro e' w7 (⟨rfl, hJ7, hk7⟩ | ⟨rfl, hJx7⟩)
          · have hbk7 := Lib.hid (hk7.cells hk6.out (by decide) (by decide))
            have hz7 : W.heap.size ≤ w7.heap.size := Nat.le_trans hzk (Nat.le_trans hb6.size hk7.2.1.size)
            clear hy hR hk7 hb6 hk6
            gi_wp2
            go_roundw
            case rel =>
              refine ⟨k + 1, by omega, by go_num, ?_, hz7, hbk7.out⟩
              rw [putsL_succ, ← List.append_assoc]
              exact hJ7
            case measure => simp [intOf]; omega
          · gi_wp2
            refine bodyPost_ret (results_none rfl _ _ _) rfl ?_
            exact ⟨⟨_, rfl⟩, .inr ⟨_, Hlen.out, hJx7⟩⟩
        · have hkN : k = N := by omega
          subst hkN
          gi_wp2
          go_end0
          exact ⟨⟨_, rfl⟩, .inl ⟨_, by simp [questP, putsL], HJk.out⟩⟩
    · gi_wp2
      refine bodyPost_ret (results_none rfl _ _ _) rfl ?_
      exact ⟨⟨_, rfl⟩, .inr ⟨_, ⟨putsL ⟨⟨true, (N : Int)⟩, pid, parg, pj⟩, rfl⟩, hJx5⟩⟩

/-- The iterator over the questions stops. -/
theorem quest_seq {Al : Obj → Prop} (n n0 N : Nat) (p : Pl) (w : World) (hn : 1 ≤ n) (hn0 : n0 ≤ w.heap.size) (hN : p.base.n = (N : Int)) (hN2 : N ≤ 64) :
    SeqAt Al Fence.wide n Tryz.prog 80 (fun y => #[plV p] ++ #[y]) encM (Kp n0) (fun ys => ys = questP p) (fun pre => pre <+: questP p) (fun pre x => pre ++ [x] <+: questP p) w :=
  fun l J Jx W hW hJ _ hY h0 => quest1_in n n0 l N p J Jx W hn (Nat.le_trans hn0 hW.size) hN hN2 hJ (fun pre x V hv hl => (hY pre x V hv hl).mono (fun _ _ h => h.imp (fun h => ⟨h.1, h.2.1, h.2.2.1⟩) (fun h => ⟨h.1, h.2.1⟩))) h0

set_option maxRecDepth 100000 in
set_option maxHeartbeats 2000000 in
theorem tell1_in {Al : Obj → Prop} (n n0 lY N : Nat) (p : Pl) (J Jx : List Mv → World → Prop) (W : World) (hn : 1 ≤ n) (_hn0 : n0 ≤ W.heap.size) (hN2 : N ≤ 64)
    (hJ : AbidesAl Al W.heap.size J)
    (hY : ∀ pre x W1, J pre W1 → pre ++ [x] <+: tellP p N → YieldAt Fence.wide (n - 1) Tryz.prog lY (encM x) W1 fun e W' =>
      (e = .returned (.bool true) ∧ J (pre ++ [x]) W' ∧ Kp n0 W1 W') ∨ (e = .returned (.bool false) ∧ Jx (pre ++ [x]) W')) (h0 : J [] W) :
    CallsIn Fence.wide n Tryz.prog 121 #[plV p, .int .i64 (N : Int), .func (.yield lY) #[] #[]] W fun e W' => (∃ v, e = .returned v) ∧
      ((∃ ys, ys = tellP p N ∧ J ys W') ∨ (∃ pre, pre <+: tellP p N ∧ Jx pre W')) := by
  obtain ⟨⟨pc, pn⟩, pid, parg, pj⟩ := p
  have hb0 : Below W.heap.size W (W.alloc (.cells #[.bool pc, .int .i64 pn, .int .i64 (pid : Int), .int .i64 (parg : Int), .bool pj] 85)) := (Below.refl _ _).alloc (Nat.le_refl _) _
  have hbx := heap_alloc_new W (.cells #[.bool pc, .int .i64 pn, .int .i64 (pid : Int), .int .i64 (parg : Int), .bool pj] 85)
  have htel := fun (k : Int) V => tell_any ⟨⟨pc, pn⟩, pid, parg, pj⟩ k V
  -- what the rest of the function does, from the loop on
  have loop : ∀ (pre : List Mv), pre ++ tellsL ⟨⟨pc, pn⟩, pid, parg, pj⟩ N = tellP ⟨⟨pc, pn⟩, pid, parg, pj⟩ N → True := fun _ _ => trivial
  have HyA := Lib.hid (fun (hj : pj = true) (V : World) (hb : Below W.heap.size W V) => show ∃ fn tmps assign body, (Instr.yield lY #[.agg #[.int .i64 (pid : Int), .int .i64 (parg : Int), .int .u8 3, .int .i64 (-1)]]).run Tryz.prog V = .ok (.round lY fn tmps assign body) V ∧
      RoundIn Fence.wide (n - 1) Tryz.prog lY fn tmps assign body V (fun e W' => (e = .returned (.bool true) ∧ J [tellM ⟨⟨pc, pn⟩, pid, parg, pj⟩ (-1)] W' ∧ Kp n0 V W') ∨ (e = .returned (.bool false) ∧ Jx [tellM ⟨⟨pc, pn⟩, pid, parg, pj⟩ (-1)] W')) from
    hY [] (tellM ⟨⟨pc, pn⟩, pid, parg, pj⟩ (-1)) V (abides_next hJ h0 hb) ⟨tellsL ⟨⟨pc, pn⟩, pid, parg, pj⟩ N, by simp [tellP, hj]⟩)
  unfold plV at *
  dsimp only at *
  refine callsIn_of_wp Tryz.func121 rfl trivial ?_ rfl
  simp only [Tryz.ntmps121, List.size_toArray, List.length_cons, List.length_nil, Nat.reduceAdd, Nat.reduceSub, Array.replicate_succ, Array.replicate_zero, List.push_toArray, List.append_toArray, List.nil_append, List.cons_append]
  have Htel := Lib.hid htel
  have Hbx := Lib.hid hbx
  clear htel hbx loop
  cases pj
  · clear HyA
    gi_wp2
    refine ⟨trivial, ?_⟩
    gi_wp2
    refine ⟨fun _ h => (by cases h), ?_⟩
    gi_wp2
    gi_loopw [6, 17] (fun _ c wr => ∃ k : Nat, k ≤ N ∧ c = .int .i64 (k : Int) ∧ J (tellsL ⟨⟨pc, pn⟩, pid, parg, false⟩ k) wr ∧ W.heap.size ≤ wr.heap.size ∧ wr.heap[W.heap.size]? = some (.cells #[.bool pc, .int .i64 pn, .int .i64 (pid : Int), .int .i64 (parg : Int), .bool false] 85)) (fun _ c _ => N - (intOf c).toNat)
    case atStart => exact ⟨0, Nat.zero_le _, rfl, abides_next hJ h0 hb0, hb0.size, Hbx.out⟩
    case round =>
      obtain ⟨k, hk, rfl, hJk, hzk, hbk⟩ := hrel
      obtain ⟨⟨d0, d1, d2, d3, d4⟩, -, -⟩ := five_c hbk
      have Hbk := Lib.hid hbk
      have HJk := Lib.hid hJk
      clear hbk hJk
      by_cases hlt : k < N
      · have hlen : tellsL ⟨⟨pc, pn⟩, pid, parg, false⟩ k ++ [tellM ⟨⟨pc, pn⟩, pid, parg, false⟩ (k : Int)] <+: tellP ⟨⟨pc, pn⟩, pid, parg, false⟩ N := by
          rw [← tells_succ]
          obtain ⟨r, hr⟩ := range_prefix (show k + 1 ≤ N by omega)
          refine ⟨r.map fun (i : Nat) => tellM ⟨⟨pc, pn⟩, pid, parg, false⟩ (i : Int), ?_⟩
          simp only [tellP, tellsL, Bool.false_eq_true, if_false, List.nil_append]
          rw [← List.map_append, hr]
        have Hlen := Lib.hid hlen
        have Hyk := Lib.hid (fun (V : World) (hb : Below wr.heap.size wr V) => show ∃ fn tmps assign body, (Instr.yield lY #[.agg #[.int .i64 (pid : Int), .int .i64 (parg : Int), .int .u8 3, .int .i64 (k : Int)]]).run Tryz.prog V = .ok (.round lY fn tmps assign body) V ∧
            RoundIn Fence.wide (n - 1) Tryz.prog lY fn tmps assign body V (fun e W' => (e = .returned (.bool true) ∧ J (tellsL ⟨⟨pc, pn⟩, pid, parg, false⟩ k ++ [tellM ⟨⟨pc, pn⟩, pid, parg, false⟩ (k : Int)]) W' ∧ Kp n0 V W') ∨ (e = .returned (.bool false) ∧ Jx (tellsL ⟨⟨pc, pn⟩, pid, parg, false⟩ k ++ [tellM ⟨⟨pc, pn⟩, pid, parg, false⟩ (k : Int)]) W')) from
          hY _ (tellM ⟨⟨pc, pn⟩, pid, parg, false⟩ (k : Int)) V (abides_next hJ HJk.out hb) hlen)
        have Hpk := Lib.hid (Htel.out (k : Int))
        gi_wp2_with (refine ⟨trivial, ?_⟩; gi_at_call 119; refine (callsIn_wide.2 (Hpk.out _)).mono ?_; rintro e w6 ⟨rfl, hb6⟩; have hk6 := Lib.hid (heap_below hb6 (Array.getElem?_eq_some_iff.1 Hbk.out).1 Hbk.out); obtain ⟨fn, tmps, assign, body, hy, hR⟩ := Hyk.out _ hb6)
        refine hR.mono ?_
        rintro e' w7 (⟨rfl, hJ7, hk7⟩ | ⟨rfl, hJx7⟩)
        · have hbk7 := Lib.hid (hk7.cells hk6.out (by decide) (by decide))
          have hz7 : W.heap.size ≤ w7.heap.size := Nat.le_trans hzk (Nat.le_trans hb6.size hk7.2.1.size)
          clear hy hR hk7 hb6 hk6
          gi_wp2
          go_roundw
          case rel =>
            refine ⟨k + 1, by omega, by go_num, ?_, hz7, hbk7.out⟩
            rw [tells_succ]
            exact hJ7
          case measure => simp [intOf]; omega
        · gi_wp2
          refine bodyPost_ret (results_none rfl _ _ _) rfl ?_
          exact ⟨⟨_, rfl⟩, .inr ⟨_, Hlen.out, hJx7⟩⟩
      · have hkN : k = N := by omega
        subst hkN
        gi_wp2
        go_end0
        exact ⟨⟨_, rfl⟩, .inl ⟨_, by simp [tellP], HJk.out⟩⟩
  · gi_wp2_with (refine ⟨trivial, ?_⟩; gi_at_call 119; refine (callsIn_wide.2 (Htel.out (-1) _)).mono ?_; rintro e w1 ⟨rfl, hb1⟩; have hk1 := Lib.hid (heap_below hb1 (by rw [alloc_sz2]; omega) Hbx.out); have hb2 := hb0.trans (hb1.mono hb0.size); obtain ⟨fn, tmps, assign, body, hy, hR⟩ := HyA.out rfl _ hb2)
    refine hR.mono ?_
    rintro e' w5 (⟨rfl, hJ5, hk5⟩ | ⟨rfl, hJx5⟩)
    · have hbk5 := Lib.hid (hk5.cells hk1.out (by decide) (by decide))
      have hz5 : W.heap.size ≤ w5.heap.size := Nat.le_trans hb2.size hk5.2.1.size
      clear hk5 hy hR hk1 hb1 hb2 HyA h0
      gi_wp2
      gi_loopw [6, 17] (fun _ c wr => ∃ k : Nat, k ≤ N ∧ c = .int .i64 (k : Int) ∧ J ([tellM ⟨⟨pc, pn⟩, pid, parg, true⟩ (-1)] ++ tellsL ⟨⟨pc, pn⟩, pid, parg, true⟩ k) wr ∧ W.heap.size ≤ wr.heap.size ∧ wr.heap[W.heap.size]? = some (.cells #[.bool pc, .int .i64 pn, .int .i64 (pid : Int), .int .i64 (parg : Int), .bool true] 85)) (fun _ c _ => N - (intOf c).toNat)
      case atStart => exact ⟨0, Nat.zero_le _, rfl, hJ5, hz5, hbk5.out⟩
      case round =>
        obtain ⟨k, hk, rfl, hJk, hzk, hbk⟩ := hrel
        obtain ⟨⟨d0, d1, d2, d3, d4⟩, -, -⟩ := five_c hbk
        have Hbk := Lib.hid hbk
        have HJk := Lib.hid hJk
        clear hbk hJk
        by_cases hlt : k < N
        · have hlen : [tellM ⟨⟨pc, pn⟩, pid, parg, true⟩ (-1)] ++ tellsL ⟨⟨pc, pn⟩, pid, parg, true⟩ k ++ [tellM ⟨⟨pc, pn⟩, pid, parg, true⟩ (k : Int)] <+: tellP ⟨⟨pc, pn⟩, pid, parg, true⟩ N := by
            rw [List.append_assoc, ← tells_succ]
            obtain ⟨r, hr⟩ := range_prefix (show k + 1 ≤ N by omega)
            refine ⟨r.map fun (i : Nat) => tellM ⟨⟨pc, pn⟩, pid, parg, true⟩ (i : Int), ?_⟩
            simp only [tellP, tellsL, List.append_assoc, if_true]
            rw [← List.map_append, hr]
          have Hlen := Lib.hid hlen
          have Hyk := Lib.hid (fun (V : World) (hb : Below wr.heap.size wr V) => show ∃ fn tmps assign body, (Instr.yield lY #[.agg #[.int .i64 (pid : Int), .int .i64 (parg : Int), .int .u8 3, .int .i64 (k : Int)]]).run Tryz.prog V = .ok (.round lY fn tmps assign body) V ∧
              RoundIn Fence.wide (n - 1) Tryz.prog lY fn tmps assign body V (fun e W' => (e = .returned (.bool true) ∧ J ([tellM ⟨⟨pc, pn⟩, pid, parg, true⟩ (-1)] ++ tellsL ⟨⟨pc, pn⟩, pid, parg, true⟩ k ++ [tellM ⟨⟨pc, pn⟩, pid, parg, true⟩ (k : Int)]) W' ∧ Kp n0 V W') ∨ (e = .returned (.bool false) ∧ Jx ([tellM ⟨⟨pc, pn⟩, pid, parg, true⟩ (-1)] ++ tellsL ⟨⟨pc, pn⟩, pid, parg, true⟩ k ++ [tellM ⟨⟨pc, pn⟩, pid, parg, true⟩ (k : Int)]) W')) from
            hY _ (tellM ⟨⟨pc, pn⟩, pid, parg, true⟩ (k : Int)) V (abides_next hJ HJk.out hb) hlen)
          have Hpk := Lib.hid (Htel.out (k : Int))
          gi_wp2_with (refine ⟨trivial, ?_⟩; gi_at_call 119; refine (callsIn_wide.2 (Hpk.out _)).mono ?_; rintro e w6 ⟨rfl, hb6⟩; have hk6 := Lib.hid (heap_below hb6 (Array.getElem?_eq_some_iff.1 Hbk.out).1 Hbk.out); obtain ⟨fn, tmps, assign, body, hy, hR⟩ := Hyk.out _ hb6)
          refine hR.mono ?_
          rintro e' w7 (⟨rfl, hJ7, hk7⟩ | ⟨rfl, hJx7⟩)
          · have hbk7 := Lib.hid (hk7.cells hk6.out (by decide) (by decide))
            have hz7 : W.heap.size ≤ w7.heap.size := Nat.le_trans hzk (Nat.le_trans hb6.size hk7.2.1.size)
            clear hy hR hk7 hb6 hk6
            gi_wp2
            go_roundw
            case rel =>
              refine ⟨k + 1, by omega, by go_num, ?_, hz7, hbk7.out⟩
              rw [tells_succ, ← List.append_assoc]
              exact hJ7
            case measure => simp [intOf]; omega
          · gi_wp2
            refine bodyPost_ret (results_none rfl _ _ _) rfl ?_
            exact ⟨⟨_, rfl⟩, .inr ⟨_, Hlen.out, hJx7⟩⟩
        · have hkN : k = N := by omega
          subst hkN
          gi_wp2
          go_end0
          exact ⟨⟨_, rfl⟩, .inl ⟨_, by simp [tellP], HJk.out⟩⟩
    · gi_wp2
      refine bodyPost_ret (results_none rfl _ _ _) rfl ?_
      exact ⟨⟨_, rfl⟩, .inr ⟨_, ⟨tellsL ⟨⟨pc, pn⟩, pid, parg, true⟩ N, rfl⟩, hJx5⟩⟩

theorem roundIn_depth {P : Program} {m m' l : Nat} {f : FuncId} {tmps : Array Value} {assign body : Code} {w : World} {R : Ending → World → Prop} (h : RoundIn Fence.wide m P l f tmps assign body w R) : RoundIn Fence.wide m' P l f tmps assign body w R :=
  ⟨h.1, fun c cs _ => h.2 c cs (fun _ hd => by simp [Fence.wide] at hd)⟩
theorem yieldAt_depth {P : Program} {m m' l : Nat} {args : Array Value} {W : World} {R : Ending → World → Prop} (h : YieldAt Fence.wide m P l args W R) : YieldAt Fence.wide m' P l args W R := by
  obtain ⟨fn, tmps, assign, body, hy, hR⟩ := h
  exact ⟨fn, tmps, assign, body, hy, roundIn_depth hR⟩

set_option maxRecDepth 100000 in
set_option maxHeartbeats 1000000 in
/-- The iterator over the answers stops. -/
theorem ans_seq {Al : Obj → Prop} (n n0 N : Nat) (p : Pl) (w : World) (hn0 : n0 ≤ w.heap.size) (hN : p.base.n = (N : Int)) (hN2 : N ≤ 64) :
    SeqAt Al Fence.wide n Tryz.prog 77 (fun y => #[plV p] ++ #[y]) encM (Kp n0) (fun ys => ys = ansP p) (fun pre => pre <+: ansP p) (fun pre x => pre ++ [x] <+: ansP p) w := by
  intro l J Jx W hW hJ _ hY h0
  have he : ansP p = tellP p N := by unfold ansP; rw [hN]; rfl
  rw [he]
  have hb0 : Below W.heap.size W (W.alloc (plB p)) := (Below.refl _ _).alloc (Nat.le_refl _) _
  have ht := tell1_in 1 n0 l N p J Jx (W.alloc (plB p)) (Nat.le_refl _) (Nat.le_trans hn0 (Nat.le_trans hW.size hb0.size)) hN2 (hJ.up hb0.size)
    (fun pre x V hv hl => (yieldAt_depth (hY pre x V hv (by rw [he]; exact hl))).mono (fun _ _ h => h.imp (fun h => ⟨h.1, h.2.1, h.2.2.1⟩) (fun h => ⟨h.1, h.2.1⟩))) (abides_next hJ h0 hb0)
  have Ht := Lib.hid (callsIn_wide.1 ht)
  clear ht hY h0 hJ
  obtain ⟨⟨pc, pn⟩, pid, parg, pj⟩ := p
  dsimp only at hN
  subst hN
  unfold plV plB at *
  refine callsIn_wide.2 ?_
  show Calls Tryz.prog _ #[_, _] W _
  go_enter Tryz.func77, Tryz.ntmps77
  go_wp2_with (go_at_call 121; refine Ht.out.mono ?_; rintro e w1 ⟨⟨v, rfl⟩, hq⟩)
  go_end0
  exact ⟨⟨_, rfl⟩, hq⟩

end Go.Proofs.YtoncdnelacolaaaGreatDoor.Ar

namespace Go.Proofs.YtoncdnelacolaaaGreatDoor.Ar
open Go Go.Proofs Go.RowKit Lx Ps
attribute [local go_sem] Oper.semAt_some

theorem cells_own {β : Type} {D b : Nat} {cs : Array Value} {t : TypeId} {fr : Nat × Nat} : OwnFrom D (fun (_ : β) W => W.heap[b]? = some (.cells cs t fr)) := by
  rintro s X Y row h hg hr
  refine (hg.block b (Array.getElem?_eq_some_iff.1 h).1 (fun e => ?_)).trans h
  obtain ⟨_, o, ho, hc⟩ := hr b e.symm
  rw [h] at ho; cases ho; cases hc
theorem elder_own {β : Type} {D b : Nat} {o : Obj} (hb : b < D) : OwnFrom D (fun (_ : β) W => W.heap[b]? = some o) := by
  rintro s X Y row h hg hr
  exact (hg.block b (Array.getElem?_eq_some_iff.1 h).1 (fun e => by have := (hr b e.symm).1; omega)).trans h
theorem calm_func (cs : Array Value) (fr : Nat × Nat) : CalmO (.cells cs 96 fr) := .inr ⟨_, _, _, rfl, by decide, by decide⟩
theorem calm_other {o : Obj} (h : o.isCells = false) : CalmO o := .inl h

/-- What holds in the rounds of moves. -/
def MvIn (n0 B : Nat) (W : World) (p : Pl) (l pre : List Mv) (V : World) : Prop :=
  Lst n0 B V (l ++ pre) ∧ Full n0 W V ∧ V.heap[W.heap.size]? = some (plB p) ∧ V.heap[W.heap.size + 1]? = some (.cells #[yV B] 96 (0, 0))
theorem mvIn_own {n0 B D : Nat} {W : World} {p : Pl} {l : List Mv} (hn : n0 ≤ W.heap.size) (hD : W.heap.size ≤ D) : OwnFrom D (fun (pre : List Mv) V => MvIn n0 B W p l pre V) := by
  rintro pre X Y row ⟨h1, h2, h3, h4⟩ hg hr
  exact ⟨lst_own (fun pre => l ++ pre) pre X Y row h1 hg hr, full_own (β := Unit) hn hD () X Y row h2 hg hr, cells_own (β := Unit) () X Y row h3 hg hr, cells_own (β := Unit) () X Y row h4 hg hr⟩

set_option maxRecDepth 100000 in
set_option maxHeartbeats 2000000 in
theorem moves_push (n0 B N : Nat) (p : Pl) (l : List Mv) (W : World) (h : Lst n0 B W l) (hN : p.base.n = (N : Int)) (hN2 : N ≤ 64) (hl : l.length + 400 ≤ 1000000) :
    Calls Tryz.prog 62 #[plV p, yV B] W fun e W' => (∃ v, e = .returned v) ∧ Lst n0 B W' (l ++ movesP p) ∧ Full n0 W W' := by
  have hn0 := h.2.1
  obtain ⟨k1, k2⟩ := blocks2 W (plB p) (.cells #[yV B] 96)
  have hF0 : Full n0 W ((W.alloc (plB p)).alloc (.cells #[yV B] 96)) := ((Full.refl n0 W).alloc hn0 _).alloc (by rw [alloc_sz2]; omega) _
  have hL0 : Lst n0 B ((W.alloc (plB p)).alloc (.cells #[yV B] 96)) l := (h.alloc _).alloc _
  have hz0 : ((W.alloc (plB p)).alloc (.cells #[yV B] 96)).heap.size = W.heap.size + 2 := by simp
  have hlq : (questP p).length ≤ 65 := by
    unfold questP putsL; rw [hN]; split <;> simp <;> omega
  have hla : (ansP p).length ≤ 65 := by
    unfold ansP tellP tellsL; rw [hN]; split <;> simp <;> omega
  refine (callsIn_wide (n := 5)).1 ?_
  refine callsIn_of_wp_marks Tryz.func62 rfl trivial ?_ rfl
  simp only [Tryz.ntmps62, List.size_toArray, List.length_cons, List.length_nil, Nat.reduceAdd, Nat.reduceSub, Array.replicate_succ, Array.replicate_zero, List.push_toArray, List.append_toArray, List.nil_append, List.cons_append]
  have hpush := fun m l V (hV : Lst n0 B V l) hl => push_any n0 B m l V hV hl
  have Hpush := Lib.hid hpush
  clear hpush
  have hseq := quest_seq (Al := WalkO) 4 n0 N p ((W.alloc (plB p)).alloc (.cells #[yV B] 96)) (by omega) (by omega) hN hN2
  have hI0 : MvIn n0 B W p l [] ((W.alloc (plB p)).alloc (.cells #[yV B] 96)) := ⟨by simpa using hL0, hF0, k1, k2⟩
  have HN := Lib.hid hN
  clear h hF0 hL0 k1 k2 hN
  unfold plV yV
  gi_wp2
  obtain ⟨W0, hW0⟩ : ∃ W0, (W.alloc (plB p)).alloc (.cells #[yV B] 96) = W0 := ⟨_, rfl⟩
  unfold plB yV at hW0
  unfold plB yV at hI0 hseq hz0
  rw [hW0] at hI0 hseq hz0 ⊢
  refine range_at (Al := WalkO) rfl (by omega) (hands_bound rfl trivial (enters_of Tryz.func80 (by kernel_rfl) rfl)) hseq Kp.trans (Kp.book (w := W0) (by omega)) (Below.refl _ _) (fun _ => rfl)
    (fun pre V => MvIn n0 B W p l pre V) (fun _ _ _ => False) (mvIn_own hn0 (by omega)) (fun c _ _ _ _ h _ _ => h) (abidesAl_of_own (mvIn_own hn0 (by omega))) (fun c _ _ _ _ h _ _ => h) hI0
    (fun x a' V => ∃ b, V.heap[b]? = some (.cells #[.int .i64 x.id, .int .i64 x.arg, .int .u8 (x.kind : Int), .int .i64 x.n] 40 (0, 0)) ∧ a' = { tmps := #[.agg #[.bool p.base.cell, .int .i64 p.base.n, .int .i64 (p.id : Int), .int .i64 (p.arg : Int), .bool p.jumps], .func (.func 110) #[] #[.pointer (some ⟨B, 0, none⟩)], .pointer (some ⟨W.heap.size, 0, none⟩), .pointer (some ⟨W.heap.size + 1, 0, none⟩), .pointer (some ⟨b, 0, none⟩), undef, .agg #[.bool p.base.cell, .int .i64 p.base.n, .int .i64 (p.id : Int), .int .i64 (p.arg : Int), .bool p.jumps], .func (.func 80) #[.agg #[.bool p.base.cell, .int .i64 p.base.n, .int .i64 (p.id : Int), .int .i64 (p.arg : Int), .bool p.jumps]] #[], .agg #[.int .i64 x.id, .int .i64 x.arg, .int .u8 (x.kind : Int), .int .i64 x.n], undef, undef, undef, undef, undef, undef, undef, undef, undef, undef, undef], defers := [] })
    (fun x a' s X Y row ⟨b, hb, he⟩ hg hr => ⟨b, cells_own (β := Unit) () X Y row hb hg hr, he⟩)
    ?assign ?body ?done ?stop
  case assign =>
    rintro lY pre x V K hI hK
    dsimp only [encM, mvV]
    gi_wp2
    refine hK _ _ ((KeepsOthers.alloc _ _).from _) (Full.kp ((Full.refl n0 V).alloc hI.1.2.1 _)) ?_ ⟨V.heap.size, heap_alloc_new V _, rfl⟩
    exact ⟨hI.1.alloc _, hI.2.1.alloc hI.1.2.1 _, (Below.heap_alloc V _ _ (Array.getElem?_eq_some_iff.1 hI.2.2.1).1).trans hI.2.2.1, (Below.heap_alloc V _ _ (Array.getElem?_eq_some_iff.1 hI.2.2.2).1).trans hI.2.2.2⟩
  case body =>
    rintro lY pre x a' V _ _ hI ⟨b, hb, rfl⟩ hpfx
    have hlt : pre.length < (questP p).length := by have := hpfx.length_le; simp at this; omega
    clear hpfx
    have hHI := Lib.hid hI
    have hHb := Lib.hid hb
    have cy := cell_of_one hI.2.2.2
    obtain ⟨⟨c0, c1, c2, c3⟩, -, -⟩ := four_c hb
    have hpx : Calls Tryz.prog 110 #[.agg #[.int .i64 x.id, .int .i64 x.arg, .int .u8 (x.kind : Int), .int .i64 x.n], .pointer (some ⟨B, 0, none⟩)] V fun e W' => e = .returned (.bool true) ∧ Lst n0 B W' (l ++ pre ++ [x]) ∧ Full n0 V W' := Hpush.out x _ V hI.1 (by simp; omega)
    have Hpx := Lib.hid hpx
    clear hpx hI hb
    unfold yV at cy
    gi_wp2_with (refine ⟨trivial, ?_⟩; gi_at_call 110; refine (CallsIn.inRound lY (callsIn_wide.2 Hpx.out)).mono ?_; rintro e w1 ⟨rfl, hL1, hF1⟩)
    refine ⟨hF1.others.from _, hF1.kp, ?_⟩
    exact ⟨by rw [← List.append_assoc]; exact hL1, hHI.out.2.1.trans hF1, hF1.same _ _ hHI.out.2.2.1 (plB_calm p), hF1.same _ _ hHI.out.2.2.2 (calm_func _ _)⟩
  case done =>
    rintro D ys V hD rfl hI hK
    have hDl : D < V.heap.size := (Array.getElem?_eq_some_iff.1 hK).1
    have hVz : W.heap.size ≤ V.heap.size := hI.2.1.below.size
    have hnV : n0 ≤ V.heap.size := hI.1.2.1
    have hseq2 := ans_seq (Al := WalkO) 4 n0 N p V hnV HN.out hN2
    have hI2 : MvIn n0 B W p (l ++ questP p) [] V := ⟨by simpa using hI.1, hI.2⟩
    have HI2 := Lib.hid hI2
    obtain ⟨⟨c0, c1, c2, c3, c4⟩, -, -⟩ := five_c hI.2.2.1
    have HK := Lib.hid hK
    have HW0 := Lib.hid hz0
    clear hI hI2 hI0 hseq hW0 hK hz0
    gi_wp2
    refine range_at (Al := WalkO) rfl (by omega) (hands_bound rfl trivial (enters_of Tryz.func77 (by kernel_rfl) rfl)) hseq2 Kp.trans (Kp.book (w := V) (by omega)) (Below.refl _ _) (fun _ => rfl)
      (fun pre U => MvIn n0 B W p (l ++ questP p) pre U ∧ U.heap[D]? = some (.deferred (some []))) (fun _ _ _ => False)
      (fun s X Y row hs hg hr => ⟨mvIn_own hn0 hVz s X Y row hs.1 hg hr, elder_own (β := Unit) hDl () X Y row hs.2 hg hr⟩) (fun c _ _ _ _ h _ _ => h) (abidesAl_of_own (fun s X Y row hs hg hr => ⟨mvIn_own hn0 hVz s X Y row hs.1 hg hr, elder_own (β := Unit) hDl () X Y row hs.2 hg hr⟩)) (fun c _ _ _ _ h _ _ => h) ⟨HI2.out, HK.out⟩
      (fun x a' U => ∃ b, U.heap[b]? = some (.cells #[.int .i64 x.id, .int .i64 x.arg, .int .u8 (x.kind : Int), .int .i64 x.n] 40 (0, 0)) ∧ a' = { tmps := #[.agg #[.bool p.base.cell, .int .i64 p.base.n, .int .i64 (p.id : Int), .int .i64 (p.arg : Int), .bool p.jumps], .func (.func 110) #[] #[.pointer (some ⟨B, 0, none⟩)], .pointer (some ⟨W.heap.size, 0, none⟩), .pointer (some ⟨W.heap.size + 1, 0, none⟩), undef, .pointer (some ⟨b, 0, none⟩), .agg #[.bool p.base.cell, .int .i64 p.base.n, .int .i64 (p.id : Int), .int .i64 (p.arg : Int), .bool p.jumps], .func (.func 80) #[.agg #[.bool p.base.cell, .int .i64 p.base.n, .int .i64 (p.id : Int), .int .i64 (p.arg : Int), .bool p.jumps]] #[], undef, undef, undef, undef, undef, .agg #[.bool p.base.cell, .int .i64 p.base.n, .int .i64 (p.id : Int), .int .i64 (p.arg : Int), .bool p.jumps], .func (.func 77) #[.agg #[.bool p.base.cell, .int .i64 p.base.n, .int .i64 (p.id : Int), .int .i64 (p.arg : Int), .bool p.jumps]] #[], .agg #[.int .i64 x.id, .int .i64 x.arg, .int .u8 (x.kind : Int), .int .i64 x.n], undef, undef, undef, undef], defers := [] })
      (fun x a' s X Y row ⟨b, hb, he⟩ hg hr => ⟨b, cells_own (β := Unit) () X Y row hb hg hr, he⟩)
      ?assign2 ?body2 ?done2 ?stop2
    case assign2 =>
      rintro lY pre x U K hI hK
      dsimp only [encM, mvV]
      gi_wp2
      refine hK _ _ ((KeepsOthers.alloc _ _).from _) (Full.kp ((Full.refl n0 U).alloc hI.1.1.2.1 _)) ?_ ⟨U.heap.size, heap_alloc_new U _, rfl⟩
      exact ⟨⟨hI.1.1.alloc _, hI.1.2.1.alloc hI.1.1.2.1 _, (Below.heap_alloc U _ _ (Array.getElem?_eq_some_iff.1 hI.1.2.2.1).1).trans hI.1.2.2.1, (Below.heap_alloc U _ _ (Array.getElem?_eq_some_iff.1 hI.1.2.2.2).1).trans hI.1.2.2.2⟩, (Below.heap_alloc U _ _ (Array.getElem?_eq_some_iff.1 hI.2).1).trans hI.2⟩
    case body2 =>
      rintro lY pre x a' U _ _ hI ⟨b, hb, rfl⟩ hpfx
      have hlt : pre.length < (ansP p).length := by have := hpfx.length_le; simp at this; omega
      clear hpfx
      have hHI := Lib.hid hI
      have cy := cell_of_one hI.1.2.2.2
      obtain ⟨⟨c0, c1, c2, c3⟩, -, -⟩ := four_c hb
      have hpx : Calls Tryz.prog 110 #[.agg #[.int .i64 x.id, .int .i64 x.arg, .int .u8 (x.kind : Int), .int .i64 x.n], .pointer (some ⟨B, 0, none⟩)] U fun e W' => e = .returned (.bool true) ∧ Lst n0 B W' (l ++ questP p ++ pre ++ [x]) ∧ Full n0 U W' := Hpush.out x _ U hI.1.1 (by simp; omega)
      have Hpx := Lib.hid hpx
      clear hpx hI hb
      unfold yV at cy
      gi_wp2_with (refine ⟨trivial, ?_⟩; gi_at_call 110; refine (CallsIn.inRound lY (callsIn_wide.2 Hpx.out)).mono ?_; rintro e w1 ⟨rfl, hL1, hF1⟩)
      refine ⟨hF1.others.from _, hF1.kp, ?_⟩
      exact ⟨⟨by rw [← List.append_assoc]; exact hL1, hHI.out.1.2.1.trans hF1, hF1.same _ _ hHI.out.1.2.2.1 (plB_calm p), hF1.same _ _ hHI.out.1.2.2.2 (calm_func _ _)⟩, hF1.same _ _ hHI.out.2 (calm_other rfl)⟩
    case done2 =>
      rintro D2 ys V2 hD2 rfl hI3 hK2
      have hne : D ≠ D2 := by omega
      have hK1 : (V2.putObj D2 (.deferred none)).heap[D]? = some (.deferred (some [])) := (World.putObj_heap_other hne).trans hI3.2
      have hL3 := (mvIn_own (B := B) (p := p) (l := l ++ questP p) hn0 hVz).putObj (s := ansP p) (.deferred none) hI3.1 hD2 hK2 rfl
      have hL4 := (mvIn_own (B := B) (p := p) (l := l ++ questP p) hn0 (show W.heap.size ≤ D by have := HW0.out; omega)).putObj (s := ansP p) (.deferred none) hL3 (Nat.le_refl _) hK1 rfl
      gi_wp2
      refine ⟨by simp, .inl ⟨_, _, rfl, run_takeDeferred hK2, by simp, .inl ⟨_, _, rfl, run_takeDeferred hK1, ?_⟩⟩⟩
      refine ⟨.tuple #[], by simp [results, Tryz.results62], ⟨_, rfl⟩, ?_, hL4.2.1⟩
      have := hL4.1
      unfold movesP
      rw [← List.append_assoc]
      exact this
    case stop2 =>
      rintro D2 c pre V2 _ _ h _
      exact h.elim
  case stop =>
    rintro D c pre V _ _ h _
    exact h.elim

end Go.Proofs.YtoncdnelacolaaaGreatDoor.Ar

namespace Go.Proofs.YtoncdnelacolaaaGreatDoor.Ar
open Go Go.Proofs Go.RowKit Lx Ps
attribute [local go_sem] Oper.semAt_some

/-- What the iterator may write: variables that hold places. -/
def PlaceO (o : Obj) : Prop := ∃ (cs : Array Value) (fr : Nat × Nat), o = .cells cs 85 fr
/-- What the iterators over places may turn: those, and records of loops. -/
def AnyO (o : Obj) : Prop := o.isCells = false ∨ PlaceO o

theorem set_one {W : World} {b i : Nat} {cs : Array Value} {t : TypeId} {v : Value} (h : W.heap[b]? = some (.cells cs t (0, 0))) : (W.setCell ⟨b, i, none⟩ v).heap[b]? = some (.cells (cs.setIfInBounds i v) t (0, 0)) := by
  rw [setCell_eq_setRow W b i cs t (0, 0) v h]
  exact setRow_heap _ _ _ _ _ _ h
theorem five_set {W : World} {b : Nat} {x0 x1 x2 x3 x4 y0 y1 y2 y3 y4 : Value} {t : TypeId} (h : W.heap[b]? = some (.cells #[x0, x1, x2, x3, x4] t (0, 0))) :
    (((((W.setCell ⟨b, 0, none⟩ y0).setCell ⟨b, 1, none⟩ y1).setCell ⟨b, 2, none⟩ y2).setCell ⟨b, 3, none⟩ y3).setCell ⟨b, 4, none⟩ y4).heap[b]? = some (.cells #[y0, y1, y2, y3, y4] t (0, 0)) :=
  set_one (set_one (set_one (set_one (set_one h))))
theorem five_grown (W : World) (b : Nat) (y0 y1 y2 y3 y4 : Value) :
    W.grownBy (((((W.setCell ⟨b, 0, none⟩ y0).setCell ⟨b, 1, none⟩ y1).setCell ⟨b, 2, none⟩ y2).setCell ⟨b, 3, none⟩ y3).setCell ⟨b, 4, none⟩ y4) (some b) := by
  have tr : ∀ {X Y Z : World}, X.grownBy Y (some b) → Y.grownBy Z (some b) → X.grownBy Z (some b) := fun h k =>
    ⟨k.os.trans h.os, k.tape.trans h.tape, k.output.trans h.output, Nat.le_trans h.size k.size, fun i hi hne => (k.block i (Nat.lt_of_lt_of_le hi h.size) hne).trans (h.block i hi hne)⟩
  have st : ∀ (X : World) (i : Nat) (y : Value), X.grownBy (X.setCell ⟨b, i, none⟩ y) (some b) := fun X i y =>
    ⟨rfl, rfl, rfl, by simp, fun k _ hne => by
      have hk : ¬ b = k := fun e => hne (by rw [e])
      rw [World.setCell]
      simp [Array.getElem?_modify, hk]⟩
  exact tr (tr (tr (tr (st _ _ _) (st _ _ _)) (st _ _ _)) (st _ _ _)) (st _ _ _)

theorem rowL_some {a : Ar} {k : Nat} (hk : k ≤ a.ids.length) : 0 < (rowL a k).length := by
  unfold rowL
  split
  · simp
  · rename_i h
    have : k - 1 < a.ids.length := by omega
    rw [List.getElem?_eq_getElem this]
    simp
theorem plAt_nat (a : Ar) (k j : Nat) : plAt a k j = (rowL a k)[j]? := by
  unfold plAt
  rw [if_neg (by omega), Int.toNat_natCast, Int.toNat_natCast]
def rowsK (a : Ar) (k : Nat) : List Pl := (List.range k).flatMap (rowL a)
theorem rowsK_succ (a : Ar) (k : Nat) : rowsK a (k + 1) = rowsK a k ++ rowL a k := by
  unfold rowsK
  rw [List.range_succ, List.flatMap_append]; simp
def encP (p : Pl) : Array Value := #[plV p]
def plC (o : Option Pl) : Array Value := match o with
  | some p => #[.bool p.base.cell, .int .i64 p.base.n, .int .i64 (p.id : Int), .int .i64 (p.arg : Int), .bool p.jumps]
  | none => #[.bool false, .int .i64 0, .int .i64 0, .int .i64 0, .bool false]

theorem placesL_rows (a : Ar) : placesL a = rowsK a (a.ids.length + 1) := rfl
theorem rows_prefix {a : Ar} {k : Nat} (j : Nat) (hk : k ≤ a.ids.length) : (rowsK a k ++ (rowL a k).take j) <+: placesL a := by
  obtain ⟨r, hr⟩ := range_prefix (show k + 1 ≤ a.ids.length + 1 by omega)
  refine ⟨(rowL a k).drop j ++ r.flatMap (rowL a), ?_⟩
  rw [placesL_rows]
  unfold rowsK
  rw [← hr, List.flatMap_append, List.range_succ, List.flatMap_append]
  simp only [List.append_assoc, List.flatMap_cons, List.flatMap_nil, List.append_nil]
  rw [← List.append_assoc (List.take j _), List.take_append_drop]
theorem rowL_nums {a : Ar} {k j : Nat} {p : Pl} (h : (rowL a k)[j]? = some p) : p.id = k ∧ p.arg = j := plAt_nums ((plAt_nat a k j).trans h)
/-- The cells of the place at hand, by name. -/
theorem plR_at {a : Ar} {k j : Nat} {o : Option Pl} (h : (rowL a k)[j]? = o) : plR (plAt a k j) = .tuple #[.agg (plC o), .bool o.isSome] := by
  rw [plAt_nat, h]
  cases o <;> rfl

/-- How many places of a row are still to come. -/
def plMeas (L B : Nat) (ok : Value) (W : World) : Nat := match ok with
  | .bool true => L + 1 - (intOf ((W.cell? ⟨B, 3, none⟩).getD undef)).toNat
  | _ => 0

set_option maxRecDepth 100000 in
set_option maxHeartbeats 4000000 in
theorem places1_in (n lY : Nat) (ids : Value) (a : Ar) (w0 : World) (J Jx : List Pl → World → Prop) (W : World) (hn : 1 ≤ n) (hin : ArIn w0 ids a) (hw : Below w0.heap.size w0 W)
    (hJ : AbidesAl AnyO W.heap.size J)
    (hY : ∀ pre x W1, J pre W1 → pre ++ [x] <+: placesL a → YieldAt Fence.wide (n - 1) Tryz.prog lY (encP x) W1 fun e W' =>
      (e = .returned (.bool true) ∧ J (pre ++ [x]) W' ∧ Kp w0.heap.size W1 W') ∨ (e = .returned (.bool false) ∧ Jx (pre ++ [x]) W')) (h0 : J [] W) :
    CallsIn Fence.wide n Tryz.prog 61 #[arV ids a, .func (.yield lY) #[] #[]] W fun e W' => (∃ v, e = .returned v) ∧
      ((∃ ys, ys = placesL a ∧ J ys W') ∨ (∃ pre, pre <+: placesL a ∧ Jx pre W')) := by
  have hpl : ∀ (k j : Nat) V, Below w0.heap.size w0 V → Calls Tryz.prog 70 #[arV ids a, .int .i64 (k : Int), .int .i64 (j : Int)] V fun r w' => r = .returned (plR (plAt a k j)) ∧ Below V.heap.size V w' := fun k j V hb => place_any ids a k j V (hin.below hb)
  have hlen := hin.len
  have hrl : ∀ k, (rowL a k).length ≤ 140737488355330 := by
    intro k
    unfold rowL
    split
    · simp
    · split
      · simp
      · rename_i t ht
        rw [List.length_cons, paramsFrom_length]
        have := hin.lens t (List.mem_of_getElem? ht)
        omega
  obtain ⟨A, cap, rfl, -⟩ := hin.sl
  clear hin
  have hb0 : Below W.heap.size W (W.alloc (.cells #[.slice A a.ids.length cap, .bool a.root.cell, .int .i64 a.root.n, .bool a.jumps] 80)) := (Below.refl _ _).alloc (Nat.le_refl _) _
  have hbx := heap_alloc_new W (.cells #[.slice A a.ids.length cap, .bool a.root.cell, .int .i64 a.root.n, .bool a.jumps] 80 (0, 0))
  have Hpl := Lib.hid hpl
  have HJ := Lib.hid hJ
  have HY := Lib.hid hY
  have HR := Lib.hid hrl
  clear hpl hJ hY hrl
  unfold arV at *
  refine callsIn_of_wp Tryz.func61 rfl trivial ?_ rfl
  simp only [Tryz.ntmps61, List.size_toArray, List.length_cons, List.length_nil, Nat.reduceAdd, Nat.reduceSub, Array.replicate_succ, Array.replicate_zero, List.push_toArray, List.append_toArray, List.nil_append, List.cons_append]
  gi_wp2
  gi_loopw [4, 5, 6, 12] (fun _ _ _ c wr => ∃ k : Nat, k ≤ a.ids.length + 1 ∧ c = .int .i64 (k : Int) ∧ J (rowsK a k) wr ∧ Below w0.heap.size w0 wr ∧ W.heap.size ≤ wr.heap.size ∧ wr.heap[W.heap.size]? = some (.cells #[.slice A a.ids.length cap, .bool a.root.cell, .int .i64 a.root.n, .bool a.jumps] 80 (0, 0))) (fun _ _ _ c _ => a.ids.length + 1 - (intOf c).toNat)
  case atStart => exact ⟨0, Nat.zero_le _, rfl, abides_next HJ.out h0 hb0, hw.trans (hb0.mono hw.size), hb0.size, hbx⟩
  case round =>
    obtain ⟨k, hk, rfl, hJk, hbw, hzk, hbk⟩ := hrel
    obtain ⟨⟨d0, d1, d2, d3⟩, -, -⟩ := four_c hbk
    have HJk := Lib.hid hJk
    have Hbk := Lib.hid hbk
    clear hJk hbk hbx h0 hb0
    by_cases hlt : k < a.ids.length + 1
    · obtain ⟨p0, hp0⟩ : ∃ p0, (rowL a k)[0]? = some p0 := ⟨_, List.getElem?_eq_getElem (rowL_some (by omega))⟩
      have hcall := Hpl.out k 0 wr hbw
      rw [plR_at hp0] at hcall
      have Hcall := Lib.hid hcall
      have Hp0 := Lib.hid hp0
      clear hcall hp0
      dsimp only [plC, Option.isSome] at Hcall
      gi_wp2_with (refine ⟨trivial, ?_⟩; gi_at_call 70; refine (callsIn_wide.2 Hcall.out).mono ?_; rintro e w1 ⟨rfl, hb1⟩)
      have hbp := heap_alloc_new w1 (.cells #[.bool p0.base.cell, .int .i64 p0.base.n, .int .i64 (p0.id : Int), .int .i64 (p0.arg : Int), .bool p0.jumps] 85)
      have hz1 : W.heap.size ≤ w1.heap.size := Nat.le_trans hzk hb1.size
      have hb2 : Below w0.heap.size w0 w1 := hbw.trans (hb1.mono hbw.size)
      have hbk2 := (Below.heap_alloc w1 (.cells #[.bool p0.base.cell, .int .i64 p0.base.n, .int .i64 (p0.id : Int), .int .i64 (p0.arg : Int), .bool p0.jumps] 85) _ (Nat.lt_of_lt_of_le (Array.getElem?_eq_some_iff.1 Hbk.out).1 hb1.size)).trans ((hb1.block _ (Array.getElem?_eq_some_iff.1 Hbk.out).1).trans Hbk.out)
      have hJ2 := abides_next HJ.out (abides_next HJ.out HJk.out hb1) ((Below.refl _ w1).alloc (Nat.le_refl _) (.cells #[.bool p0.base.cell, .int .i64 p0.base.n, .int .i64 (p0.id : Int), .int .i64 (p0.arg : Int), .bool p0.jumps] 85))
      have hRlt : W.heap.size < w1.heap.size := Nat.lt_of_lt_of_le (Array.getElem?_eq_some_iff.1 Hbk.out).1 hb1.size
      have hn0 : w0.heap.size ≤ w1.heap.size := hb2.size
      gi_loopw [6] (fun ok wr2 => ∃ (j : Nat) (o : Option Pl), j ≤ (rowL a k).length ∧ (rowL a k)[j]? = o ∧ ok = .bool o.isSome ∧ J (rowsK a k ++ (rowL a k).take j) wr2 ∧ Below w0.heap.size w0 wr2 ∧ W.heap.size ≤ wr2.heap.size ∧ wr2.heap[W.heap.size]? = some (.cells #[.slice A a.ids.length cap, .bool a.root.cell, .int .i64 a.root.n, .bool a.jumps] 80 (0, 0)) ∧ wr2.heap[w1.heap.size]? = some (.cells (plC o) 85 (0, 0)))
        (fun ok wr2 => plMeas (rowL a k).length w1.heap.size ok wr2)
      case atStart =>
        exact ⟨0, some p0, Nat.zero_le _, Hp0.out, rfl, by simpa using hJ2, hb2.alloc hb2.size _, by rw [alloc_sz2]; omega, hbk2, hbp⟩
      case round =>
        obtain ⟨j, o, hj, ho, rfl, hJj, hbj, hzj, hbkj, hbpj⟩ := hrel
        have HJj := Lib.hid hJj
        have Hbkj := Lib.hid hbkj
        have Hbpj := Lib.hid hbpj
        clear hJj hbp hbk2 hJ2
        cases o with
        | none =>
          have hjL : j = (rowL a k).length := by
            have := List.getElem?_eq_none_iff.1 ho
            omega
          have Ho := Lib.hid hjL
          clear hbkj hbpj ho hjL
          gi_wp2
          go_roundw
          case rel =>
            refine ⟨k + 1, by omega, by go_num, ?_, hbj, hzj, Hbkj.out⟩
            rw [rowsK_succ]
            have := HJj.out
            rw [Ho.out, List.take_length] at this
            exact this
          case measure => simp [intOf]; omega
        | some p =>
          obtain ⟨hpi, hpa⟩ := rowL_nums ho
          have hjL : j < (rowL a k).length := (List.getElem?_eq_some_iff.1 ho).1
          have hcallj := Hpl.out k (j + 1)
          obtain ⟨o2, ho2⟩ : ∃ o2, (rowL a k)[j + 1]? = o2 := ⟨_, rfl⟩
          have hpre : rowsK a k ++ (rowL a k).take (j + 1) = rowsK a k ++ (rowL a k).take j ++ [p] := by
            rw [List.take_add_one, ho]; simp
          have hyl := HY.out _ p wr HJj.out (hpre ▸ rows_prefix (j + 1) (show k ≤ a.ids.length by omega))
          rw [← hpre] at hyl
          obtain ⟨fn, tmps, assign, body, hy0, hR⟩ := hyl
          have hy : (Instr.yield lY #[.agg #[.bool p.base.cell, .int .i64 p.base.n, .int .i64 (p.id : Int), .int .i64 (p.arg : Int), .bool p.jumps]]).run Tryz.prog wr = .ok (.round lY fn tmps assign body) wr := hy0
          have hpx := rows_prefix (j + 1) (show k ≤ a.ids.length by omega)
          dsimp only [plC] at hbpj
          obtain ⟨⟨e0, e1, e2, e3, e4⟩, -, -⟩ := five_c hbpj
          obtain ⟨⟨d0, d1, d2, d3⟩, -, -⟩ := four_c hbkj
          have hrk := HR.out k
          have Ho2 := Lib.hid ho2
          have Hpx := Lib.hid hpx
          have Hpi := Lib.hid (And.intro hpi hpa)
          clear hy0 hbkj ho ho2 hpre hpx hpi hpa hbpj
          gi_wp2
          refine hR.mono ?_
          rintro e' w5 (⟨rfl, hJ5, hk5⟩ | ⟨rfl, hJx5⟩)
          · have hbk5 := hk5.cells Hbkj.out (by decide) (by decide)
            have hbp5 := hk5.cells Hbpj.out (by decide) (by decide)
            dsimp only [plC] at hbp5
            rw [Hpi.out.1, Hpi.out.2] at hbp5
            have hb5 : Below w0.heap.size w0 w5 := hbj.trans hk5.1
            have hz5 : W.heap.size ≤ w5.heap.size := Nat.le_trans hzj hk5.1.size
            have ej : ((j + 1 : Nat) : Int) = (j : Int) + 1 := by omega
            have hc5 := hcallj w5 hb5
            rw [plR_at Ho2.out, ej] at hc5
            have HM := Lib.hid (show plMeas (rowL a k).length w1.heap.size (.bool true) wr = (rowL a k).length + 1 - j by
              unfold plMeas
              rw [show wr.cell? ⟨w1.heap.size, 3, none⟩ = some (.int .i64 (p.arg : Int)) from cell_of_row _ _ 3 _ _ _ Hbpj.out, Hpi.out.2]
              simp [intOf])
            have Hbp5 := Lib.hid hbp5
            have Hbk5 := Lib.hid hbk5
            obtain ⟨⟨f0, f1, f2, f3⟩, -, fl⟩ := four_c hbk5
            obtain ⟨⟨g0, g1, g2, g3, g4⟩, -, gl⟩ := five_c hbp5
            have hj64 : (j : Int) ≤ 140737488355330 := by omega
            have hj00 : (0 : Int) ≤ (j : Int) := by omega
            have HH := Lib.hid (And.intro hjL (And.intro hn0 (And.intro hRlt hz1)))
            clear e0 e1 e2 e3 e4 d0 d1 d2 d3 hbk5 hbp5 hcallj ej hy hR hk5
            cases o2
            all_goals
              have Hc5 := Lib.hid hc5
              clear hc5
              dsimp only [plC, Option.isSome] at Hc5
              gi_wp2_with (refine ⟨trivial, ?_⟩; gi_at_call 70; refine (callsIn_wide.2 Hc5.out).mono ?_; rintro e w6 ⟨rfl, hb6⟩; have hbp6 := Lib.hid (heap_below hb6 gl Hbp5.out); have hbk6 := Lib.hid (heap_below hb6 fl Hbk5.out); obtain ⟨⟨q0, q1, q2, q3, q4⟩, ⟨p0, p1, p2, p3, p4⟩, ql⟩ := five_c hbp6.out; clear f0 f1 f2 f3 g0 g1 g2 g3 g4)
              go_roundw
              case rel =>
                refine ⟨j + 1, _, by omega, Ho2.out, rfl, ?_, ?_, ?_, ?_, ?_⟩
                · exact HJ.out _ _ _ _ (abides_next HJ.out hJ5 hb6) (five_grown w6 w1.heap.size _ _ _ _ _) (fun r e => by
                    injection e with e
                    subst e
                    exact ⟨HH.out.2.2.2, _, hbp6.out, .inr ⟨_, _, rfl⟩⟩)
                · exact below5s (hb5.trans (hb6.mono hb5.size)) HH.out.2.1
                · have := hb6.size
                  simp; omega
                · exact ((five_grown w6 w1.heap.size _ _ _ _ _).block _ (Nat.lt_of_lt_of_le fl hb6.size) (fun e => by injection e with e; have := HH.out.2.2.1; omega)).trans hbk6.out
                · exact five_set hbp6.out
              case measure =>
                refine Nat.lt_of_lt_of_eq ?_ HM.out.symm
                unfold plMeas
                first
                  | (dsimp only; omega)
                  | (dsimp only
                     rw [show World.cell? _ ⟨w1.heap.size, 3, none⟩ = _ from cell_of_row _ _ 3 _ _ _ (five_set hbp6.out)]
                     have := (rowL_nums Ho2.out).2
                     simp [intOf, this]; omega)
          · gi_wp2
            refine bodyPost_ret (results_none rfl _ _ _) rfl ?_
            exact ⟨⟨_, rfl⟩, .inr ⟨_, Hpx.out, hJx5⟩⟩
    · have hkN : k = a.ids.length + 1 := by omega
      subst hkN
      gi_wp2
      go_end0
      exact ⟨⟨_, rfl⟩, .inl ⟨_, (placesL_rows a).symm, HJk.out⟩⟩

/-- The iterator over the places stops. -/
theorem places_seq (n : Nat) (ids : Value) (a : Ar) (w0 w : World) (hn : 1 ≤ n) (hin : ArIn w0 ids a) (hw : Below w0.heap.size w0 w) :
    SeqAt AnyO Fence.wide n Tryz.prog 61 (fun y => #[arV ids a] ++ #[y]) encP (Kp w0.heap.size) (fun ys => ys = placesL a) (fun pre => pre <+: placesL a) (fun pre x => pre ++ [x] <+: placesL a) w :=
  fun l J Jx W hW hJ _ hY h0 => places1_in n l ids a w0 J Jx W hn hin (hw.trans (hW.mono hw.size)) hJ (fun pre x V hv hl => (hY pre x V hv hl).mono (fun _ _ h => h.imp (fun h => ⟨h.1, h.2.1, h.2.2.1⟩) (fun h => ⟨h.1, h.2.1⟩))) h0

end Go.Proofs.YtoncdnelacolaaaGreatDoor.Ar
