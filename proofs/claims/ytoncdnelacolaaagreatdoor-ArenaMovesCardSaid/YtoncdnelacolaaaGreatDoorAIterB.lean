/- The iterators over the questions and the answers of a place. -/
import Derived.Test.YtoncdnelacolaaaGreatDoorAIterA
namespace Go.Proofs.YtoncdnelacolaaaGreatDoor.Ar
open Go Go.Proofs Go.RowKit Lx Ps
attribute [local go_sem] Oper.semAt_some

theorem grown_of_below {w w' : World} (h : Below w.heap.size w w') : w.grownBy w' none := ⟨h.os, h.tape, h.output, h.size, fun i hi _ => h.block i hi⟩
theorem abides_next {β : Type} {Al : Obj → Prop} {J : List β → World → Prop} {B : Nat} (hJ : AbidesAl Al B J) {pre : List β} {w w' : World} (h : J pre w) (hb : Below w.heap.size w w') : J pre w' :=
  hJ pre w w' none h (grown_of_below hb) (fun r e => by cases e)
theorem range_prefix {a b : Nat} (h : a ≤ b) : List.range a <+: List.range b := by
  obtain ⟨c, rfl⟩ := Nat.exists_eq_add_of_le h
  exact ⟨(List.range c).map (a + ·), List.range_add.symm⟩
def encM (m : Mv) : Array Value := #[mvV m]

set_option maxRecDepth 100000 in
set_option maxHeartbeats 2000000 in
theorem quest1_in {Al : Obj → Prop} (n n0 lY N : Nat) (p : Pl) (J Jx : List Mv → World → Prop) (W : World) (hn : 1 ≤ n) (_hn0 : n0 ≤ W.heap.size) (hN : p.base.n = (N : Int)) (hN2 : N ≤ 64)
    (hJ : AbidesAl Al W.heap.size J)
    (hY : ∀ pre x W1, J pre W1 → pre ++ [x] <+: questP p → YieldAt Fence.wide (n - 1) Tryz.prog lY (encM x) W1 fun e W' =>
      (e = .returned (.bool true) ∧ J (pre ++ [x]) W' ∧ Kp n0 W1 W') ∨ (e = .returned (.bool false) ∧ Jx (pre ++ [x]) W')) (h0 : J [] W) :
    CallsIn Fence.wide n Tryz.prog 80 #[plV p, .func (.yield lY) #[] #[]] W fun e W' => (∃ v, e = .returned v) ∧
      ((∃ ys, ys = questP p ∧ J ys W') ∨ (∃ pre, pre <+: questP p ∧ Jx pre W')) := by
  obtain ⟨⟨pc, pn⟩, pid, parg, pj⟩ := p
  dsimp only at hN
  subst hN
  have hb0 : Below W.heap.size W (W.alloc (.cells #[.bool pc, .int .i64 (N : Int), .int .i64 (pid : Int), .int .i64 (parg : Int), .bool pj] 85)) := (Below.refl _ _).alloc (Nat.le_refl _) _
  have hbx := heap_alloc_new W (.cells #[.bool pc, .int .i64 (N : Int), .int .i64 (pid : Int), .int .i64 (parg : Int), .bool pj] 85)
  have hask := fun V => ask_any ⟨⟨pc, (N : Int)⟩, pid, parg, pj⟩ V
  have hput := fun (k : Nat) V => put_any ⟨⟨pc, (N : Int)⟩, pid, parg, pj⟩ (k : Int) V
  have hlen0 : [] ++ [askM ⟨⟨pc, (N : Int)⟩, pid, parg, pj⟩] <+: questP ⟨⟨pc, (N : Int)⟩, pid, parg, pj⟩ := ⟨_, rfl⟩
  have HyA := Lib.hid (fun (V : World) (hb : Below W.heap.size W V) => show ∃ fn tmps assign body, (Instr.yield lY #[.agg #[.int .i64 (pid : Int), .int .i64 (parg : Int), .int .u8 1, .int .i64 0]]).run Tryz.prog V = .ok (.round lY fn tmps assign body) V ∧
      RoundIn Fence.wide (n - 1) Tryz.prog lY fn tmps assign body V (fun e W' => (e = .returned (.bool true) ∧ J [askM ⟨⟨pc, (N : Int)⟩, pid, parg, pj⟩] W' ∧ Kp n0 V W') ∨ (e = .returned (.bool false) ∧ Jx [askM ⟨⟨pc, (N : Int)⟩, pid, parg, pj⟩] W')) from
    hY [] (askM ⟨⟨pc, (N : Int)⟩, pid, parg, pj⟩) V (abides_next hJ h0 hb) hlen0)
  unfold plV at *
  dsimp only at *
  refine callsIn_of_wp Tryz.func80 rfl trivial ?_ rfl
  simp only [Tryz.ntmps80, List.size_toArray, List.length_cons, List.length_nil, Nat.reduceAdd, Nat.reduceSub, Array.replicate_succ, Array.replicate_zero, List.push_toArray, List.append_toArray, List.nil_append, List.cons_append]
  have Hask := Lib.hid hask
  have Hput := Lib.hid hput
  have Hbx := Lib.hid hbx
  clear hask hput hbx hlen0 h0
  cases pc
  · gi_wp2_with (refine ⟨trivial, ?_⟩; gi_at_call 116; refine (callsIn_wide.2 (Hask.out _)).mono ?_; rintro e w1 ⟨rfl, hb1⟩; have hk1 := Lib.hid (heap_below hb1 (by rw [alloc_sz2]; omega) Hbx.out); have hb2 := hb0.trans (hb1.mono hb0.size); obtain ⟨fn, tmps, assign, body, hy, hR⟩ := HyA.out _ hb2)
    refine hR.mono ?_
    rintro e' w5 (⟨rfl, hJ5, hk5⟩ | ⟨rfl, hJx5⟩)
    · obtain ⟨⟨c0, c1, c2, c3, c4⟩, -, -⟩ := five_c (hk5.cells hk1.out (by decide) (by decide))
      gi_wp2
      refine bodyPost_ret (results_none rfl _ _ _) rfl ?_
      exact ⟨⟨_, rfl⟩, .inl ⟨_, rfl, hJ5⟩⟩
    · gi_wp2
      refine bodyPost_ret (results_none rfl _ _ _) rfl ?_
      exact ⟨⟨_, rfl⟩, .inr ⟨_, ⟨[], rfl⟩, hJx5⟩⟩
  · gi_wp2_with (refine ⟨trivial, ?_⟩; gi_at_call 116; refine (callsIn_wide.2 (Hask.out _)).mono ?_; rintro e w1 ⟨rfl, hb1⟩; have hk1 := Lib.hid (heap_below hb1 (by rw [alloc_sz2]; omega) Hbx.out); have hb2 := hb0.trans (hb1.mono hb0.size); obtain ⟨fn, tmps, assign, body, hy, hR⟩ := HyA.out _ hb2)
    refine hR.mono ?_
    rintro e' w5 (⟨rfl, hJ5, hk5⟩ | ⟨rfl, hJx5⟩)
    · have hbk5 := hk5.cells hk1.out (by decide) (by decide)
      obtain ⟨⟨c0, c1, c2, c3, c4⟩, -, -⟩ := five_c hbk5
      have hz5 : W.heap.size ≤ w5.heap.size := Nat.le_trans hb2.size hk5.2.1.size
      clear hk5 hy hR hk1 hb1 hb2 HyA
      gi_wp2
      gi_loopw [4, 19] (fun _ c wr => ∃ k : Nat, k ≤ N ∧ c = .int .i64 (k : Int) ∧ J ([askM ⟨⟨true, (N : Int)⟩, pid, parg, pj⟩] ++ (List.range k).map (putM ⟨⟨true, (N : Int)⟩, pid, parg, pj⟩)) wr ∧ W.heap.size ≤ wr.heap.size ∧ wr.heap[W.heap.size]? = some (.cells #[.bool true, .int .i64 (N : Int), .int .i64 (pid : Int), .int .i64 (parg : Int), .bool pj] 85)) (fun _ c _ => N - (intOf c).toNat)
      case atStart => exact ⟨0, Nat.zero_le _, rfl, hJ5, hz5, hbk5⟩
      case round =>
        obtain ⟨k, hk, rfl, hJk, hzk, hbk⟩ := hrel
        have hsz : wr.heap.size < wr.heap.size + 1 := Nat.lt_succ_self _
        obtain ⟨⟨d0, d1, d2, d3, d4⟩, -, -⟩ := five_c hbk
        have Hbk := Lib.hid hbk
        have HJk := Lib.hid hJk
        clear hbk hJk c0 c1 c2 c3 c4 hJ5 hbk5
        by_cases hlt : k < N
        · have hlen : [askM ⟨⟨true, (N : Int)⟩, pid, parg, pj⟩] ++ (List.range k).map (putM ⟨⟨true, (N : Int)⟩, pid, parg, pj⟩) ++ [putM ⟨⟨true, (N : Int)⟩, pid, parg, pj⟩ k] <+: questP ⟨⟨true, (N : Int)⟩, pid, parg, pj⟩ := by
            rw [List.append_assoc, ← putsL_succ]
            obtain ⟨r, hr⟩ := range_prefix (show k + 1 ≤ N by omega)
            refine ⟨r.map (putM ⟨⟨true, (N : Int)⟩, pid, parg, pj⟩), ?_⟩
            simp only [questP, putsL, if_true, List.cons_append, List.nil_append, List.cons.injEq, true_and, Int.toNat_natCast]
            rw [← List.map_append, hr]
          have Hlen := Lib.hid hlen
          have Hyk := Lib.hid (fun (V : World) (hb : Below wr.heap.size wr V) => show ∃ fn tmps assign body, (Instr.yield lY #[.agg #[.int .i64 (pid : Int), .int .i64 (parg : Int), .int .u8 2, .int .i64 (k : Int)]]).run Tryz.prog V = .ok (.round lY fn tmps assign body) V ∧
              RoundIn Fence.wide (n - 1) Tryz.prog lY fn tmps assign body V (fun e W' => (e = .returned (.bool true) ∧ J ([askM ⟨⟨true, (N : Int)⟩, pid, parg, pj⟩] ++ (List.range k).map (putM ⟨⟨true, (N : Int)⟩, pid, parg, pj⟩) ++ [putM ⟨⟨true, (N : Int)⟩, pid, parg, pj⟩ k]) W' ∧ Kp n0 V W') ∨ (e = .returned (.bool false) ∧ Jx ([askM ⟨⟨true, (N : Int)⟩, pid, parg, pj⟩] ++ (List.range k).map (putM ⟨⟨true, (N : Int)⟩, pid, parg, pj⟩) ++ [putM ⟨⟨true, (N : Int)⟩, pid, parg, pj⟩ k]) W')) from
            hY _ (putM ⟨⟨true, (N : Int)⟩, pid, parg, pj⟩ k) V (abides_next hJ HJk.out hb) hlen)
          have Hpk := Lib.hid (Hput.out k)
          clear hlen
          gi_wp2_with (refine ⟨trivial, ?_⟩; gi_at_call 117; refine (callsIn_wide.2 (Hpk.out _)).mono ?_; rintro e w6 ⟨rfl, hb6⟩; have hk6 := Lib.hid (heap_below hb6 (Array.getElem?_eq_some_iff.1 Hbk.out).1 Hbk.out); obtain ⟨fn, tmps, assign, body, hy, hR⟩ := Hyk.out _ hb6)
          refine hR.mono ?_
          rintro e' w7 (⟨rfl, hJ7, hk7⟩ | ⟨rfl, hJx7⟩)
          · have hbk7 := Lib.hid (hk7.cells hk6.out (by decide) (by decide))
            have hz7 : W.heap.size ≤ w7.heap.size := Nat.le_trans hzk (Nat.le_trans hb6.size hk7.2.1.size)
            clear hy hR hk7 hb6 hk6
            gi_wp2
            go_roundw
            case rel =>
              refine ⟨k + 1, by omega, by go_num, ?_, hz7, hbk7.out⟩
              rw [putsL_succ, ← List.append_assoc]
              exact hJ7
            case measure => simp [intOf]; omega
          · gi_wp2
            refine bodyPost_ret (results_none rfl _ _ _) rfl ?_
            exact ⟨⟨_, rfl⟩, .inr ⟨_, Hlen.out, hJx7⟩⟩
        · have hkN : k = N := by omega
          subst hkN
          gi_wp2
          go_end0
          exact ⟨⟨_, rfl⟩, .inl ⟨_, by simp [questP, putsL], HJk.out⟩⟩
    · gi_wp2
      refine bodyPost_ret (results_none rfl _ _ _) rfl ?_
      exact ⟨⟨_, rfl⟩, .inr ⟨_, ⟨putsL ⟨⟨true, (N : Int)⟩, pid, parg, pj⟩, rfl⟩, hJx5⟩⟩

/-- The iterator over the questions stops. -/
theorem quest_seq {Al : Obj → Prop} (n n0 N : Nat) (p : Pl) (w : World) (hn : 1 ≤ n) (hn0 : n0 ≤ w.heap.size) (hN : p.base.n = (N : Int)) (hN2 : N ≤ 64) :
    SeqAt Al Fence.wide n Tryz.prog 80 (fun y => #[plV p] ++ #[y]) encM (Kp n0) (fun ys => ys = questP p) (fun pre => pre <+: questP p) (fun pre x => pre ++ [x] <+: questP p) w :=
  fun l J Jx W hW hJ _ hY h0 => quest1_in n n0 l N p J Jx W hn (Nat.le_trans hn0 hW.size) hN hN2 hJ (fun pre x V hv hl => (hY pre x V hv hl).mono (fun _ _ h => h.imp (fun h => ⟨h.1, h.2.1, h.2.2.1⟩) (fun h => ⟨h.1, h.2.1⟩))) h0

set_option maxRecDepth 100000 in
set_option maxHeartbeats 2000000 in
theorem tell1_in {Al : Obj → Prop} (n n0 lY N : Nat) (p : Pl) (J Jx : List Mv → World → Prop) (W : World) (hn : 1 ≤ n) (_hn0 : n0 ≤ W.heap.size) (hN2 : N ≤ 64)
    (hJ : AbidesAl Al W.heap.size J)
    (hY : ∀ pre x W1, J pre W1 → pre ++ [x] <+: tellP p N → YieldAt Fence.wide (n - 1) Tryz.prog lY (encM x) W1 fun e W' =>
      (e = .returned (.bool true) ∧ J (pre ++ [x]) W' ∧ Kp n0 W1 W') ∨ (e = .returned (.bool false) ∧ Jx (pre ++ [x]) W')) (h0 : J [] W) :
    CallsIn Fence.wide n Tryz.prog 121 #[plV p, .int .i64 (N : Int), .func (.yield lY) #[] #[]] W fun e W' => (∃ v, e = .returned v) ∧
      ((∃ ys, ys = tellP p N ∧ J ys W') ∨ (∃ pre, pre <+: tellP p N ∧ Jx pre W')) := by
  obtain ⟨⟨pc, pn⟩, pid, parg, pj⟩ := p
  have hb0 : Below W.heap.size W (W.alloc (.cells #[.bool pc, .int .i64 pn, .int .i64 (pid : Int), .int .i64 (parg : Int), .bool pj] 85)) := (Below.refl _ _).alloc (Nat.le_refl _) _
  have hbx := heap_alloc_new W (.cells #[.bool pc, .int .i64 pn, .int .i64 (pid : Int), .int .i64 (parg : Int), .bool pj] 85)
  have htel := fun (k : Int) V => tell_any ⟨⟨pc, pn⟩, pid, parg, pj⟩ k V
  -- what the rest of the function does, from the loop on
  have loop : ∀ (pre : List Mv), pre ++ tellsL ⟨⟨pc, pn⟩, pid, parg, pj⟩ N = tellP ⟨⟨pc, pn⟩, pid, parg, pj⟩ N → True := fun _ _ => trivial
  have HyA := Lib.hid (fun (hj : pj = true) (V : World) (hb : Below W.heap.size W V) => show ∃ fn tmps assign body, (Instr.yield lY #[.agg #[.int .i64 (pid : Int), .int .i64 (parg : Int), .int .u8 3, .int .i64 (-1)]]).run Tryz.prog V = .ok (.round lY fn tmps assign body) V ∧
      RoundIn Fence.wide (n - 1) Tryz.prog lY fn tmps assign body V (fun e W' => (e = .returned (.bool true) ∧ J [tellM ⟨⟨pc, pn⟩, pid, parg, pj⟩ (-1)] W' ∧ Kp n0 V W') ∨ (e = .returned (.bool false) ∧ Jx [tellM ⟨⟨pc, pn⟩, pid, parg, pj⟩ (-1)] W')) from
    hY [] (tellM ⟨⟨pc, pn⟩, pid, parg, pj⟩ (-1)) V (abides_next hJ h0 hb) ⟨tellsL ⟨⟨pc, pn⟩, pid, parg, pj⟩ N, by simp [tellP, hj]⟩)
  unfold plV at *
  dsimp only at *
  refine callsIn_of_wp Tryz.func121 rfl trivial ?_ rfl
  simp only [Tryz.ntmps121, List.size_toArray, List.length_cons, List.length_nil, Nat.reduceAdd, Nat.reduceSub, Array.replicate_succ, Array.replicate_zero, List.push_toArray, List.append_toArray, List.nil_append, List.cons_append]
  have Htel := Lib.hid htel
  have Hbx := Lib.hid hbx
  clear htel hbx loop
  cases pj
  · clear HyA
    gi_wp2
    refine ⟨trivial, ?_⟩
    gi_wp2
    refine ⟨fun _ h => (by cases h), ?_⟩
    gi_wp2
    gi_loopw [6, 17] (fun _ c wr => ∃ k : Nat, k ≤ N ∧ c = .int .i64 (k : Int) ∧ J (tellsL ⟨⟨pc, pn⟩, pid, parg, false⟩ k) wr ∧ W.heap.size ≤ wr.heap.size ∧ wr.heap[W.heap.size]? = some (.cells #[.bool pc, .int .i64 pn, .int .i64 (pid : Int), .int .i64 (parg : Int), .bool false] 85)) (fun _ c _ => N - (intOf c).toNat)
    case atStart => exact ⟨0, Nat.zero_le _, rfl, abides_next hJ h0 hb0, hb0.size, Hbx.out⟩
    case round =>
      obtain ⟨k, hk, rfl, hJk, hzk, hbk⟩ := hrel
      obtain ⟨⟨d0, d1, d2, d3, d4⟩, -, -⟩ := five_c hbk
      have Hbk := Lib.hid hbk
      have HJk := Lib.hid hJk
      clear hbk hJk
      by_cases hlt : k < N
      · have hlen : tellsL ⟨⟨pc, pn⟩, pid, parg, false⟩ k ++ [tellM ⟨⟨pc, pn⟩, pid, parg, false⟩ (k : Int)] <+: tellP ⟨⟨pc, pn⟩, pid, parg, false⟩ N := by
          rw [← tells_succ]
          obtain ⟨r, hr⟩ := range_prefix (show k + 1 ≤ N by omega)
          refine ⟨r.map fun (i : Nat) => tellM ⟨⟨pc, pn⟩, pid, parg, false⟩ (i : Int), ?_⟩
          simp only [tellP, tellsL, Bool.false_eq_true, if_false, List.nil_append]
          rw [← List.map_append, hr]
        have Hlen := Lib.hid hlen
        have Hyk := Lib.hid (fun (V : World) (hb : Below wr.heap.size wr V) => show ∃ fn tmps assign body, (Instr.yield lY #[.agg #[.int .i64 (pid : Int), .int .i64 (parg : Int), .int .u8 3, .int .i64 (k : Int)]]).run Tryz.prog V = .ok (.round lY fn tmps assign body) V ∧
            RoundIn Fence.wide (n - 1) Tryz.prog lY fn tmps assign body V (fun e W' => (e = .returned (.bool true) ∧ J (tellsL ⟨⟨pc, pn⟩, pid, parg, false⟩ k ++ [tellM ⟨⟨pc, pn⟩, pid, parg, false⟩ (k : Int)]) W' ∧ Kp n0 V W') ∨ (e = .returned (.bool false) ∧ Jx (tellsL ⟨⟨pc, pn⟩, pid, parg, false⟩ k ++ [tellM ⟨⟨pc, pn⟩, pid, parg, false⟩ (k : Int)]) W')) from
          hY _ (tellM ⟨⟨pc, pn⟩, pid, parg, false⟩ (k : Int)) V (abides_next hJ HJk.out hb) hlen)
        have Hpk := Lib.hid (Htel.out (k : Int))
        gi_wp2_with (refine ⟨trivial, ?_⟩; gi_at_call 119; refine (callsIn_wide.2 (Hpk.out _)).mono ?_; rintro e w6 ⟨rfl, hb6⟩; have hk6 := Lib.hid (heap_below hb6 (Array.getElem?_eq_some_iff.1 Hbk.out).1 Hbk.out); obtain ⟨fn, tmps, assign, body, hy, hR⟩ := Hyk.out _ hb6)
        refine hR.mono ?_
        rintro e' w7 (⟨rfl, hJ7, hk7⟩ | ⟨rfl, hJx7⟩)
        · have hbk7 := Lib.hid (hk7.cells hk6.out (by decide) (by decide))
          have hz7 : W.heap.size ≤ w7.heap.size := Nat.le_trans hzk (Nat.le_trans hb6.size hk7.2.1.size)
          clear hy hR hk7 hb6 hk6
          gi_wp2
          go_roundw
          case rel =>
            refine ⟨k + 1, by omega, by go_num, ?_, hz7, hbk7.out⟩
            rw [tells_succ]
            exact hJ7
          case measure => simp [intOf]; omega
        · gi_wp2
          refine bodyPost_ret (results_none rfl _ _ _) rfl ?_
          exact ⟨⟨_, rfl⟩, .inr ⟨_, Hlen.out, hJx7⟩⟩
      · have hkN : k = N := by omega
        subst hkN
        gi_wp2
        go_end0
        exact ⟨⟨_, rfl⟩, .inl ⟨_, by simp [tellP], HJk.out⟩⟩
  · gi_wp2_with (refine ⟨trivial, ?_⟩; gi_at_call 119; refine (callsIn_wide.2 (Htel.out (-1) _)).mono ?_; rintro e w1 ⟨rfl, hb1⟩; have hk1 := Lib.hid (heap_below hb1 (by rw [alloc_sz2]; omega) Hbx.out); have hb2 := hb0.trans (hb1.mono hb0.size); obtain ⟨fn, tmps, assign, body, hy, hR⟩ := HyA.out rfl _ hb2)
    refine hR.mono ?_
    rintro e' w5 (⟨rfl, hJ5, hk5⟩ | ⟨rfl, hJx5⟩)
    · have hbk5 := Lib.hid (hk5.cells hk1.out (by decide) (by decide))
      have hz5 : W.heap.size ≤ w5.heap.size := Nat.le_trans hb2.size hk5.2.1.size
      clear hk5 hy hR hk1 hb1 hb2 HyA h0
      gi_wp2
      gi_loopw [6, 17] (fun _ c wr => ∃ k : Nat, k ≤ N ∧ c = .int .i64 (k : Int) ∧ J ([tellM ⟨⟨pc, pn⟩, pid, parg, true⟩ (-1)] ++ tellsL ⟨⟨pc, pn⟩, pid, parg, true⟩ k) wr ∧ W.heap.size ≤ wr.heap.size ∧ wr.heap[W.heap.size]? = some (.cells #[.bool pc, .int .i64 pn, .int .i64 (pid : Int), .int .i64 (parg : Int), .bool true] 85)) (fun _ c _ => N - (intOf c).toNat)
      case atStart => exact ⟨0, Nat.zero_le _, rfl, hJ5, hz5, hbk5.out⟩
      case round =>
        obtain ⟨k, hk, rfl, hJk, hzk, hbk⟩ := hrel
        obtain ⟨⟨d0, d1, d2, d3, d4⟩, -, -⟩ := five_c hbk
        have Hbk := Lib.hid hbk
        have HJk := Lib.hid hJk
        clear hbk hJk
        by_cases hlt : k < N
        · have hlen : [tellM ⟨⟨pc, pn⟩, pid, parg, true⟩ (-1)] ++ tellsL ⟨⟨pc, pn⟩, pid, parg, true⟩ k ++ [tellM ⟨⟨pc, pn⟩, pid, parg, true⟩ (k : Int)] <+: tellP ⟨⟨pc, pn⟩, pid, parg, true⟩ N := by
            rw [List.append_assoc, ← tells_succ]
            obtain ⟨r, hr⟩ := range_prefix (show k + 1 ≤ N by omega)
            refine ⟨r.map fun (i : Nat) => tellM ⟨⟨pc, pn⟩, pid, parg, true⟩ (i : Int), ?_⟩
            simp only [tellP, tellsL, List.append_assoc, if_true]
            rw [← List.map_append, hr]
          have Hlen := Lib.hid hlen
          have Hyk := Lib.hid (fun (V : World) (hb : Below wr.heap.size wr V) => show ∃ fn tmps assign body, (Instr.yield lY #[.agg #[.int .i64 (pid : Int), .int .i64 (parg : Int), .int .u8 3, .int .i64 (k : Int)]]).run Tryz.prog V = .ok (.round lY fn tmps assign body) V ∧
              RoundIn Fence.wide (n - 1) Tryz.prog lY fn tmps assign body V (fun e W' => (e = .returned (.bool true) ∧ J ([tellM ⟨⟨pc, pn⟩, pid, parg, true⟩ (-1)] ++ tellsL ⟨⟨pc, pn⟩, pid, parg, true⟩ k ++ [tellM ⟨⟨pc, pn⟩, pid, parg, true⟩ (k : Int)]) W' ∧ Kp n0 V W') ∨ (e = .returned (.bool false) ∧ Jx ([tellM ⟨⟨pc, pn⟩, pid, parg, true⟩ (-1)] ++ tellsL ⟨⟨pc, pn⟩, pid, parg, true⟩ k ++ [tellM ⟨⟨pc, pn⟩, pid, parg, true⟩ (k : Int)]) W')) from
            hY _ (tellM ⟨⟨pc, pn⟩, pid, parg, true⟩ (k : Int)) V (abides_next hJ HJk.out hb) hlen)
          have Hpk := Lib.hid (Htel.out (k : Int))
          gi_wp2_with (refine ⟨trivial, ?_⟩; gi_at_call 119; refine (callsIn_wide.2 (Hpk.out _)).mono ?_; rintro e w6 ⟨rfl, hb6⟩; have hk6 := Lib.hid (heap_below hb6 (Array.getElem?_eq_some_iff.1 Hbk.out).1 Hbk.out); obtain ⟨fn, tmps, assign, body, hy, hR⟩ := Hyk.out _ hb6)
          refine hR.mono ?_
          rintro e' w7 (⟨rfl, hJ7, hk7⟩ | ⟨rfl, hJx7⟩)
          · have hbk7 := Lib.hid (hk7.cells hk6.out (by decide) (by decide))
            have hz7 : W.heap.size ≤ w7.heap.size := Nat.le_trans hzk (Nat.le_trans hb6.size hk7.2.1.size)
            clear hy hR hk7 hb6 hk6
            gi_wp2
            go_roundw
            case rel =>
              refine ⟨k + 1, by omega, by go_num, ?_, hz7, hbk7.out⟩
              rw [tells_succ, ← List.append_assoc]
              exact hJ7
            case measure => simp [intOf]; omega
          · gi_wp2
            refine bodyPost_ret (results_none rfl _ _ _) rfl ?_
            exact ⟨⟨_, rfl⟩, .inr ⟨_, Hlen.out, hJx7⟩⟩
        · have hkN : k = N := by omega
          subst hkN
          gi_wp2
          go_end0
          exact ⟨⟨_, rfl⟩, .inl ⟨_, by simp [tellP], HJk.out⟩⟩
    · gi_wp2
      refine bodyPost_ret (results_none rfl _ _ _) rfl ?_
      exact ⟨⟨_, rfl⟩, .inr ⟨_, ⟨tellsL ⟨⟨pc, pn⟩, pid, parg, true⟩ N, rfl⟩, hJx5⟩⟩

theorem roundIn_depth {P : Program} {m m' l : Nat} {f : FuncId} {tmps : Array Value} {assign body : Code} {w : World} {R : Ending → World → Prop} (h : RoundIn Fence.wide m P l f tmps assign body w R) : RoundIn Fence.wide m' P l f tmps assign body w R :=
  ⟨h.1, fun c cs _ => h.2 c cs (fun _ hd => by simp [Fence.wide] at hd)⟩
theorem yieldAt_depth {P : Program} {m m' l : Nat} {args : Array Value} {W : World} {R : Ending → World → Prop} (h : YieldAt Fence.wide m P l args W R) : YieldAt Fence.wide m' P l args W R := by
  obtain ⟨fn, tmps, assign, body, hy, hR⟩ := h
  exact ⟨fn, tmps, assign, body, hy, roundIn_depth hR⟩

set_option maxRecDepth 100000 in
set_option maxHeartbeats 1000000 in
/-- The iterator over the answers stops. -/
theorem ans_seq {Al : Obj → Prop} (n n0 N : Nat) (p : Pl) (w : World) (hn0 : n0 ≤ w.heap.size) (hN : p.base.n = (N : Int)) (hN2 : N ≤ 64) :
    SeqAt Al Fence.wide n Tryz.prog 77 (fun y => #[plV p] ++ #[y]) encM (Kp n0) (fun ys => ys = ansP p) (fun pre => pre <+: ansP p) (fun pre x => pre ++ [x] <+: ansP p) w := by
  intro l J Jx W hW hJ _ hY h0
  have he : ansP p = tellP p N := by unfold ansP; rw [hN]; rfl
  rw [he]
  have hb0 : Below W.heap.size W (W.alloc (plB p)) := (Below.refl _ _).alloc (Nat.le_refl _) _
  have ht := tell1_in 1 n0 l N p J Jx (W.alloc (plB p)) (Nat.le_refl _) (Nat.le_trans hn0 (Nat.le_trans hW.size hb0.size)) hN2 (hJ.up hb0.size)
    (fun pre x V hv hl => (yieldAt_depth (hY pre x V hv (by rw [he]; exact hl))).mono (fun _ _ h => h.imp (fun h => ⟨h.1, h.2.1, h.2.2.1⟩) (fun h => ⟨h.1, h.2.1⟩))) (abides_next hJ h0 hb0)
  have Ht := Lib.hid (callsIn_wide.1 ht)
  clear ht hY h0 hJ
  obtain ⟨⟨pc, pn⟩, pid, parg, pj⟩ := p
  dsimp only at hN
  subst hN
  unfold plV plB at *
  refine callsIn_wide.2 ?_
  show Calls Tryz.prog _ #[_, _] W _
  go_enter Tryz.func77, Tryz.ntmps77
  go_wp2_with (go_at_call 121; refine Ht.out.mono ?_; rintro e w1 ⟨⟨v, rfl⟩, hq⟩)
  go_end0
  exact ⟨⟨_, rfl⟩, hq⟩

end Go.Proofs.YtoncdnelacolaaaGreatDoor.Ar
