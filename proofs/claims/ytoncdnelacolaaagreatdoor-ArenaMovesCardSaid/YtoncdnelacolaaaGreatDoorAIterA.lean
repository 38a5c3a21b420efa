/- The questions of a place, handed to the closure that appends. -/
import Derived.Test.YtoncdnelacolaaaGreatDoorAList
import Derived.Test.YtoncdnelacolaaaGreatDoorAWalkD
namespace Go.Proofs.YtoncdnelacolaaaGreatDoor.Ar
open Go Go.Proofs Go.RowKit Lx Ps

/-- The closure as a value. -/
def yV (B : Nat) : Value := .func (.func 110) #[] #[.pointer (some ⟨B, 0, none⟩)]
def plB (p : Pl) : Obj := .cells #[.bool p.base.cell, .int .i64 p.base.n, .int .i64 (p.id : Int), .int .i64 (p.arg : Int), .bool p.jumps] 85
theorem plB_calm (p : Pl) : CalmO (plB p) := .inr ⟨_, _, _, rfl, by decide, by decide⟩
theorem calm_place (cs : Array Value) (fr : Nat × Nat) : CalmO (.cells cs 85 fr) := .inr ⟨_, _, _, rfl, by decide, by decide⟩
theorem putsL_succ (p : Pl) (k : Nat) : (List.range (k + 1)).map (putM p) = (List.range k).map (putM p) ++ [putM p k] := by rw [List.range_succ, List.map_append]; rfl
theorem tells_succ (p : Pl) (k : Nat) : tellsL p (k + 1) = tellsL p k ++ [tellM p (k : Int)] := by unfold tellsL; rw [List.range_succ, List.map_append]; rfl

set_option maxRecDepth 100000 in
set_option maxHeartbeats 1000000 in
theorem quest_push (n0 B N : Nat) (p : Pl) (l : List Mv) (W : World) (h : Lst n0 B W l) (hN : p.base.n = (N : Int)) (hN2 : N ≤ 64) (hl : l.length + 100 ≤ 1000000) :
    Calls Tryz.prog 80 #[plV p, yV B] W fun e W' => (∃ v, e = .returned v) ∧ Lst n0 B W' (l ++ questP p) ∧ Full n0 W W' := by
  obtain ⟨⟨pc, pn⟩, pid, parg, pj⟩ := p
  dsimp only at hN
  subst hN
  generalize hpe : (⟨⟨pc, (N : Int)⟩, pid, parg, pj⟩ : Pl) = p
  have hn0 := h.2.1
  have hF0 : Full n0 W (W.alloc (plB p)) := (Full.refl n0 W).alloc hn0 _
  have hbx : (W.alloc (plB p)).heap[W.heap.size]? = some (plB p) := heap_alloc_new W _
  have hL0 := h.alloc (plB p)
  have hask := fun V => ask_any p V
  have hput := fun n V => put_any p n V
  have hpush := fun m l V (hV : Lst n0 B V l) hl => push_any n0 B m l V hV hl
  have Hask := Lib.hid hask
  have Hput := Lib.hid hput
  have Hpush := Lib.hid hpush
  have hqs : questP p = askM p :: if p.base.cell then putsL p else [] := rfl
  have Hqs := Lib.hid hqs
  clear hask hput hpush h hqs
  have HbxL := Lib.hid hbx
  have hpa : ∀ V, Lst n0 B V l → Calls Tryz.prog 110 #[.agg #[.int .i64 (p.id : Int), .int .i64 (p.arg : Int), .int .u8 1, .int .i64 0], .pointer (some ⟨B, 0, none⟩)] V fun e W' => e = .returned (.bool true) ∧ Lst n0 B W' (l ++ [askM p]) ∧ Full n0 V W' := fun V hV => Hpush.out (askM p) l V hV (by omega)
  have Hpa := Lib.hid hpa
  clear hpa hbx
  unfold yV
  cases pc
  · subst hpe
    dsimp only [plV, plB] at *
    go_enter Tryz.func80, Tryz.ntmps80
    go_wp2_with (first
      | (go_at_call 116; refine (Hask.out _).mono ?_; rintro r w1 ⟨rfl, hb1⟩; have hk1 := heap_below hb1 (by rw [alloc_sz2]; omega) HbxL.out)
      | (go_at_call 110; refine (Hpa.out _ (hL0.below hb1)).mono ?_; rintro r w2 ⟨rfl, hL2, hF2⟩; obtain ⟨⟨c0, c1, c2, c3, c4⟩, -, -⟩ := five_c (hF2.same _ _ hk1 (calm_place _ _))))
    refine bodyPost_ret (results_none rfl _ _ _) rfl ?_
    refine ⟨⟨_, rfl⟩, ?_, ?_⟩
    · rw [Hqs.out]; exact hL2
    · exact hF0.trans ((Full.of_below (by rw [alloc_sz2]; omega) hb1).trans hF2)
  · subst hpe
    dsimp only [plV, plB] at *
    go_enter Tryz.func80, Tryz.ntmps80
    go_wp2_with (first
      | (go_at_call 116; refine (Hask.out _).mono ?_; rintro r w1 ⟨rfl, hb1⟩; have hk1 := heap_below hb1 (by rw [alloc_sz2]; omega) HbxL.out)
      | (go_at_call 110; refine (Hpa.out _ (hL0.below hb1)).mono ?_; rintro r w2 ⟨rfl, hL2, hF2⟩; obtain ⟨⟨c0, c1, c2, c3, c4⟩, -, -⟩ := five_c (hF2.same _ _ hk1 (calm_place _ _))))
    go_loopw [4, 19] (fun _ c wr => ∃ k : Nat, k ≤ N ∧ c = .int .i64 (k : Int) ∧ Lst n0 B wr (l ++ [askM ⟨⟨true, (N : Int)⟩, pid, parg, pj⟩] ++ (List.range k).map (putM ⟨⟨true, (N : Int)⟩, pid, parg, pj⟩)) ∧ Full n0 W wr ∧ wr.heap[W.heap.size]? = some (plB ⟨⟨true, (N : Int)⟩, pid, parg, pj⟩)) (fun _ c _ => N - (intOf c).toNat)
    case atStart =>
      refine ⟨0, Nat.zero_le _, rfl, by simpa using hL2, hF0.trans ((Full.of_below (by rw [alloc_sz2]; omega) hb1).trans hF2), hF2.same _ _ hk1 (calm_place _ _)⟩
    case round =>
      obtain ⟨k, hk, rfl, hLk, hFk, hbk⟩ := hrel
      have Hbk := Lib.hid hbk
      have HLk := Lib.hid hLk
      have hn0r := hLk.2.1
      obtain ⟨⟨d0, d1, d2, d3, d4⟩, -, -⟩ := five_c hbk
      clear hbk hLk hL2 hF2 hk1 c0 c1 c2 c3 c4
      by_cases hlt : k < N
      · have hpp : ∀ V, Lst n0 B V (l ++ [askM ⟨⟨true, (N : Int)⟩, pid, parg, pj⟩] ++ (List.range k).map (putM ⟨⟨true, (N : Int)⟩, pid, parg, pj⟩)) → Calls Tryz.prog 110 #[.agg #[.int .i64 (pid : Int), .int .i64 (parg : Int), .int .u8 2, .int .i64 (k : Int)], .pointer (some ⟨B, 0, none⟩)] V fun e W' => e = .returned (.bool true) ∧ Lst n0 B W' (l ++ [askM ⟨⟨true, (N : Int)⟩, pid, parg, pj⟩] ++ (List.range k).map (putM ⟨⟨true, (N : Int)⟩, pid, parg, pj⟩) ++ [putM ⟨⟨true, (N : Int)⟩, pid, parg, pj⟩ k]) ∧ Full n0 V W' := fun V hV => Hpush.out (putM ⟨⟨true, (N : Int)⟩, pid, parg, pj⟩ k) _ V hV (by simp; omega)
        have Hpp := Lib.hid hpp
        have hqq := Hput.out (k : Int)
        have Hqq := Lib.hid hqq
        clear hpp hqq
        go_wp2_with (first
          | (go_at_call 117; refine (Hqq.out _).mono ?_; rintro r w3 ⟨rfl, hb3⟩; have hk3 := heap_below hb3 (Array.getElem?_eq_some_iff.1 Hbk.out).1 Hbk.out)
          | (go_at_call 110; refine (Hpp.out _ (HLk.out.below hb3)).mono ?_; rintro r w4 ⟨rfl, hL4, hF4⟩; have hk4 := Lib.hid (hF4.same _ _ hk3 (calm_place _ _)); clear hk3))
        go_roundw
        case rel =>
          refine ⟨k + 1, by omega, by go_num, ?_, hFk.trans ((Full.of_below hn0r hb3).trans hF4), hk4.out⟩
          rw [putsL_succ, ← List.append_assoc]
          exact hL4
        case measure => simp [intOf]; omega
      · have hkN : k = N := by omega
        subst hkN
        go_wp2
        go_end0
        refine ⟨⟨_, rfl⟩, ?_, hFk⟩
        rw [Hqs.out]
        have := HLk.out
        unfold putsL
        simpa using this

end Go.Proofs.YtoncdnelacolaaaGreatDoor.Ar
