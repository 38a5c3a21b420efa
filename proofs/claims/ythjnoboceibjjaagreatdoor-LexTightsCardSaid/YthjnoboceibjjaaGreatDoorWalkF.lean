/- The iterator over the pieces of a text, for package lex: its contract. -/
import Derived.Test.YthjnoboceibjjaaGreatDoorWalkE
import Derived.RangeFuncBox
import Derived.RangeFuncNested
import Derived.RangeFuncBound
import Derived.RangeFuncCalls
import Derived.RangeFuncLeaves
import Derived.OwnWalkIn
import Derived.TacticsInMore
import Derived.LoopNIn
import Derived.LoopIn
namespace Go.Proofs.YthjnoboceibjjaaGreatDoor.Lx
open Go Go.Proofs Go.RowKit
attribute [local go_sem] Oper.semAt_some

/-- What a round keeps: maps and the like, the package-level variables, and the box of the text. -/
def Kpt (B : Nat) (W W' : World) : Prop := KeepsWalks W W' ∧ Below 8 W W' ∧ ∀ o : Obj, W.heap[B]? = some o → o.isCells = true → W'.heap[B]? = some o
theorem Kpt.trans {B : Nat} {X Y Z : World} (h : Kpt B X Y) (k : Kpt B Y Z) : Kpt B X Z := ⟨h.1.trans k.1, h.2.1.trans k.2.1, fun o ho hc => k.2.2 o (h.2.2 o ho hc) hc⟩
theorem Kpt.book {B : Nat} {w : World} (hn : 8 ≤ w.heap.size) (W : World) (l : Nat) (o o' : Obj) (hl : w.heap.size ≤ l) (h : W.heap[l]? = some o) (hc : o.isCells = false) (hw : o.isWalk = false) : Kpt B W (W.putObj l o') :=
  ⟨walksK_b (w := w) W l o o' hl h hc hw, belowK_b hn W l o o' hl h hc hw, fun o2 h2 hc2 => (World.putObj_heap_other (fun e => by
    subst e
    rw [h] at h2; cases h2
    rw [hc] at hc2; cases hc2)).trans h2⟩
theorem Kw.walks {w w' : World} {mb : Nat} (h : Kw w mb) (hb : KeepsWalks w w') : Kw w' mb := by
  obtain ⟨es, clock, hb1, r⟩ := h
  exact ⟨es, clock, hb.same mb _ hb1 rfl, r⟩
theorem grown_of_below {w w' : World} (h : Below w.heap.size w w') : w.grownBy w' none := ⟨h.os, h.tape, h.output, h.size, fun i hi _ => h.block i hi⟩
theorem abides_next {J : List Pc → World → Prop} {B : Nat} (hJ : AbidesFrom B J) {pre : List Pc} {w w' : World} (h : J pre w) (hb : Below w.heap.size w w') : J pre w' :=
  hJ pre w w' none h (grown_of_below hb) (fun r e => by cases e)

/-- How a piece is handed to a round. -/
def encPc (p : Pc) : Array Value := #[.agg #[.int .u8 (p.tk.kind : Int), .string p.tk.text, .int .i64 (p.tk.pos : Int)], .int .i64 (p.err : Int)]

/-- A text without the ~ at its beginning. -/
theorem trim_eq (w : ByteArray) : (⟨(Lib.trimPrefix w.data.toList [126]).toArray⟩ : ByteArray) = trimT w := by
  obtain ⟨⟨l⟩⟩ := w
  unfold trimT bt Lib.trimPrefix
  match l with
  | [] => rfl
  | c :: r =>
    by_cases h : c = 126
    · subst h
      have e1 : (⟨⟨126 :: r⟩⟩ : ByteArray).extract 1 (⟨⟨126 :: r⟩⟩ : ByteArray).size = ⟨r.toArray⟩ := by
        have := Lib.extract_to_end ⟨⟨126 :: r⟩⟩ 1
        have h2 : ((⟨⟨126 :: r⟩⟩ : ByteArray).extract 1 (⟨⟨126 :: r⟩⟩ : ByteArray).size).data = r.toArray := Array.toList_inj.1 (by rw [this]; rfl)
        exact congrArg ByteArray.mk h2
      rw [e1]
      rfl
    · have h1 : ¬ (((126 : UInt8) == c) = true) := by simpa using fun e => h e.symm
      have h2 : ¬ ((c :: r).getD 0 0).toNat = 126 := by
        intro e
        apply h
        have : c.toNat = 126 := e
        exact UInt8.toNat_inj.1 this
      rw [if_neg (by simpa [Lib.hasPrefix] using fun e => h e.symm), if_neg h2]
theorem trim_call (x : ByteArray) (w : World) :
    Calls Tryz.prog 44 #[.string x, .string ⟨#[126]⟩] w fun e w' => e = .returned (.string (trimT x)) ∧ w = w' :=
  (Tryz.strings_TrimPrefix x ⟨#[126]⟩ w).mono fun e w' ⟨he, hw⟩ => ⟨by rw [he, ← trim_eq], hw.symm⟩

set_option maxRecDepth 100000 in
set_option maxHeartbeats 2000000 in
theorem pieces1_in (n l Bs : Nat) (s : ByteArray) (hn : 1 ≤ n) (hs : s.size ≤ 100000) (J Jx : List Pc → World → Prop) (W : World)
    (hJ : AbidesFrom W.heap.size J)
    (hY : ∀ pre x W1, J pre W1 → pre.length < (piecesFrom s 0).length → YieldAt Fence.wide (n - 1) Tryz.prog l (encPc x) W1 fun e W' =>
      (e = .returned (.bool true) ∧ J (pre ++ [x]) W' ∧ Kpt Bs W1 W') ∨ (e = .returned (.bool false) ∧ Jx (pre ++ [x]) W'))
    (hBs : Boxed W Bs 9 (.string s)) (hG : Gl W) (h0 : J [] W) :
    CallsIn Fence.wide n Tryz.prog 40 #[.func (.yield l) #[] #[], .pointer (some ⟨Bs, 0, none⟩)] W fun e W' => (∃ v, e = .returned v) ∧
      ((∃ ys, ys = piecesFrom s 0 ∧ J ys W') ∨ (∃ pre, pre <+: piecesFrom s 0 ∧ Jx pre W')) := by
  refine callsIn_of_wp Tryz.func40 rfl trivial ?_ rfl
  simp only [Tryz.ntmps40, List.size_toArray, List.length_cons, List.length_nil, Nat.reduceAdd, Nat.reduceSub, Array.replicate_succ, Array.replicate_zero, List.push_toArray, List.append_toArray, List.nil_append, List.cons_append]
  gi_wp2_with (refine ⟨trivial, ?_⟩; gi_at_call 33; refine (callsIn_wide.2 (keywords_any _ hG)).mono ?_; rintro e w1 ⟨rfl, hk1, hb1⟩)
  generalize hmb : W.heap.size = mb at hk1
  gi_loopw [4] (fun a wr => ∃ (k : Nat) (pre : List Pc), k ≤ s.size ∧ a = .int .i64 k ∧ pre ++ piecesFrom s k = piecesFrom s 0 ∧ J pre wr ∧ Kw wr mb ∧ Gl wr ∧ Boxed wr Bs 9 (.string s) ∧ W.heap.size ≤ wr.heap.size) (fun a _ => s.size - (intOf a).toNat)
  case atStart => exact ⟨0, [], Nat.zero_le _, rfl, rfl, abides_next hJ h0 hb1, hk1, hG.next hb1, (hb1.block Bs hBs.lt).trans hBs, hb1.size⟩
  case round =>
    obtain ⟨k, pre, hk, rfl, hp, hJs, hkw, hGr, hbox, hz⟩ := hrel
    have hcell := hbox.cell
    have hBlt := hbox.lt
    have Hp := Lib.hid hp
    clear hp
    by_cases hlt : k < s.size
    · have hc := bt_eq s k hlt
      have Hc := Lib.hid hc
      clear hc
      by_cases hbl : cls (bt s k) = 2
      · have Hb := Lib.hid hbl
        clear hbl
        gi_wp2_with (refine ⟨trivial, ?_⟩; gi_at_call 41; refine (callsIn_wide.2 (isOf1 _ (UInt8.toNat_lt _) 2 (by omega) _)).mono ?_; rw [Hc.out, Hb.out]; rintro e w1 ⟨rfl, rfl⟩)
        have hb1 : Below wr.heap.size wr (wr.alloc (.cells #[.int .u8 2] 80)) := (Below.refl _ _).alloc (Nat.le_refl _) _
        go_roundw
        case rel =>
          exact ⟨k + 1, pre, by omega, by go_num, by rw [← pieces_blank hlt Hb.out]; exact Hp.out, hJ pre _ _ none hJs (grown_of_below hb1) (fun r e => by cases e), hkw.next hb1, hGr.next hb1,
            (hb1.block Bs hBlt).trans hbox, Nat.le_trans hz hb1.size⟩
        case measure => simp [intOf]; omega
      · have Hb := Lib.hid hbl
        clear hbl
        have Hb2 : Hid (decide ((cls (bt s k) : Int) = 2) = false) := decide_eq_false (by have := Hb.out; omega)
        obtain ⟨e, he⟩ : ∃ e, e = pieceEnd s k := ⟨_, rfl⟩
        have hlt1 : k < e := by rw [he]; exact lt_pieceEnd hlt
        have hle1 : e ≤ s.size := by rw [he]; exact pieceEnd_le hlt
        have HE := Lib.hid he
        clear he
        have hsz : (s.extract k e).size = e - k := by simp; omega
        have HS := Lib.hid hsz
        clear hsz
        have hcell1 : (wr.alloc (.cells #[.int .u8 2] 80)).cell? ⟨Bs, 0, none⟩ = some (.string s) := (World.cell?_alloc_lt wr _ ⟨Bs, 0, none⟩ (by show Bs < wr.heap.size; omega)).trans hcell
        have hb1 : Below wr.heap.size wr (wr.alloc (.cells #[.int .u8 2] 80)) := (Below.refl _ _).alloc (Nat.le_refl _) _
        have Hkt := hkw.lt
        obtain ⟨x, hx⟩ : ∃ x : Pc, x = ⟨⟨(kindOf (s.extract k e)).1, trimT (s.extract k e), k⟩, (kindOf (s.extract k e)).2⟩ := ⟨_, rfl⟩
        have hxp : x = piece s k := by rw [hx, HE.out]; rfl
        have hpx : (pre ++ [x]) ++ piecesFrom s e = piecesFrom s 0 := by
          rw [← Hp.out, pieces_piece hlt Hb.out, hxp, HE.out]; simp
        have hlen : pre.length < (piecesFrom s 0).length := by rw [← hpx]; simp
        have HyF := Lib.hid (fun (w3 : World) (hb5 : Below wr.heap.size wr w3) => show ∃ fn tmps assign body, (Instr.yield l #[.agg #[.int .u8 ((kindOf (s.extract k e)).1 : Int), .string (trimT (s.extract k e)), .int .i64 (k : Int)], .int .i64 ((kindOf (s.extract k e)).2 : Int)]).run Tryz.prog w3 = .ok (.round l fn tmps assign body) w3 ∧
            RoundIn Fence.wide (n - 1) Tryz.prog l fn tmps assign body w3 (fun e W' => (e = .returned (.bool true) ∧ J (pre ++ [x]) W' ∧ Kpt Bs w3 W') ∨ (e = .returned (.bool false) ∧ Jx (pre ++ [x]) W')) by
          have := hY pre x w3 (hJ pre _ _ none hJs (grown_of_below hb5) (fun r e => by cases e)) hlen
          rw [hx] at this ⊢
          exact this)
        have Hpx := Lib.hid hpx
        clear hpx hxp hx
        gi_wp2_with (first
          | (refine ⟨trivial, ?_⟩; gi_at_call 41; refine (callsIn_wide.2 (isOf1 _ (UInt8.toNat_lt _) 2 (by omega) _)).mono ?_; rw [Hc.out, Hb2.out]; rintro e w1 ⟨rfl, rfl⟩)
          | (refine ⟨trivial, ?_⟩; gi_at_call 42; refine (callsIn_wide.2 (pieceEnd_any s k _ hs hlt)).mono ?_; rw [← HE.out]; rintro e w2 ⟨rfl, hb2⟩; have hcell2 := (hb2.cell (p := ⟨Bs, 0, none⟩) (by show Bs < _; simp; omega)).trans hcell1; have hb3 := hb1.trans (hb2.mono hb1.size))
          | (refine ⟨trivial, ?_⟩; gi_at_call 43; refine (callsIn_wide.2 (kindOf_any (s.extract k e) mb _ (by rw [HS.out]; omega) (by rw [HS.out]; omega) (hGr.next hb3) (hkw.next hb3))).mono ?_; rintro e' w3 ⟨rfl, hb4⟩; have hcell3 := (hb4.cell (p := ⟨Bs, 0, none⟩) (by show Bs < _; have := hb3.size; omega)).trans hcell2; have hb5 := hb3.trans (hb4.mono hb3.size))
          | (refine ⟨trivial, ?_⟩; gi_at_call 44; refine (callsIn_wide.2 (trim_call (s.extract k e) _)).mono ?_; rintro e' w4 ⟨rfl, rfl⟩; obtain ⟨fn, tmps, assign, body, hy, hR⟩ := HyF.out _ hb5))
        have hk3 := hkw.next hb5
        have hG3 := hGr.next hb5
        have hz3 := Nat.le_trans hz hb5.size
        refine hR.mono ?_
        rintro e' w5 (⟨rfl, hJ5, hk5⟩ | ⟨rfl, hJx5⟩)
        · have hbox5 : Boxed w5 Bs 9 (.string s) := hk5.2.2 _ ((hb5.block Bs hBlt).trans hbox) rfl
          have hcell5 := hbox5.cell
          gi_wp2
          go_roundw
          case rel => exact ⟨e, pre ++ [x], hle1, rfl, Hpx.out, hJ5, hk3.walks hk5.1, hG3.below (Nat.le_refl _) hk5.2.1, hbox5, Nat.le_trans hz3 hk5.1.size⟩
          case measure => simp [intOf]; omega
        · gi_wp2
          refine bodyPost_ret (results_none rfl _ _ _) rfl ?_
          exact ⟨⟨_, rfl⟩, .inr ⟨_, ⟨_, Hpx.out⟩, hJx5⟩⟩
    · gi_wp2
      go_end0
      have h9 := Hp.out
      rw [pieces_end (by omega), List.append_nil] at h9
      exact ⟨⟨_, rfl⟩, .inl ⟨_, h9, hJs⟩⟩

theorem pieces_call (s : ByteArray) (w : World) :
    Calls Tryz.prog 27 #[.string s] w fun e w' => e = .returned (.func (.func 40) #[] #[.pointer (some ⟨w.heap.size, 0, none⟩)]) ∧ w.alloc (.cells #[.string s] 9) = w' := by
  go_enter Tryz.func27, Tryz.ntmps27
  go_wp2
  go_ret
  exact ⟨rfl, rfl⟩

/-- The iterator stops: all pieces in their order, or a beginning of them. -/
theorem pieces_stops (n Bs : Nat) (s : ByteArray) (hn : 1 ≤ n) (hs : s.size ≤ 100000) (w : World) (hBs : Boxed w Bs 9 (.string s)) (hG : Gl w) :
    SeqStopsK Fence.wide n Tryz.prog 40 #[.pointer (some ⟨Bs, 0, none⟩)] encPc (Kpt Bs) (fun ys => ys = piecesFrom s 0) (fun pre => pre <+: piecesFrom s 0) (piecesFrom s 0).length w :=
  fun l J Jx W hW hJ _ hY h0 => pieces1_in n l Bs s hn hs J Jx W hJ hY ((hW.block Bs hBs.lt).trans hBs) (hG.next hW) h0

end Go.Proofs.YthjnoboceibjjaaGreatDoor.Lx
