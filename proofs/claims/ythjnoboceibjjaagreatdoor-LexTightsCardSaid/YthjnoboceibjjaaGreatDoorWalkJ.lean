/- Splices of package lex: areRight. -/
import Derived.Test.YthjnoboceibjjaaGreatDoorWalkI
import Derived.Test.YthjnoboceibjjaaGreatDoorSpecC
namespace Go.Proofs.YthjnoboceibjjaaGreatDoor.Lx
open Go Go.Proofs Go.RowKit Go.Shelf

/-- A slice value that holds splices. -/
def SlSp (W : World) (v : Value) (l : List Sp) : Prop :=
  ∃ A cap, v = .slice A l.length cap ∧ (0 < l.length → ∃ b off, A = some ⟨b, off, none⟩ ∧ b < W.heap.size ∧ ∀ i t, l[i]? = some t →
    W.cell? ⟨b, off + i * 3, none⟩ = some (.int .i64 t.lo) ∧ W.cell? ⟨b, off + i * 3 + 1, none⟩ = some (.int .i64 t.hi) ∧ W.cell? ⟨b, off + i * 3 + 2, none⟩ = some (.string t.text))
theorem SlSp.below {W W' : World} {v : Value} {l : List Sp} (h : SlSp W v l) (hb : Below W.heap.size W W') : SlSp W' v l := by
  obtain ⟨A, cap, rfl, hA⟩ := h
  refine ⟨A, cap, rfl, fun h0 => ?_⟩
  obtain ⟨b, off, rfl, hlt, hc⟩ := hA h0
  refine ⟨b, off, rfl, Nat.lt_of_lt_of_le hlt hb.size, fun i t ht => ?_⟩
  obtain ⟨p1, p2, p3⟩ := hc i t ht
  exact ⟨(hb.cell (p := ⟨b, off + i * 3, none⟩) hlt).trans p1, (hb.cell (p := ⟨b, off + i * 3 + 1, none⟩) hlt).trans p2, (hb.cell (p := ⟨b, off + i * 3 + 2, none⟩) hlt).trans p3⟩

/-- The numbers of splices that Go can hold. -/
def Sp.wf (x : Sp) : Prop := -9223372036854775808 ≤ x.lo ∧ x.lo ≤ 9223372036854775807 ∧ -9223372036854775808 ≤ x.hi ∧ x.hi ≤ 9223372036854775807

set_option maxHeartbeats 800000 in
theorem areRight_any (n : Nat) (a : Value) (l : List Sp) (w : World) (ha : SlSp w a l) (hl : l.length ≤ 100000) :
    Calls Tryz.prog 45 #[.int .i64 (n : Int), a] w fun e w' => e = .returned (.bool (right n l)) ∧ Below w.heap.size w w' := by
  obtain ⟨A, ca, rfl, hA⟩ := ha
  go_enter Tryz.func45, Tryz.ntmps45
  go_wp2
  go_loopw [5, 10] (fun t i wr => ∃ (k : Nat) (a : Int), k ≤ l.length ∧ i = .int .i64 k ∧ t = .int .i64 a ∧ right n l = rightFrom n a (l.drop k) ∧ Below w.heap.size w wr) (fun _ i _ => l.length - (intOf i).toNat)
  case atStart => exact ⟨0, 0, Nat.zero_le _, rfl, rfl, rfl, Below.refl _ _⟩
  case round =>
    obtain ⟨k, at_, hk, rfl, rfl, hr, hbw⟩ := hrel
    have Hr := Lib.hid hr
    clear hr
    by_cases hlt : k < l.length
    · obtain ⟨b1, o1, rfl, hb1, hc1⟩ := hA (by omega)
      obtain ⟨p1, p2, p3⟩ := hc1 k _ (List.getElem?_eq_getElem hlt)
      have p1' := (hbw.cell (p := ⟨b1, o1 + k * 3, none⟩) hb1).trans p1
      have p2' := (hbw.cell (p := ⟨b1, o1 + k * 3 + 1, none⟩) hb1).trans p2
      have p3' := (hbw.cell (p := ⟨b1, o1 + k * 3 + 2, none⟩) hb1).trans p3
      clear p1 p2 p3 hc1 hA
      have hd : l.drop k = l[k] :: l.drop (k + 1) := List.drop_eq_getElem_cons hlt
      have Hd := Lib.hid hd
      clear hd
      have Hb := Lib.hid (fun o => hbw.alloc hbw.size o)
      generalize l[k] = x at p1' p2' p3' Hd
      by_cases hok : at_ ≤ x.lo ∧ x.lo ≤ x.hi ∧ x.hi ≤ (n : Int)
      · obtain ⟨g1, g2, g3⟩ := hok
        have hstep : rightFrom n at_ (x :: l.drop (k + 1)) = rightFrom n x.hi (l.drop (k + 1)) := by
          rw [rightFrom, decide_eq_false (by omega), decide_eq_false (by omega), decide_eq_false (by omega)]; rfl
        have Hs := Lib.hid hstep
        clear hstep
        go_wp2
        go_roundw
        case rel => exact ⟨k + 1, x.hi, by omega, by go_num, rfl, by rw [Hr.out, Hd.out, Hs.out], Hb.out _⟩
        case measure => simp [intOf]; omega
      · have hstep : rightFrom n at_ (x :: l.drop (k + 1)) = false := by
          rw [rightFrom]
          by_cases g1 : x.lo < at_
          · rw [decide_eq_true g1]; rfl
          · by_cases g2 : x.hi < x.lo
            · rw [decide_eq_false g1, decide_eq_true g2]; rfl
            · rw [decide_eq_false g1, decide_eq_false g2, decide_eq_true (show (n : Int) < x.hi by omega)]; rfl
        have Hs := Lib.hid hstep
        clear hstep
        by_cases g1 : x.lo < at_
        · clear hok
          go_wp2
          go_ret
          exact ⟨ret_bool (by rw [Hr.out, Hd.out, Hs.out]), Hb.out _⟩
        · by_cases g2 : x.hi < x.lo
          · clear hok
            go_wp2
            go_ret
            exact ⟨ret_bool (by rw [Hr.out, Hd.out, Hs.out]), Hb.out _⟩
          · have g3 : (n : Int) < x.hi := by omega
            clear hok
            go_wp2
            go_ret
            exact ⟨ret_bool (by rw [Hr.out, Hd.out, Hs.out]), Hb.out _⟩
    · go_wp2
      go_ret
      have h9 := Hr.out
      rw [List.drop_of_length_le (by omega)] at h9
      exact ⟨ret_bool h9.symm, hbw⟩

end Go.Proofs.YthjnoboceibjjaaGreatDoor.Lx
