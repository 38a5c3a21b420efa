/- LexRenamed: its walk. -/
import Derived.Test.YtocogbllhmiefaaDoorSpecM
import Derived.Test.YtocogbllhmiefaaDoorWalkV
namespace Go.Proofs.YtocogbllhmiefaaDoor.Lx
open Go Go.Proofs Go.RowKit Go.Shelf

set_option maxRecDepth 100000 in
set_option maxHeartbeats 8000000 in
theorem lexRenamed_in (s old name : ByteArray) (w : World) (hG : Gl w) (hs : s.size ≤ 3000) (hos : old.size ≤ 100) (hns : name.size ≤ 100) (h : renErr s old name = 0) :
    Calls Tryd.prog 13 #[.string s, .string old, .string name] w (AwakeP w) := by
  obtain ⟨m, k1, k2, k3, k4, k5, k6⟩ := renamed_parts h
  obtain ⟨t0, _, _, g1, g2⟩ := renErr_parts h
  have hr1 := fun W hG' => rename_any s old name W (by omega) (by omega) (by omega) hG'
  have hr2 := fun W hG' => rename_any (renamed s old name) name old W (by omega) (by omega) (by omega) hG'
  have ht1 := fun W hG' => tokens_any s W (by omega) hG'
  have ht2 := fun W hG' => tokens_any (renamed s old name) W (by omega) hG'
  unfold RenameP at hr1 hr2
  rw [h] at hr1
  rw [k4, k5] at hr2
  rw [k1] at ht2
  rw [t0] at ht1
  dsimp only at ht2
  obtain ⟨e1, e2⟩ := RenT.at_ k2
  have hlT := (tokens_parts t0).2.2.2.2
  generalize (tokens s).1 = T at *
  generalize (tokens s).2.1 = tp at ht1
  generalize renamed s old name = t at *
  have hlb : ((T.length : Int) != (m.length : Int)) = false := by rw [bne_eq_false_iff_eq]; omega
  have hml : m.length ≤ 900 := by omega
  have Hr1 := Lib.hid hr1
  have Hr2 := Lib.hid hr2
  have Ht1 := Lib.hid ht1
  have Ht2 := Lib.hid ht2
  have K3 := Lib.hid k3
  have E1 := Lib.hid e1
  have E2 := Lib.hid e2
  clear hr1 hr2 ht1 ht2 k1 k2 k3 k4 k5 h t0 g1 g2 e1 e2
  go_enter Tryd.func13, Tryd.ntmps13
  go_wp2_with (first
    | (go_at_call 15; have hpast := hb3; refine (Ht2.out _ (hG.next hB3)).mono ?_; rintro e w4 ⟨v4, rfl, hown4, hb4⟩; have hB4 := hB3.trans (hb4.mono hB3.size); obtain ⟨A4, c4, rfl, hA4⟩ := SlTk.of_own hown4)
    | (go_at_call 15; refine (Ht1.out _ (hG.next hB2)).mono ?_; rintro e w3 ⟨v3, rfl, hown3, hb3⟩; have hB3 := hB2.trans (hb3.mono hB2.size); obtain ⟨A3, c3, rfl, hA3⟩ := SlTk.of_own hown3)
    | (go_at_call 30; have hpast := hb1; refine (Hr2.out _ (hG.next hb1)).mono ?_; rintro e w2 ⟨rfl, hb2⟩; have hB2 := hb1.trans (hb2.mono hb1.size))
    | (go_at_call 30; refine (Hr1.out _ hG).mono ?_; rintro e w1 ⟨rfl, hb1⟩))
  have HB4 := Lib.hid hB4
  have HA3 := Lib.hid hA3
  have HA4 := Lib.hid hA4
  have Hb4 := Lib.hid hb4
  clear hown3 hown4 hB2 hB3 hB4 hb1 hb2 hb3 hb4 hA3 hA4
  go_loopw [17] (fun i wr => ∃ k : Nat, k ≤ T.length ∧ i = .int .i64 k ∧ Below w4.heap.size w4 wr) (fun i _ => T.length - (intOf i).toNat)
  case atStart => exact ⟨0, Nat.zero_le _, rfl, Below.refl _ _⟩
  case round =>
    obtain ⟨k, hk, rfl, hbw⟩ := hrel
    by_cases hlt : k < T.length
    · have hlt2 : k < m.length := by have := E1.out; omega
      obtain ⟨b1, o1, rfl, hb1, hc1⟩ := HA3.out (by omega)
      obtain ⟨b2, o2, rfl, hb2, hc2⟩ := HA4.out (by omega)
      obtain ⟨p1, p2, p3⟩ := hc1 k _ (List.getElem?_eq_getElem hlt)
      obtain ⟨q1, q2, q3⟩ := hc2 k _ (List.getElem?_eq_getElem hlt2)
      have hb14 : b1 < w4.heap.size := Nat.lt_of_lt_of_le hb1 Hb4.out.size
      have p1' := (hbw.cell (p := ⟨b1, o1 + k * 3, none⟩) hb14).trans ((Hb4.out.cell (p := ⟨b1, o1 + k * 3, none⟩) hb1).trans p1)
      have p2' := (hbw.cell (p := ⟨b1, o1 + k * 3 + 1, none⟩) hb14).trans ((Hb4.out.cell (p := ⟨b1, o1 + k * 3 + 1, none⟩) hb1).trans p2)
      have q1' := (hbw.cell (p := ⟨b2, o2 + k * 3, none⟩) hb2).trans q1
      have q2' := (hbw.cell (p := ⟨b2, o2 + k * 3 + 1, none⟩) hb2).trans q2
      clear p1 p2 p3 q1 q2 q3 hc1 hc2
      obtain ⟨y1, y2, y3⟩ := E2.out k _ _ (List.getElem?_eq_getElem hlt) (List.getElem?_eq_getElem hlt2)
      have hxn := K3.out _ (List.getElem_mem hlt)
      generalize T[k] = x at p1' p2' y1 y2 y3 hxn
      generalize m[k] = y at q1' q2' y1 y2
      obtain ⟨xk, xt, xp⟩ := x
      obtain ⟨yk, yt, yp⟩ := y
      dsimp only at p1' p2' q1' q2' y1 y2 y3 hxn
      subst y1
      by_cases hx : xt.toList = old.toList
      · rw [if_pos hx] at y2
        obtain rfl := y3 hx
        obtain rfl := str_eq.1 hx
        subst y2
        have e1 : (xt.toList == yt.toList) = false := by simp [hxn]
        clear hx hxn y3
        go_wp2
        go_quiet (fail)
        go_wp2
        go_quiet (fail)
        go_wp2
        go_roundw
        case rel => exact ⟨k + 1, by omega, by go_num, by first | exact below_draws hbw _ | exact below_draws (below_draws hbw _) _⟩
        case measure => simp [intOf]; omega
      · rw [if_neg hx] at y2
        subst y2
        have e1 : (yt.toList == old.toList) = false := by simp [hx]
        have e2 : ((xk : Int) != (xk : Int)) = false := by simp
        clear hx hxn y3
        go_wp2
        go_quiet (fail)
        go_wp2
        go_quiet (fail)
        go_wp2
        go_roundw
        case rel => exact ⟨k + 1, by omega, by go_num, by first | exact below_draws hbw _ | exact below_draws (below_draws hbw _) _⟩
        case measure => simp [intOf]; omega
    · go_wp2_with (go_at_call 14; refine (awake_any _ ((hG.next HB4.out).next hbw)).mono ?_; rintro e w7 ⟨rfl, hb7⟩)
      go_ret
      exact ⟨rfl, (HB4.out.trans (hbw.mono HB4.out.size)).trans (hb7.mono (Nat.le_trans HB4.out.size hbw.size))⟩

set_option maxRecDepth 100000 in
set_option maxHeartbeats 4000000 in
theorem lexRenamed_out (s old name : ByteArray) (w : World) (hG : Gl w) (h : 3000 < s.size ∨ 100 < old.size ∨ 100 < name.size) :
    Calls Tryd.prog 13 #[.string s, .string old, .string name] w (AwakeP w) := by
  by_cases h1 : 3000 < s.size
  · clear h
    go_enter Tryd.func13, Tryd.ntmps13
    go_wp2_with (go_at_call 14; refine (awake_any _ hG).mono ?_; rintro e w1 ⟨rfl, hb1⟩)
    go_ret
    exact ⟨rfl, hb1⟩
  · by_cases h2 : 100 < old.size
    · clear h
      go_enter Tryd.func13, Tryd.ntmps13
      go_wp2_with (go_at_call 14; refine (awake_any _ hG).mono ?_; rintro e w1 ⟨rfl, hb1⟩)
      go_ret
      exact ⟨rfl, hb1⟩
    · have h3 : 100 < name.size := by omega
      clear h
      go_enter Tryd.func13, Tryd.ntmps13
      go_wp2_with (go_at_call 14; refine (awake_any _ hG).mono ?_; rintro e w1 ⟨rfl, hb1⟩)
      go_ret
      exact ⟨rfl, hb1⟩

set_option maxRecDepth 100000 in
set_option maxHeartbeats 4000000 in
theorem lexRenamed_any (s old name : ByteArray) (w : World) (hG : Gl w) :
    Calls Tryd.prog 13 #[.string s, .string old, .string name] w fun e w' => e = .returned (.bool true) ∧ Below w.heap.size w w' := by
  by_cases hl : 3000 < s.size ∨ 100 < old.size ∨ 100 < name.size
  · exact lexRenamed_out s old name w hG hl
  · by_cases h : renErr s old name = 0
    · exact lexRenamed_in s old name w hG (by omega) (by omega) (by omega) h
    · have hr1 := fun W hG' => rename_any s old name W (by omega) (by omega) (by omega) hG'
      unfold RenameP at hr1
      generalize renErr s old name = er at hr1 h
      have ht3 : ((er : Int) != 0) = true := by simp; omega
      have n1 : ¬ 3000 < s.size := by omega
      have n2 : ¬ 100 < old.size := by omega
      have n3 : ¬ 100 < name.size := by omega
      have Hr1 := Lib.hid hr1
      clear hr1 h hl
      go_enter Tryd.func13, Tryd.ntmps13
      go_wp2_with (first
        | (go_at_call 30; refine (Hr1.out _ hG).mono ?_; rintro e w1 ⟨rfl, hb1⟩)
        | (go_at_call 14; refine (awake_any _ (hG.next hb1)).mono ?_; rintro e w2 ⟨rfl, hb2⟩))
      go_ret
      exact ⟨rfl, hb1.trans (hb2.mono hb1.size)⟩

end Go.Proofs.YtocogbllhmiefaaDoor.Lx
