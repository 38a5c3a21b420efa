/- LexUndone: its walk. -/
import Derived.Test.YtocogbllhmiefaaDoorWalkAB
namespace Go.Proofs.YtocogbllhmiefaaDoor.Lx
open Go Go.Proofs Go.RowKit Go.Shelf

/-- What the last byte that stayed says. -/
def LastAt (s : ByteArray) (l : List Sp) (k : Nat) (last : Int) : Prop := last = -1 ∨ ∃ j m : Nat, j < k ∧ moved s l j = ((m : Int), 0) ∧ last = m
theorem LastAt.lt {s : ByteArray} {l : List Sp} (h : splErr s l = 0) {k n : Nat} {last : Int} (hl : LastAt s l k last) (hk : k < s.size) (hn : moved s l k = ((n : Int), 0)) : last < n := by
  rcases hl with rfl | ⟨j, m, hj, hm, rfl⟩
  · omega
  · have := moved_rise h hj hk hm hn
    omega
theorem LastAt.mono {s : ByteArray} {l : List Sp} {k k' : Nat} {last : Int} (hl : LastAt s l k last) (hk : k ≤ k') : LastAt s l k' last := by
  rcases hl with rfl | ⟨j, m, hj, hm, rfl⟩
  · exact .inl rfl
  · exact .inr ⟨j, m, by omega, hm, rfl⟩
theorem LastAt.ge {s : ByteArray} {l : List Sp} {k : Nat} {last : Int} (hl : LastAt s l k last) : -1 ≤ last := by
  rcases hl with rfl | ⟨j, m, hj, hm, rfl⟩ <;> omega
theorem byte_list {s t : ByteArray} {i j : Nat} (hi : i < s.size) (hj : j < t.size) (h : s.data.toList[i]? = t.data.toList[j]?) : (s[i]'hi) = (t[j]'hj) := by
  have h1 : i < s.data.toList.length := by rw [len_list]; exact hi
  have h2 : j < t.data.toList.length := by rw [len_list]; exact hj
  rw [List.getElem?_eq_getElem h1, List.getElem?_eq_getElem h2] at h
  exact Option.some.inj h
theorem text_small {s : ByteArray} {l : List Sp} (h : splErr s l = 0) : (applied s l).size ≤ 2500 := (text_ok (text_after h).1).1

set_option maxRecDepth 100000 in
set_option maxHeartbeats 8000000 in
theorem lexUndone_in (s : ByteArray) (A : Option Addr) (c : Nat) (l : List Sp) (w : World) (hG : Gl w) (hs : s.size ≤ 3000) (hsrc : Src w (.slice A l.length c) l.length (spCells l)) (hf : fewB l = true) (h40 : l.length ≤ 40) (h0 : splErr s l = 0) :
    Calls Tryd.prog 11 #[.string s, .slice A l.length c] w (AwakeP w) := by
  obtain ⟨i0, hi, hz0, hz1, hz2⟩ := info_parts sp_info
  have hmx : Tryd.prog.follows .mixedOrders = true := by kernel_rfl
  obtain ⟨hsm, hl⟩ := fewB_small hf
  have hsm2 : ∀ x ∈ l, x.text.size ≤ 100000 := fun x hx => Nat.le_trans (hsm x hx) (by omega)
  have Hfw := Lib.hid (few_any _ l w (SlSp.of_src hsrc) (by omega) (fun x hx => Nat.le_trans (hsm x hx) (by omega)))
  obtain ⟨hb1, hb2⟩ := undone_back h0
  have htz := text_small h0
  have hsz := (text_ok (splErr_parts h0).1).1
  have hul := undone_len h0
  have hum : ∀ x ∈ undone s l, x.text.size ≤ 100000 := by
    intro x hx
    unfold undone at hx
    rw [if_pos h0] at hx
    obtain ⟨y, hy, rfl⟩ := List.mem_map.1 hx
    have := (edsFrom_mem s l 0 y hy).2
    show y.old.size ≤ 100000
    omega
  have hap := fun W v h => apply_any s v l W (by omega) h (by omega) hsm2
  have hap2 := fun W v h => apply_any (applied s l) v (undone s l) W (by omega) h (by omega) hum
  rw [hb1, hb2] at hap2
  have hun := fun W v h => undo_any s v l W (by omega) h (by omega) hsm2
  rw [h0] at hap hun
  have hmo := fun (k : Nat) W v h => moved_any s v l (k : Int) W (by omega) h (by omega) hsm2
  have hmb := fun (n : Nat) W v h => moved_any (applied s l) v (undone s l) (n : Int) W (by omega) h (by omega) hum
  unfold MovedP at hmo hmb
  have Hst := Lib.hid (fun k hk => moved_stays h0 k hk)
  have Hlt := Lib.hid (fun k n last hl hk hn => LastAt.lt (s := s) (l := l) h0 (k := k) (n := n) (last := last) hl hk hn)
  generalize applied s l = t at hap hap2 hmb Hst htz
  generalize undone s l = u at hun hap2 hmb Hst hul
  have hulb : ((u.length : Int) != (l.length : Int)) = false := by simp; omega
  have hu40 : u.length ≤ 40 := by omega
  have Hap := Lib.hid hap
  have Hap2 := Lib.hid hap2
  have Hun := Lib.hid hun
  have Hmo := Lib.hid hmo
  have Hmb := Lib.hid hmb
  have Hsrc := Lib.hid hsrc
  have Hf := Lib.hid hf
  clear hsm hsm2 hum hb1 hb2 hap hap2 hun hmo hmb hsrc hf h0 hul
  go_enter Tryd.func11, Tryd.ntmps11
  go_wp2_with (first
    | (go_at_call 21; have hpast := hb5; refine (Hap2.out _ _ (SlSp.of_own hown5)).mono ?_; rintro e w6 ⟨rfl, hb6⟩; have hB6 := hB5.trans (hb6.mono hB5.size))
    | (at_builtin; have hpast := hb4; refine wpList_copy rfl _ _ 31 rfl 55 i0 _ 3 32 Tryd.underlying31 hi hz0 hz1 hz2 rfl (by decide) rfl _ u.length (spCells u) rfl (Src.of_own hown4 (by decide)) (spCells_len u) (spCells_one u) (by unfold maxLen; omega) (by omega) ?_; intro v5 w5 hown5 hb5; have hB5 := hB4.trans (hb5.mono hB4.size); obtain ⟨A5, c5, rfl⟩ := own_form hown5)
    | (go_at_call 25; refine (Hun.out _ _ (SlSp.of_own hown3)).mono ?_; rintro e w4 ⟨v4, rfl, hown4, hb4⟩; have hB4 := hB3.trans (hb4.mono hB3.size); obtain ⟨A4, c4, rfl⟩ := own_form hown4)
    | (at_builtin; have hpast := hb2; refine wpList_copy rfl _ _ 31 rfl 55 i0 _ 3 32 Tryd.underlying31 hi hz0 hz1 hz2 rfl (by decide) rfl _ l.length (spCells l) rfl (Hsrc.out.next hB2) (spCells_len l) (spCells_one l) (by unfold maxLen; omega) (by omega) ?_; intro v3 w3 hown3 hb3; have hB3 := hB2.trans (hb3.mono hB2.size); obtain ⟨A3, c3, rfl⟩ := own_form hown3)
    | (go_at_call 21; refine (Hap.out _ _ (SlSp.of_own hown1)).mono ?_; rintro e w2 ⟨rfl, hb2⟩; have hB2 := hB1.trans (hb2.mono hB1.size))
    | (at_builtin; refine wpList_copy rfl _ _ 31 rfl 55 i0 _ 3 32 Tryd.underlying31 hi hz0 hz1 hz2 rfl (by decide) rfl _ l.length (spCells l) rfl (Hsrc.out.next hb0) (spCells_len l) (spCells_one l) (by unfold maxLen; omega) (by omega) ?_; intro v1 w1 hown1 hb1; have hB1 := hb0.trans (hb1.mono hb0.size); obtain ⟨A1, c1, rfl⟩ := own_form hown1)
    | (go_at_call 20; refine Hfw.out.mono ?_; rw [Hf.out]; rintro e w0 ⟨rfl, hb0⟩))
  have HS4 := Lib.hid (((Src.of_own hown4 (by decide)).next hb5).next hb6)
  have HS1 := Lib.hid (Hsrc.out.next hB6)
  have HB6 := Lib.hid hB6
  clear hown1 hown3 hown4 hown5 hb0 hb1 hb2 hb3 hb4 hb5 hb6 hB1 hB2 hB3 hB4 hB5 hB6
  go_loopw [11, 12] (fun last i wr => ∃ (k : Nat) (la : Int), i = .int .i64 k ∧ last = .int .i64 la ∧ k ≤ 10000 ∧ LastAt s l k la ∧ Below w6.heap.size w6 wr) (fun _ i _ => s.size - (intOf i).toNat)
  case atStart => exact ⟨0, -1, rfl, rfl, by omega, .inl rfl, Below.refl _ _⟩
  case round =>
    obtain ⟨k, la, rfl, rfl, hk, hla, hbw⟩ := hrel
    have hla1 := hla.ge
    have Hla := Lib.hid hla
    clear hla
    by_cases hlt : k < s.size
    · have hla2 : la ≤ 10000 ∨ 10000 < la := by omega
      clear hla2
      rcases Hst.out k hlt with hm | ⟨n, hm, hn1, hn2, hm2⟩
      · have hmk := Hmo.out k
        rw [hm] at hmk
        have Hmk := Lib.hid hmk
        clear hmk hm
        go_wp2_with (first
          | (go_at_call 23; refine (Hmk.out _ _ (SlSp.of_own hown7)).mono ?_; rintro e w8 ⟨rfl, hb8⟩)
          | (at_builtin; refine wpList_copy rfl _ _ 31 rfl 55 i0 _ 3 32 Tryd.underlying31 hi hz0 hz1 hz2 rfl (by decide) rfl _ l.length (spCells l) rfl (HS1.out.next hbw) (spCells_len l) (spCells_one l) (by unfold maxLen; omega) (by omega) ?_; intro v7 w7 hown7 hb7; obtain ⟨A7, c7, rfl⟩ := own_form hown7))
        go_roundw
        case rel => exact ⟨k + (1 + s.size / 60), la, congrArg (Value.int .i64) (by omega), rfl, by omega, Hla.out.mono (by omega), (hbw.trans (hb7.mono hbw.size)).trans (hb8.mono (Nat.le_trans hbw.size hb7.size))⟩
        case measure => simp [intOf]; omega
      · have hmk := Hmo.out k
        rw [hm] at hmk
        have hmb := Hmb.out n
        rw [hm2] at hmb
        have Hmk := Lib.hid hmk
        have Hmb2 := Lib.hid hmb
        have hll := Hlt.out k n la Hla.out hlt hm
        have HL := Lib.hid (show LastAt s l (k + (1 + s.size / 60)) n from .inr ⟨k, n, by omega, hm, rfl⟩)
        have hby : t[n] = s[k] := byte_list hn1 hlt hn2
        have hbb : (((t[n]).toNat : Int) != ((s[k]).toNat : Int)) = false := by rw [hby]; simp
        have e1 : decide ((n : Int) ≤ la) = false := by simp; omega
        have e2 : decide (t.size ≤ n) = false := by simp; omega
        clear hmk hmb hm hm2 hn2 hby
        go_wp2_with (first
          | (go_at_call 23; refine (Hmk.out _ _ (SlSp.of_own hown7)).mono ?_; rintro e w8 ⟨rfl, hb8⟩)
          | (at_builtin; refine wpList_copy rfl _ _ 31 rfl 55 i0 _ 3 32 Tryd.underlying31 hi hz0 hz1 hz2 rfl (by decide) rfl _ l.length (spCells l) rfl (HS1.out.next hbw) (spCells_len l) (spCells_one l) (by unfold maxLen; omega) (by omega) ?_; intro v7 w7 hown7 hb7; obtain ⟨A7, c7, rfl⟩ := own_form hown7))
        have hB8 := (hbw.trans (hb7.mono hbw.size)).trans (hb8.mono (Nat.le_trans hbw.size hb7.size))
        have HB8 := Lib.hid hB8
        clear hb7 hb8 hown7 hB8 hbw
        go_quiet (fail)
        have hB9 := Lib.hid (below_draws HB8.out nq)
        go_wp2_with (first
          | (go_at_call 23; refine (Hmb2.out _ _ (SlSp.of_own hown9)).mono ?_; rintro e w10 ⟨rfl, hb10⟩)
          | (at_builtin; refine wpList_copy rfl _ _ 31 rfl 55 i0 _ 3 32 Tryd.underlying31 hi hz0 hz1 hz2 rfl (by decide) rfl _ u.length (spCells u) rfl (HS4.out.next hB9.out) (spCells_len u) (spCells_one u) (by unfold maxLen; omega) (by omega) ?_; intro v9 w9 hown9 hb9; obtain ⟨A9, c9, rfl⟩ := own_form hown9))
        go_roundw
        case rel => exact ⟨k + (1 + s.size / 60), n, congrArg (Value.int .i64) (by omega), rfl, by omega, HL.out, (hB9.out.trans (hb9.mono hB9.out.size)).trans (hb10.mono (Nat.le_trans hB9.out.size hb9.size))⟩
        case measure => simp [intOf]; omega
    · go_wp2_with (go_at_call 14; refine (awake_any _ ((hG.next HB6.out).next hbw)).mono ?_; rintro e w7 ⟨rfl, hb7⟩)
      go_ret
      exact ⟨rfl, (HB6.out.trans (hbw.mono HB6.out.size)).trans (hb7.mono (Nat.le_trans HB6.out.size hbw.size))⟩

set_option maxRecDepth 100000 in
set_option maxHeartbeats 4000000 in
theorem lexUndone_any (s : ByteArray) (A : Option Addr) (c : Nat) (l : List Sp) (w : World) (hG : Gl w) (hsrc : Src w (.slice A l.length c) l.length (spCells l)) (hl : l.length ≤ 140737488355328) (ht : ∀ x ∈ l, x.text.size ≤ 140737488355328) :
    Calls Tryd.prog 11 #[.string s, .slice A l.length c] w (AwakeP w) := by
  by_cases hs : 3000 < s.size
  · clear hsrc
    go_enter Tryd.func11, Tryd.ntmps11
    go_wp2_with (go_at_call 14; refine (awake_any _ hG).mono ?_; rintro e w1 ⟨rfl, hb1⟩)
    go_ret
    exact ⟨rfl, hb1⟩
  · have Hfw := Lib.hid (few_any _ l w (SlSp.of_src hsrc) hl ht)
    cases hf : fewB l with
    | false =>
      have Hf := Lib.hid hf
      clear hf hsrc
      go_enter Tryd.func11, Tryd.ntmps11
      go_wp2_with (first
        | (go_at_call 20; refine Hfw.out.mono ?_; rw [Hf.out]; rintro e w0 ⟨rfl, hb0⟩)
        | (go_at_call 14; refine (awake_any _ (hG.next hb0)).mono ?_; rintro e w1 ⟨rfl, hb1⟩))
      go_ret
      exact ⟨rfl, hb0.trans (hb1.mono hb0.size)⟩
    | true =>
      by_cases h40 : 40 < l.length
      · have Hf := Lib.hid hf
        clear hf hsrc
        go_enter Tryd.func11, Tryd.ntmps11
        go_wp2_with (first
          | (go_at_call 20; refine Hfw.out.mono ?_; rw [Hf.out]; rintro e w0 ⟨rfl, hb0⟩)
          | (go_at_call 14; refine (awake_any _ (hG.next hb0)).mono ?_; rintro e w1 ⟨rfl, hb1⟩))
        go_ret
        exact ⟨rfl, hb0.trans (hb1.mono hb0.size)⟩
      · by_cases h0 : splErr s l = 0
        · exact lexUndone_in s A c l w hG (by omega) hsrc hf (by omega) h0
        · obtain ⟨i0, hi, hz0, hz1, hz2⟩ := info_parts sp_info
          obtain ⟨hsm, _⟩ := fewB_small hf
          have hap := fun W v h => apply_any s v l W (by omega) h (by omega) (fun x hx => Nat.le_trans (hsm x hx) (by omega))
          generalize splErr s l = er at hap h0
          have ht3 : ((er : Int) != 0) = true := by simp; omega
          have Hap := Lib.hid hap
          have Hf := Lib.hid hf
          have Hsrc := Lib.hid hsrc
          clear hap h0 hf hsrc hsm
          go_enter Tryd.func11, Tryd.ntmps11
          go_wp2_with (first
            | (go_at_call 14; refine (awake_any _ (hG.next hB2)).mono ?_; rintro e w3 ⟨rfl, hb3⟩)
            | (go_at_call 21; refine (Hap.out _ _ (SlSp.of_own hown1)).mono ?_; rintro e w2 ⟨rfl, hb2⟩; have hB2 := hB1.trans (hb2.mono hB1.size))
            | (at_builtin; refine wpList_copy rfl _ _ 31 rfl 55 i0 _ 3 32 Tryd.underlying31 hi hz0 hz1 hz2 rfl (by decide) rfl _ l.length (spCells l) rfl (Hsrc.out.next hb0) (spCells_len l) (spCells_one l) (by unfold maxLen; omega) (by omega) ?_; intro v1 w1 hown1 hb1; have hB1 := hb0.trans (hb1.mono hb0.size); obtain ⟨A1, c1, rfl⟩ := own_form hown1)
            | (go_at_call 20; refine Hfw.out.mono ?_; rw [Hf.out]; rintro e w0 ⟨rfl, hb0⟩))
          go_ret
          exact ⟨rfl, hB2.trans (hb3.mono hB2.size)⟩

end Go.Proofs.YtocogbllhmiefaaDoor.Lx
