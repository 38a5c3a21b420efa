/- LexSplices and LexUndone: their walks. -/
import Derived.Test.YtocogbllhmiefaaDoorWalkAA
namespace Go.Proofs.YtocogbllhmiefaaDoor.Lx
open Go Go.Proofs Go.RowKit Go.Shelf

/-- Have splices few bytes, together? -/
def fewGo : Nat → List Sp → Bool
  | _, [] => true
  | n, x :: r => if 3000 < n + x.text.size then false else fewGo (n + x.text.size) r
def fewB (l : List Sp) : Bool := fewGo 0 l && decide (l.length ≤ 1000)
theorem fewGo_small : ∀ (l : List Sp) (n : Nat), fewGo n l = true → ∀ x ∈ l, x.text.size ≤ 3000 := by
  intro l
  induction l with
  | nil => intro n _ x h; cases h
  | cons y r ih =>
    intro n h x hx
    rw [fewGo] at h
    split at h
    · cases h
    · rcases List.mem_cons.1 hx with rfl | hx
      · omega
      · exact ih _ h x hx
theorem fewB_small {l : List Sp} (h : fewB l = true) : (∀ x ∈ l, x.text.size ≤ 3000) ∧ l.length ≤ 1000 := by
  unfold fewB at h
  rw [Bool.and_eq_true] at h
  exact ⟨fewGo_small l 0 h.1, of_decide_eq_true h.2⟩

set_option maxRecDepth 100000 in
set_option maxHeartbeats 2000000 in
theorem few_any (a : Value) (l : List Sp) (w : World) (ha : SlSp w a l) (hl : l.length ≤ 140737488355328) (ht : ∀ x ∈ l, x.text.size ≤ 140737488355328) :
    Calls Tryd.prog 20 #[a] w fun e w' => e = .returned (.bool (fewB l)) ∧ Below w.heap.size w w' := by
  obtain ⟨A, ca, rfl, hA⟩ := ha
  go_enter Tryd.func20, Tryd.ntmps20
  go_wp2
  go_loopw [3, 4] (fun t i wr => ∃ (k n : Nat), k ≤ l.length ∧ i = .int .i64 k ∧ t = .int .i64 n ∧ n ≤ 3000 ∧ fewGo 0 l = fewGo n (l.drop k) ∧ Below w.heap.size w wr) (fun _ i _ => l.length - (intOf i).toNat)
  case atStart => exact ⟨0, 0, Nat.zero_le _, rfl, rfl, by omega, rfl, Below.refl _ _⟩
  case round =>
    obtain ⟨k, n, hk, rfl, rfl, hn, hF, hbw⟩ := hrel
    have HF := Lib.hid hF
    clear hF
    by_cases hlt : k < l.length
    · obtain ⟨b1, o1, rfl, hb1, hc1⟩ := hA (by omega)
      obtain ⟨p1, p2, p3⟩ := hc1 k _ (List.getElem?_eq_getElem hlt)
      have p3' := (hbw.cell (p := ⟨b1, o1 + k * 3 + 2, none⟩) hb1).trans p3
      clear p1 p2 p3 hc1 hA
      have htx := ht _ (List.getElem_mem hlt)
      have Hd := Lib.hid (show l.drop k = l[k] :: l.drop (k + 1) from List.drop_eq_getElem_cons hlt)
      generalize l[k] = x at p3' htx Hd
      by_cases hbig : 3000 < n + x.text.size
      · have Hf := Lib.hid (show fewB l = false by unfold fewB; rw [HF.out, Hd.out, fewGo, if_pos hbig]; rfl)
        go_wp2
        go_ret
        exact ⟨ret_bool Hf.out.symm, hbw⟩
      · have Hs := Lib.hid (show fewGo n (x :: l.drop (k + 1)) = fewGo (n + x.text.size) (l.drop (k + 1)) by rw [fewGo, if_neg hbig])
        go_wp2
        go_roundw
        case rel => exact ⟨k + 1, n + x.text.size, by omega, by go_num, by go_num, by omega, by rw [HF.out, Hd.out, Hs.out], hbw⟩
        case measure => simp [intOf]; omega
    · have Hf := Lib.hid (show fewB l = decide ((l.length : Int) ≤ 1000) by
        unfold fewB
        rw [HF.out, List.drop_of_length_le (by omega), fewGo, Bool.true_and]
        congr 1
        exact propext ⟨fun h => by omega, fun h => by omega⟩)
      go_wp2
      go_ret
      exact ⟨by rw [Hf.out]; rfl, hbw⟩

set_option maxRecDepth 100000 in
set_option maxHeartbeats 8000000 in
theorem lexSplices_in (s : ByteArray) (A : Option Addr) (c : Nat) (l : List Sp) (i : Int) (w : World) (hG : Gl w) (hs : s.size ≤ 3000) (hsrc : Src w (.slice A l.length c) l.length (spCells l)) (hf : fewB l = true) :
    Calls Tryd.prog 4 #[.string s, .slice A l.length c, .int .i64 i] w (AwakeP w) := by
  obtain ⟨i0, hi, hz0, hz1, hz2⟩ := info_parts sp_info
  obtain ⟨hsm, hl⟩ := fewB_small hf
  have hsm2 : ∀ x ∈ l, x.text.size ≤ 100000 := fun x hx => Nat.le_trans (hsm x hx) (by omega)
  have hsl := SlSp.of_src hsrc
  have Hfw := Lib.hid (few_any _ l w hsl (by omega) (fun x hx => Nat.le_trans (hsm x hx) (by omega)))
  have Hap := Lib.hid (fun W v h => apply_any s v l W (by omega) h (by omega) hsm2)
  have Hra := Lib.hid (fun W h => refApply_any s (.slice A l.length c) l W (by omega) h (by omega) hsm2)
  have Hmo := Lib.hid (fun W v h => moved_any s v l i W (by omega) h (by omega) hsm2)
  have Hrm := Lib.hid (fun W h => refMoved_any s (.slice A l.length c) l i W (by omega) h (by omega) hsm2)
  have Hun := Lib.hid (fun W v h => undo_any s v l W (by omega) h (by omega) hsm2)
  have Hru := Lib.hid (fun W h => refUndo_any s (.slice A l.length c) l W (by omega) h (by omega) hsm2)
  have hul : (undone s l).length ≤ 1000 := by unfold undone; split <;> simp [eds_length]; omega
  unfold MovedP at Hmo Hrm
  generalize applied s l = ap at Hap Hra
  generalize moved s l i = mv at Hmo Hrm
  generalize undone s l = u at Hun Hru hul
  generalize splErr s l = er at Hap Hra Hun Hru
  have Hsl := Lib.hid hsl
  have Hsrc := Lib.hid hsrc
  have Hf := Lib.hid hf
  clear hsm hsm2 hsl hsrc hf
  go_enter Tryd.func4, Tryd.ntmps4
  go_wp2_with (first
    | (go_at_call 14; refine (awake_any _ (hG.next hBb)).mono ?_; rintro e wc ⟨rfl, hbc⟩)
    | (go_at_call 27; refine (sameSplices_self _ _ u _ ((SlSp.of_own hown8).below hb9) (SlSp.of_own hown9) (by omega)).mono ?_; rintro e wb ⟨rfl, hbb⟩; have hBb := hB9.trans (hbb.mono hB9.size))
    | (go_at_call 26; refine (Hru.out _ (Hsl.out.below hB8)).mono ?_; rintro e w9 ⟨v9, rfl, hown9, hb9⟩; have hB9 := hB8.trans (hb9.mono hB8.size))
    | (go_at_call 25; refine (Hun.out _ _ (SlSp.of_own hown7)).mono ?_; rintro e w8 ⟨v8, rfl, hown8, hb8⟩; have hB8 := hB7.trans (hb8.mono hB7.size))
    | (at_builtin; have hpast := hb6; refine wpList_copy rfl _ _ 31 rfl 55 i0 _ 3 32 Tryd.underlying31 hi hz0 hz1 hz2 rfl (by decide) rfl _ l.length (spCells l) rfl (Hsrc.out.next hB6) (spCells_len l) (spCells_one l) (by unfold maxLen; omega) (by omega) ?_; intro v7 w7 hown7 hb7; have hB7 := hB6.trans (hb7.mono hB6.size); obtain ⟨A7, c7, rfl⟩ := own_form hown7)
    | (go_at_call 24; refine (Hrm.out _ (Hsl.out.below hB5)).mono ?_; rintro e w6 ⟨rfl, hb6⟩; have hB6 := hB5.trans (hb6.mono hB5.size))
    | (go_at_call 23; refine (Hmo.out _ _ (SlSp.of_own hown4)).mono ?_; rintro e w5 ⟨rfl, hb5⟩; have hB5 := hB4.trans (hb5.mono hB4.size))
    | (at_builtin; have hpast := hb3; refine wpList_copy rfl _ _ 31 rfl 55 i0 _ 3 32 Tryd.underlying31 hi hz0 hz1 hz2 rfl (by decide) rfl _ l.length (spCells l) rfl (Hsrc.out.next hB3) (spCells_len l) (spCells_one l) (by unfold maxLen; omega) (by omega) ?_; intro v4 w4 hown4 hb4; have hB4 := hB3.trans (hb4.mono hB3.size); obtain ⟨A4, c4, rfl⟩ := own_form hown4)
    | (go_at_call 22; refine (Hra.out _ (Hsl.out.below hB2)).mono ?_; rintro e w3 ⟨rfl, hb3⟩; have hB3 := hB2.trans (hb3.mono hB2.size))
    | (go_at_call 21; refine (Hap.out _ _ (SlSp.of_own hown1)).mono ?_; rintro e w2 ⟨rfl, hb2⟩; have hB2 := hB1.trans (hb2.mono hB1.size))
    | (at_builtin; refine wpList_copy rfl _ _ 31 rfl 55 i0 _ 3 32 Tryd.underlying31 hi hz0 hz1 hz2 rfl (by decide) rfl _ l.length (spCells l) rfl (Hsrc.out.next hb0) (spCells_len l) (spCells_one l) (by unfold maxLen; omega) (by omega) ?_; intro v1 w1 hown1 hb1; have hB1 := hb0.trans (hb1.mono hb0.size); obtain ⟨A1, c1, rfl⟩ := own_form hown1)
    | (go_at_call 20; refine Hfw.out.mono ?_; rw [Hf.out]; rintro e w0 ⟨rfl, hb0⟩))
  go_ret
  exact ⟨rfl, hBb.trans (hbc.mono hBb.size)⟩

set_option maxRecDepth 100000 in
set_option maxHeartbeats 4000000 in
theorem lexSplices_any (s : ByteArray) (A : Option Addr) (c : Nat) (l : List Sp) (i : Int) (w : World) (hG : Gl w) (hsrc : Src w (.slice A l.length c) l.length (spCells l)) (hl : l.length ≤ 140737488355328) (ht : ∀ x ∈ l, x.text.size ≤ 140737488355328) :
    Calls Tryd.prog 4 #[.string s, .slice A l.length c, .int .i64 i] w (AwakeP w) := by
  by_cases hs : 3000 < s.size
  · clear hsrc
    go_enter Tryd.func4, Tryd.ntmps4
    go_wp2_with (go_at_call 14; refine (awake_any _ hG).mono ?_; rintro e w1 ⟨rfl, hb1⟩)
    go_ret
    exact ⟨rfl, hb1⟩
  · cases hf : fewB l with
    | true => exact lexSplices_in s A c l i w hG (by omega) hsrc hf
    | false =>
      have Hfw := Lib.hid (few_any _ l w (SlSp.of_src hsrc) hl ht)
      have Hf := Lib.hid hf
      clear hf hsrc
      go_enter Tryd.func4, Tryd.ntmps4
      go_wp2_with (first
        | (go_at_call 20; refine Hfw.out.mono ?_; rw [Hf.out]; rintro e w0 ⟨rfl, hb0⟩)
        | (go_at_call 14; refine (awake_any _ (hG.next hb0)).mono ?_; rintro e w1 ⟨rfl, hb1⟩))
      go_ret
      exact ⟨rfl, hb0.trans (hb1.mono hb0.size)⟩

end Go.Proofs.YtocogbllhmiefaaDoor.Lx
