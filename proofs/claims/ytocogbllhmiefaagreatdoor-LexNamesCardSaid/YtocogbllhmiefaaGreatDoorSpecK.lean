/- Tokens that are far from a splice stay: what LexFar says, of plain lists. -/
import Derived.Test.YtocogbllhmiefaaGreatDoorSpecJ
import Derived.Test.YtocogbllhmiefaaGreatDoorSpecE
namespace Go.Proofs.YtocogbllhmiefaaGreatDoor.Lx
open Go Go.Proofs Go.RowKit Go.Shelf

theorem kept_parts {s : ByteArray} {x : Sp} (h : keptErr s x = 0) : splErr s [x] = 0 ∧ (tokens s).2.2 = 0 ∧ (tokens (applied s [x])).2.2 = 0 := by
  unfold keptErr at h
  split at h
  · contradiction
  · split at h
    · contradiction
    · exact ⟨by omega, by omega, h⟩

/-- The text after one splice. -/
theorem one_splice {s : ByteArray} {x : Sp} (h : splErr s [x] = 0) : ∃ lo hi : Nat, x.lo = lo ∧ x.hi = hi ∧ lo ≤ hi ∧ hi ≤ s.size ∧ (applied s [x]).data.toList = s.data.toList.take lo ++ (x.text.data.toList ++ s.data.toList.drop hi) := by
  obtain ⟨_, _, h3, _, _⟩ := splErr_parts h
  obtain ⟨q1, q2, q3, _⟩ := rightFrom_cons h3
  obtain ⟨lo, hlo⟩ := Int.eq_ofNat_of_zero_le (show 0 ≤ x.lo by omega)
  obtain ⟨hi, hhi⟩ := Int.eq_ofNat_of_zero_le (show 0 ≤ x.hi by omega)
  refine ⟨lo, hi, hlo, hhi, by omega, by omega, ?_⟩
  rw [(text_after h).2.1]
  show editedFrom s 0 (edsFrom s 0 [x]) = _
  rw [ed_cons, edt_cons, ed_nil, edt_nil, hlo, hhi, Int.toNat_natCast, Int.toNat_natCast, List.drop_zero, Nat.sub_zero, List.append_assoc]

theorem far_head {s : ByteArray} {x : Sp} (h : keptErr s x = 0) : endsB x.lo.toNat (tokens s).1 ≤ keptHead s x := by
  obtain ⟨h1, h2, h3⟩ := kept_parts h
  obtain ⟨lo, hi, e1, e2, q1, q2, hl⟩ := one_splice h1
  obtain ⟨_, ha, _, hea, _⟩ := tokens_parts h2
  obtain ⟨_, hb, _, _, _⟩ := tokens_parts h3
  have hsz : lo ≤ (applied s [x]).size := by
    rw [← len_list, hl, List.length_append, List.length_take, len_list]; omega
  unfold keptHead
  rw [if_pos h, e1, Int.toNat_natCast, ha, hb]
  refine head_ge (by omega) hsz (fun j hj => ?_) s.size 0 (by omega) (Nat.zero_le _) hea
  unfold bt
  rw [hl, List.getD_eq_getElem?_getD, List.getD_eq_getElem?_getD, List.getElem?_append_left (by rw [List.length_take, len_list]; omega), List.getElem?_take, if_pos hj]

/-- How many tokens begin behind a place. -/
def behindB (L : Nat) (l : List Tk) : Nat := (l.filter fun x => decide (L < x.pos)).length
theorem behind_app {L : Nat} {X Y : List Tk} (hX : ∀ x ∈ X, x.pos < L) (hY : ∀ y ∈ Y, L < y.pos) : behindB L (X ++ Y) = Y.length := by
  unfold behindB
  rw [List.filter_append, List.filter_eq_nil_iff.2 (fun x hx => by have := hX x hx; simp; omega), List.filter_eq_self.2 (fun y hy => by simpa using hY y hy)]
  rfl
theorem toks_lt (s : ByteArray) : ∀ (f a : Nat), s.size - a ≤ f → ∀ x ∈ toksOf (piecesFrom s a), x.pos < s.size := by
  intro f
  induction f with
  | zero => intro a hf x hx; rw [pieces_end (by omega)] at hx; simp [toksOf] at hx
  | succ f ih =>
    intro a hf x hx
    by_cases ha : a < s.size
    · by_cases h2 : cls (bt s a) = 2
      · rw [pieces_blank ha h2] at hx
        exact ih (a + 1) (by omega) x hx
      · have hlt := lt_pieceEnd ha
        by_cases h3 : cls (bt s a) = 3
        · rw [pieces_piece ha h2] at hx
          have e : toksOf (piece s a :: piecesFrom s (pieceEnd s a)) = toksOf (piecesFrom s (pieceEnd s a)) := by
            unfold toksOf; rw [List.filter_cons_of_neg (by simpa using (kind5 ha).2 h3)]
          rw [e] at hx
          exact ih (pieceEnd s a) (by omega) x hx
        · rw [toks_cons ha h2 h3] at hx
          rcases List.mem_cons.1 hx with rfl | hx
          · exact ha
          · exact ih (pieceEnd s a) (by omega) x hx
    · rw [pieces_end (by omega)] at hx; simp [toksOf] at hx

theorem far_tail {s : ByteArray} {x : Sp} (h : keptErr s x = 0) {L : Nat} (hL1 : x.hi ≤ L) (hL2 : L ≤ s.size) (hL3 : ∀ (_ : L < s.size), bt s L = 10) :
    min (min (behindB L (tokens s).1) ((tokens s).1.length - keptHead s x)) ((tokens (applied s [x])).1.length - keptHead s x) ≤ keptTail s x := by
  obtain ⟨h1, h2, h3⟩ := kept_parts h
  obtain ⟨lo, hi, e1, e2, q1, q2, hl⟩ := one_splice h1
  obtain ⟨_, ha, _, hea, _⟩ := tokens_parts h2
  obtain ⟨_, hb, _, _, _⟩ := tokens_parts h3
  unfold keptTail
  rw [if_pos h]
  generalize keptHead s x = n
  by_cases hLs : L < s.size
  · have h10 := hL3 hLs
    obtain ⟨X, hX, hx⟩ := line_cut hLs h10 L 0 (by omega) (Nat.zero_le _)
    have hY : toksOf (piecesFrom s L) = toksOf (piecesFrom s (L + 1)) := by rw [pieces_blank hLs (by rw [h10]; rfl)]
    have hd : (applied s [x]).data.toList.drop (lo + x.text.size + (L - hi)) = s.data.toList.drop L := by
      have l1 : (s.data.toList.take lo).length = lo := by rw [List.length_take, len_list]; omega
      rw [hl, List.drop_append, List.drop_of_length_le (by omega), List.nil_append, l1, show lo + x.text.size + (L - hi) - lo = x.text.size + (L - hi) by omega, List.drop_append, List.drop_of_length_le (by rw [len_list]; omega), List.nil_append, len_list, show x.text.size + (L - hi) - x.text.size = L - hi by omega, List.drop_drop, show hi + (L - hi) = L by omega]
    have hsz : (applied s [x]).size = lo + x.text.size + (s.size - hi) := by
      rw [← len_list, hl, List.length_append, List.length_append, List.length_take, List.length_drop, len_list, len_list]; omega
    have hb10 : bt (applied s [x]) (lo + x.text.size + (L - hi)) = 10 := by have := drop_bt hd 0; simpa [h10] using this
    obtain ⟨X', hX', _⟩ := line_cut (s := applied s [x]) (L := lo + x.text.size + (L - hi)) (by omega) hb10 _ 0 (Nat.le_refl _) (Nat.zero_le _)
    have hM := moved_drop (g := ((applied s [x]).size : Int) - s.size) (s.size - L) L (lo + x.text.size + (L - hi)) (Nat.le_refl _) (by rw [hsz]; omega) hd
    rw [ha, hb, hX, hX']
    have hbh : behindB L (X ++ toksOf (piecesFrom s L)) = (toksOf (piecesFrom s L)).length := by
      refine behind_app hx (fun y hy => ?_)
      rw [hY] at hy
      have := toks_pos s _ (L + 1) (Nat.le_refl _) y hy
      omega
    rw [hbh]
    exact tail_ge hM n
  · have : behindB L (tokens s).1 = 0 := by
      unfold behindB
      rw [ha, List.filter_eq_nil_iff.2 (fun y hy => by have := toks_lt s _ 0 (Nat.le_refl _) y hy; simp; omega)]; rfl
    omega

theorem kept_sum (s : ByteArray) (x : Sp) : keptHead s x + keptTail s x ≤ (tokens s).1.length ∧ keptHead s x + keptTail s x ≤ (tokens (applied s [x])).1.length := by
  by_cases h : keptErr s x = 0
  · have e1 : keptHead s x = comL sameTk (tokens s).1 (tokens (applied s [x])).1 := if_pos h
    have h1 := comL_le sameTk (tokens s).1 (tokens (applied s [x])).1
    rw [← e1] at h1
    have e2 : keptTail s x = comL (moveT (((applied s [x]).size : Int) - s.size)) ((tokens s).1.drop (keptHead s x)).reverse ((tokens (applied s [x])).1.drop (keptHead s x)).reverse := if_pos h
    have h2 := comL_le (moveT (((applied s [x]).size : Int) - s.size)) ((tokens s).1.drop (keptHead s x)).reverse ((tokens (applied s [x])).1.drop (keptHead s x)).reverse
    rw [← e2, List.length_reverse, List.length_reverse, List.length_drop, List.length_drop] at h2
    omega
  · have e1 : keptHead s x = 0 := if_neg h
    have e2 : keptTail s x = 0 := if_neg h
    omega

end Go.Proofs.YtocogbllhmiefaaGreatDoor.Lx
