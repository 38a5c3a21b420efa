/- A line and a column that are found are those of the place (plain). -/
import Derived.Test.YtocogbllhmiefaaGreatDoorSpecN
namespace Go.Proofs.YtocogbllhmiefaaGreatDoor.Lx

theorem place_of : ∀ (s : List UInt8) (k : Nat) (ln : List UInt8) (c : Nat), (lns s)[k]? = some ln → c ≤ ln.length →
    startL k (lns s) + c ≤ s.length ∧ (s.take (startL k (lns s) + c)).count 10 = k ∧ cutL (s.take (startL k (lns s) + c)) = startL k (lns s)
  | [], k, ln, c, h, hc => by
    cases k with
    | zero =>
      simp [lns] at h
      subst h
      simp at hc
      subst hc
      simp [startL, cutL]
    | succ k => simp [lns] at h
  | d :: r, k, ln, c, h, hc => by
    by_cases hd : d = 10
    · subst hd
      rw [lns_feed] at h ⊢
      cases k with
      | zero =>
        simp at h
        subst h
        simp at hc
        subst hc
        simp [startL, cutL]
      | succ k =>
        obtain ⟨h1, h2, h3⟩ := place_of r k ln c (by simpa using h) hc
        have e : startL (k + 1) ([] :: lns r) + c = (startL k (lns r) + c) + 1 := by
          show 0 + 1 + startL k (lns r) + c = _
          omega
        rw [e, List.take_succ_cons, List.count_cons_self, h2]
        refine ⟨by simp; omega, rfl, ?_⟩
        show (if 0 < cutL (r.take (startL k (lns r) + c)) then cutL (r.take (startL k (lns r) + c)) + 1 else if (10 : UInt8) = 10 then 1 else 0) = 0 + 1 + startL k (lns r)
        rw [h3]
        split
        · omega
        · rw [if_pos rfl]; omega
    · obtain ⟨x, q, hx⟩ := List.exists_cons_of_ne_nil (lns_ne r)
      rw [lns_other r hd hx] at h ⊢
      cases k with
      | zero =>
        simp at h
        subst h
        show 0 + c ≤ _ ∧ ((d :: r).take (0 + c)).count 10 = 0 ∧ cutL ((d :: r).take (0 + c)) = 0
        rw [Nat.zero_add]
        cases c with
        | zero => simp [cutL]
        | succ c =>
          obtain ⟨h1, h2, h3⟩ := place_of r 0 x c (by rw [hx]; rfl) (by simpa using hc)
          have e0 : startL 0 (lns r) = 0 := rfl
          rw [e0, Nat.zero_add] at h1 h2 h3
          rw [List.take_succ_cons, List.count_cons_of_ne hd, h2]
          refine ⟨by simp; omega, rfl, ?_⟩
          show (if 0 < cutL (r.take c) then cutL (r.take c) + 1 else if d = 10 then 1 else 0) = 0
          rw [h3, if_neg (by omega), if_neg hd]
      | succ k =>
        obtain ⟨h1, h2, h3⟩ := place_of r (k + 1) ln c (by rw [hx]; simpa using h) hc
        rw [hx] at h1 h2 h3
        have e1 : startL (k + 1) (x :: q) = x.length + 1 + startL k q := rfl
        have e : startL (k + 1) ((d :: x) :: q) + c = (startL (k + 1) (x :: q) + c) + 1 := by
          show (d :: x).length + 1 + startL k q + c = _
          rw [e1]; simp; omega
        rw [e, List.take_succ_cons, List.count_cons_of_ne hd, h2]
        refine ⟨by simp; omega, rfl, ?_⟩
        show (if 0 < cutL (r.take (startL (k + 1) (x :: q) + c)) then cutL (r.take (startL (k + 1) (x :: q) + c)) + 1 else if d = 10 then 1 else 0) = (d :: x).length + 1 + startL k q
        rw [h3, if_pos (by rw [e1]; omega), e1]
        simp; omega

theorem atFrom_some (line col : Int) : ∀ (l : List (List UInt8)) (i st : Nat) (v : Int), atFrom line col i st l = some v → ∃ (k : Nat) (ln : List UInt8), l[k]? = some ln ∧ line = (i : Int) + k + 1 ∧ 1 ≤ col ∧ col - 1 ≤ ln.length ∧ v = (st : Int) + (startL k l : Nat) + col - 1
  | [], i, st, v, h => by simp [atFrom] at h
  | x :: r, i, st, v, h => by
    unfold atFrom at h
    split at h
    · rename_i hc
      injection h with h
      exact ⟨0, x, rfl, by omega, hc.1.2, hc.2, by
        show v = (st : Int) + ((0 : Nat) : Int) + col - 1
        omega⟩
    · obtain ⟨k, ln, h1, h2, h3, h4, h5⟩ := atFrom_some line col r (i + 1) (st + x.length + 1) v h
      refine ⟨k + 1, ln, by simpa using h1, by omega, h3, h4, ?_⟩
      show v = (st : Int) + ((x.length + 1 + startL k r : Nat) : Int) + col - 1
      omega

theorem atOf_some {s : ByteArray} {line col v : Int} (h : atOf s line col = some v) : ∃ a : Nat, a ≤ s.size ∧ v = a ∧ lineOf s a = line ∧ colOf s a = col := by
  have hl : s.data.toList.length = s.size := by simp
  obtain ⟨k, ln, h1, h2, h3, h4, h5⟩ := atFrom_some line col _ 0 0 v h
  obtain ⟨p1, p2, p3⟩ := place_of s.data.toList k ln (col - 1).toNat h1 (by omega)
  refine ⟨startL k (lns s.data.toList) + (col - 1).toNat, by omega, by omega, ?_, ?_⟩
  · unfold lineOf; rw [p2]; omega
  · unfold colOf; rw [p3]; omega
theorem atOf_none {s : ByteArray} {line col : Int} (h : ∀ a : Nat, a ≤ s.size → ¬ (lineOf s a = line ∧ colOf s a = col)) : atOf s line col = none := by
  cases hv : atOf s line col with
  | none => rfl
  | some v =>
    obtain ⟨a, h1, _, h3, h4⟩ := atOf_some hv
    exact absurd ⟨h3, h4⟩ (h a h1)
theorem spot_next (s : ByteArray) (a : Nat) (h : a < s.size) : (bt s a = 10 → lineOf s (a + 1) = lineOf s a + 1 ∧ colOf s (a + 1) = 1) ∧ (bt s a ≠ 10 → lineOf s (a + 1) = lineOf s a ∧ colOf s (a + 1) = colOf s a + 1) := by
  have hb := bt_eq s a h
  have hl : (s.data.toList.take a).length = a := by rw [List.length_take]; simp; omega
  unfold lineOf colOf
  rw [take_snoc_bt s a h, List.count_append, cutL_snoc, hl]
  refine ⟨fun hc => ?_, fun hc => ?_⟩
  · have h10 : s[a] = 10 := UInt8.toNat_inj.1 (by rw [hb, hc]; rfl)
    rw [if_pos h10, h10]
    simp; omega
  · have h10 : s[a] ≠ 10 := fun e => hc (by rw [← hb, e]; rfl)
    rw [if_neg h10]
    have : [s[a]].count 10 = 0 := by simp [h10]
    rw [this]
    omega

end Go.Proofs.YtocogbllhmiefaaGreatDoor.Lx
