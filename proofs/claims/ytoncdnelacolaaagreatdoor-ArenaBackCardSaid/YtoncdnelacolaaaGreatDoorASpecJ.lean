/- How long the texts of arenas are; the text after some types, or some params. -/
import Derived.Test.YtoncdnelacolaaaGreatDoorASpecB
import Derived.Test.YtoncdnelacolaaaGreatDoorASpecC
import Derived.Lib.ItoaLen
namespace Go.Proofs.YtoncdnelacolaaaGreatDoor.Ar
open Go

theorem join_snoc (xs : List (List UInt8)) (sep y : List UInt8) : Lib.join (xs ++ [y]) sep = if xs = [] then y else Lib.join xs sep ++ sep ++ y := by
  cases xs with
  | nil => rw [if_pos rfl, List.nil_append, Lib.join_one]
  | cons x r =>
    rw [if_neg (by simp), List.cons_append, Lib.join_cons, Lib.join_cons]
    simp [Lib.joinTail, List.append_assoc]
theorem lens_le (c : Nat) : ∀ xs : List (List UInt8), (∀ x ∈ xs, x.length ≤ c) → Lib.lens xs ≤ xs.length * c
  | [], _ => by simp [Lib.lens]
  | x :: r, h => by
    have h1 := lens_le c r (fun y hy => h y (List.mem_cons_of_mem _ hy))
    have h2 := h x List.mem_cons_self
    simp only [Lib.lens, List.map_cons, List.sum_cons, List.length_cons] at h1 ⊢
    rw [Nat.succ_mul]; omega
theorem join_le (c : Nat) (xs : List (List UInt8)) (sep : List UInt8) (h : ∀ x ∈ xs, x.length ≤ c) : (Lib.join xs sep).length ≤ xs.length * (c + sep.length) := by
  cases xs with
  | nil => simp [Lib.join_nil]
  | cons x r =>
    have h1 := lens_le c (x :: r) h
    rw [Lib.join_length, Nat.mul_add, List.length_cons] at *
    have h2 : sep.length * r.length ≤ (r.length + 1) * sep.length := by rw [Nat.mul_comm]; exact Nat.mul_le_mul_right _ (by omega)
    omega
/-- A base type whose number a machine has. -/
def BsOk (b : Bs) : Prop := -9223372036854775808 ≤ b.n ∧ b.n ≤ 9223372036854775807
def TyOk (t : Ty) : Prop := BsOk t.result ∧ (∀ b ∈ t.params, BsOk b) ∧ t.params.length ≤ 1000
theorem bsOk_right {b : Bs} (h : badB b = false) : BsOk b := by obtain ⟨N, h1, h2, h3⟩ := badB_n h; unfold BsOk; omega
theorem tyOk_right {a : Ar} (h : Right a) {t : Ty} (ht : t ∈ a.ids) : TyOk t := by
  obtain ⟨h1, h2⟩ := badT_parts (h.types t ht)
  have := h.params t ht
  exact ⟨bsOk_right h1, fun b hb => bsOk_right (h2 b hb), by omega⟩
theorem baseT_len {b : Bs} (h : BsOk b) : (baseT b).length ≤ 26 := by
  have := Lib.itoa_length_le b.n h.1 h.2
  unfold baseT
  split <;> simp <;> omega
/-- The text of a type after some params. -/
def tyW (t : Ty) (k : Nat) : List UInt8 := [40] ++ Lib.join ((t.params.take k).map baseT) [44, 32]
theorem tyW_zero (t : Ty) : tyW t 0 = [40] := by unfold tyW; rw [List.take_zero]; rfl
theorem tyW_succ {t : Ty} {k : Nat} {b : Bs} (h : t.params[k]? = some b) : tyW t (k + 1) = (if k = 0 then tyW t k else tyW t k ++ [44, 32]) ++ baseT b := by
  have hk := (List.getElem?_eq_some_iff.1 h).1
  unfold tyW
  rw [List.take_add_one, h, List.map_append]
  show [40] ++ Lib.join (((t.params.take k).map baseT) ++ [baseT b]) [44, 32] = _
  rw [join_snoc]
  by_cases h0 : k = 0
  · subst h0
    simp [Lib.join_nil]
  · rw [if_neg h0, if_neg (by
      intro e
      have e2 := congrArg List.length e
      rw [List.length_map, List.length_take, List.length_nil] at e2
      omega)]
    simp only [List.append_assoc]
theorem tyW_len {t : Ty} (h : TyOk t) (k : Nat) : (tyW t k).length ≤ 30000 := by
  unfold tyW
  have := join_le 26 ((t.params.take k).map baseT) [44, 32] (fun x hx => by
    obtain ⟨b, hb, rfl⟩ := List.mem_map.1 hx
    exact baseT_len (h.2.1 b (List.mem_of_mem_take hb)))
  have h2 : ((t.params.take k).map baseT).length ≤ 1000 := by rw [List.length_map, List.length_take]; have := h.2.2; omega
  rw [List.length_append, show ([44, 32] : List UInt8).length = 2 from rfl] at *
  have h3 := Nat.mul_le_mul_right (26 + 2) h2
  simp only [List.length_cons, List.length_nil]
  omega
theorem typeT_some {t : Ty} (h : t.params ≠ []) : typeT t = tyW t t.params.length ++ [41, 32, 45, 62, 32] ++ baseT t.result := by
  unfold typeT tyW
  rw [if_neg h, List.take_length]
theorem typeT_len {t : Ty} (h : TyOk t) : (typeT t).length ≤ 30100 := by
  have h1 := baseT_len h.1
  have h2 := tyW_len h t.params.length
  by_cases h0 : t.params = []
  · unfold typeT; rw [if_pos h0]; omega
  · rw [typeT_some h0]; simp; omega
/-- The text of an arena after some types. -/
def arW (a : Ar) (k : Nat) : List UInt8 := Lib.join ([baseT a.root] ++ (a.ids.take k).map typeT) [59, 32]
theorem arW_zero (a : Ar) : arW a 0 = baseT a.root := by unfold arW; rw [List.take_zero]; exact Lib.join_one _ _
theorem arW_succ {a : Ar} {k : Nat} {t : Ty} (h : a.ids[k]? = some t) : arW a (k + 1) = arW a k ++ ([59, 32] ++ typeT t) := by
  unfold arW
  rw [List.take_add_one, h, List.map_append]
  show Lib.join ([baseT a.root] ++ (((a.ids.take k).map typeT) ++ [typeT t])) [59, 32] = _
  rw [← List.append_assoc, join_snoc, if_neg (by simp), List.append_assoc]
theorem arW_all (a : Ar) : arenaT a = arW a a.ids.length ++ (if a.jumps then [59, 32, 106, 117, 109, 112, 115] else []) := by
  unfold arenaT arW partsT
  rw [List.take_length]
  cases a.jumps
  · simp
  · simp only [if_true]
    rw [join_snoc, if_neg (by simp), List.append_assoc]
    rfl
theorem arW_len {a : Ar} (h : Right a) (k : Nat) : (arW a k).length ≤ 300000 := by
  unfold arW
  have := join_le 30100 ([baseT a.root] ++ (a.ids.take k).map typeT) [59, 32] (fun x hx => by
    rcases List.mem_append.1 hx with h1 | h1
    · simp at h1; subst h1; have := baseT_len (bsOk_right h.root); omega
    · obtain ⟨t, ht, rfl⟩ := List.mem_map.1 h1
      exact typeT_len (tyOk_right h (List.mem_of_mem_take ht)))
  have h2 : ([baseT a.root] ++ (a.ids.take k).map typeT).length ≤ 9 := by simp; have := h.ids; omega
  rw [show ([59, 32] : List UInt8).length = 2 from rfl] at this
  have h3 := Nat.mul_le_mul_right (30100 + 2) h2
  omega
theorem arenaT_len {a : Ar} (h : Right a) : (arenaT a).length ≤ 300100 := by
  rw [arW_all, List.length_append]
  have := arW_len h a.ids.length
  split <;> simp <;> omega

end Go.Proofs.YtoncdnelacolaaaGreatDoor.Ar
