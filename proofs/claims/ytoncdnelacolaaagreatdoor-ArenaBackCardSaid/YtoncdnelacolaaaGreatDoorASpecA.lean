/- The plain functions of chapter 4: arenas, their places and moves. They import nothing of the translation. -/
import Derived.WalkKit
namespace Go.Proofs.YtoncdnelacolaaaGreatDoor.Ar
open Go

structure Bs where
  cell : Bool
  n : Int
structure Ty where
  params : List Bs
  result : Bs
structure Ar where
  ids : List Ty
  root : Bs
  jumps : Bool
structure Mv where
  id : Int
  arg : Int
  kind : Nat
  n : Int
structure Pl where
  base : Bs
  id : Nat
  arg : Nat
  jumps : Bool

/-- The cells of what lies in memory. -/
def bsVals (b : Bs) : List Value := [.bool b.cell, .int .i64 b.n]
def mvVals (m : Mv) : List Value := [.int .i64 m.id, .int .i64 m.arg, .int .u8 (m.kind : Int), .int .i64 m.n]
def plVals (p : Pl) : List Value := [.bool p.base.cell, .int .i64 p.base.n, .int .i64 (p.id : Int), .int .i64 (p.arg : Int), .bool p.jumps]

def badB (b : Bs) : Bool := decide (b.n < 1) || decide (64 < b.n)
def wideT (t : Ty) : Bool := decide (5 < t.params.length)
def badT (t : Ty) : Bool := badB t.result || t.params.any badB || (t.result.cell && decide (0 < t.params.length))
/-- The error of an arena. -/
def checkE (a : Ar) : Nat :=
  if (decide (8 < a.ids.length) || a.ids.any wideT) = true then 5 else if (badB a.root || a.ids.any badT) = true then 4 else 0

def paramsFrom (id : Nat) : Nat → List Bs → List Pl
  | _, [] => []
  | k, b :: r => ⟨b, id, k, true⟩ :: paramsFrom id (k + 1) r
/-- The places of an identifier, or of the term itself. -/
def rowL (a : Ar) (id : Nat) : List Pl :=
  if id = 0 then [⟨a.root, 0, 0, a.jumps⟩] else match a.ids[id - 1]? with
    | none => []
    | some t => ⟨t.result, id, 0, a.jumps || decide (0 < t.params.length)⟩ :: paramsFrom id 1 t.params
def placesL (a : Ar) : List Pl := (List.range (a.ids.length + 1)).flatMap (rowL a)
/-- The place with two numbers. -/
def plAt (a : Ar) (id arg : Int) : Option Pl := if id < 0 ∨ arg < 0 then none else (rowL a id.toNat)[arg.toNat]?

def isId (p : Pl) : Bool := decide (0 < p.id) && p.arg == 0
def askM (p : Pl) : Mv := ⟨p.id, p.arg, 1, 0⟩
def putM (p : Pl) (n : Nat) : Mv := ⟨p.id, p.arg, 2, n⟩
def tellM (p : Pl) (n : Int) : Mv := ⟨p.id, p.arg, 3, n⟩
def putsL (p : Pl) : List Mv := (List.range p.base.n.toNat).map (putM p)
def questP (p : Pl) : List Mv := askM p :: if p.base.cell then putsL p else []
def tellsL (p : Pl) (m : Nat) : List Mv := (List.range m).map fun (n : Nat) => tellM p (n : Int)
def tellP (p : Pl) (m : Nat) : List Mv := (if p.jumps then [tellM p (-1)] else []) ++ tellsL p m
def ansP (p : Pl) : List Mv := tellP p p.base.n.toNat
def movesP (p : Pl) : List Mv := questP p ++ ansP p
def allowP (p q : Pl) : Bool := if isId p then q.id == p.id && decide (0 < q.arg) else isId q

def allM (a : Ar) : List Mv := (placesL a).flatMap movesP
def underM (a : Ar) (p : Pl) : List Mv := ((placesL a).filter (allowP p)).flatMap questP

/-- Is a number one of a place? -/
def isValP (p : Pl) (n : Int) : Bool := decide (0 ≤ n) && decide (n < p.base.n)
/-- Is a move with the numbers of a place one of the place? -/
def hasP (p : Pl) (m : Mv) : Bool :=
  (m.kind == 1 && decide (m.n = 0)) || (m.kind == 2 && p.base.cell && isValP p m.n) || (m.kind == 3 && (isValP p m.n || (p.jumps && decide (m.n = -1))))
/-- The place of a move that is one of an arena's. -/
def placeM (a : Ar) (m : Mv) : Option Pl := match plAt a m.id m.arg with
  | none => none
  | some p => if hasP p m then some p else none

/-- What stands for an identifier. -/
def innerA (a : Ar) (id : Nat) : Option Ar := match a.ids[id - 1]? with
  | none => none
  | some t => some ⟨t.params.map fun b => ⟨[], b⟩, t.result, a.jumps || decide (0 < t.params.length)⟩

def lessM (a b : Mv) : Bool :=
  if a.id ≠ b.id then decide (a.id < b.id) else if a.arg ≠ b.arg then decide (a.arg < b.arg) else if a.kind ≠ b.kind then decide (a.kind < b.kind) else decide (a.n < b.n)

/-- The arena of the examples. -/
def exA : Ar := ⟨[⟨[⟨false, 3⟩, ⟨true, 2⟩], ⟨false, 1⟩⟩, ⟨[], ⟨true, 2⟩⟩], ⟨false, 2⟩, false⟩

theorem paramsFrom_get (id : Nat) : ∀ (l : List Bs) (k j : Nat), (paramsFrom id k l)[j]? = (l[j]?).map fun b => ⟨b, id, k + j, true⟩
  | [], k, j => by simp [paramsFrom]
  | b :: r, k, 0 => by simp [paramsFrom]
  | b :: r, k, j + 1 => by
    rw [paramsFrom, List.getElem?_cons_succ, List.getElem?_cons_succ, paramsFrom_get id r (k + 1) j, show k + 1 + j = k + (j + 1) from by omega]
theorem paramsFrom_length (id : Nat) : ∀ (l : List Bs) (k : Nat), (paramsFrom id k l).length = l.length
  | [], _ => rfl
  | _ :: r, k => by simp [paramsFrom, paramsFrom_length id r]

/-- The place of a term, of an identifier, of a param. -/
theorem plAt_root (a : Ar) : plAt a 0 0 = some ⟨a.root, 0, 0, a.jumps⟩ := by simp [plAt, rowL]
theorem plAt_none_id {a : Ar} {id arg : Int} (h0 : ¬ (id = 0 ∧ arg = 0)) (h : id < 1 ∨ (a.ids.length : Int) < id) : plAt a id arg = none := by
  unfold plAt
  split
  · rfl
  · rename_i hn
    by_cases h1 : id = 0
    · subst h1
      have : arg.toNat ≠ 0 := by omega
      simp [rowL, this]
    · have h2 : id.toNat ≠ 0 := by omega
      have h3 : a.ids[id.toNat - 1]? = none := List.getElem?_eq_none (by omega)
      simp [rowL, h2, h3]
theorem plAt_id {a : Ar} {id : Nat} {t : Ty} (h1 : 1 ≤ id) (ht : a.ids[id - 1]? = some t) : plAt a id 0 = some ⟨t.result, id, 0, a.jumps || decide (0 < t.params.length)⟩ := by
  have h2 : id ≠ 0 := by omega
  have h3 : ¬ (id : Int) < 0 := by omega
  simp [plAt, rowL, h2, ht]
theorem plAt_param {a : Ar} {id arg : Nat} {t : Ty} {b : Bs} (h1 : 1 ≤ id) (h2 : 1 ≤ arg) (ht : a.ids[id - 1]? = some t) (hb : t.params[arg - 1]? = some b) : plAt a id arg = some ⟨b, id, arg, true⟩ := by
  have h3 : id ≠ 0 := by omega
  obtain ⟨k, rfl⟩ : ∃ k, arg = k + 1 := ⟨arg - 1, by omega⟩
  simp at hb
  have e : ((k + 1 : Nat) : Int).toNat = k + 1 := by omega
  have h4 : ¬ ((id : Int) < 0 ∨ ((k + 1 : Nat) : Int) < 0) := by omega
  unfold plAt
  rw [if_neg h4, e]
  simp only [Int.toNat_natCast, rowL, h3, if_false, ht, List.getElem?_cons_succ, paramsFrom_get, hb, Option.map_some]
  congr 2; omega
theorem plAt_none_arg {a : Ar} {id : Nat} {arg : Int} {t : Ty} (h1 : 1 ≤ id) (ht : a.ids[id - 1]? = some t) (h0 : arg ≠ 0) (h : arg < 1 ∨ (t.params.length : Int) < arg) : plAt a id arg = none := by
  have h3 : id ≠ 0 := by omega
  unfold plAt
  split
  · rfl
  · obtain ⟨k, hk⟩ : ∃ k, arg.toNat = k + 1 := ⟨arg.toNat - 1, by omega⟩
    simp only [Int.toNat_natCast, rowL, h3, if_false, ht, hk, List.getElem?_cons_succ, paramsFrom_get]
    rw [List.getElem?_eq_none (by omega)]; rfl
theorem plAt_nums {a : Ar} {id arg : Nat} {p : Pl} (h : plAt a id arg = some p) : p.id = id ∧ p.arg = arg := by
  unfold plAt at h
  split at h
  · cases h
  · unfold rowL at h
    simp only [Int.toNat_natCast] at h
    split at h
    · cases arg with
      | zero => simp at h; subst h; simp_all
      | succ k => simp at h
    · split at h
      · simp at h
      · cases arg with
        | zero => simp at h; subst h; simp
        | succ k =>
          rw [List.getElem?_cons_succ, paramsFrom_get] at h
          rw [Option.map_eq_some_iff] at h
          obtain ⟨b, _, rfl⟩ := h
          exact ⟨rfl, by show 1 + k = k + 1; omega⟩

end Go.Proofs.YtoncdnelacolaaaGreatDoor.Ar
