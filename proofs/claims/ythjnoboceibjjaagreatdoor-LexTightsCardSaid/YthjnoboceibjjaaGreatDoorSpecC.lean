/- The plain functions of chapter 1's splices. -/
import Derived.Test.YthjnoboceibjjaaGreatDoorSpecB
namespace Go.Proofs.YthjnoboceibjjaaGreatDoor.Lx

/-- A splice, and one that knows what it does. -/
structure Sp where
  lo : Int
  hi : Int
  text : ByteArray
structure Ed where
  sp : Sp
  old : ByteArray
  place : Int

/-- Are splices right for a text of n bytes, from a place on? -/
def rightFrom (n : Nat) : Int → List Sp → Bool
  | _, [] => true
  | a, x :: r => !(decide (x.lo < a) || (decide (x.hi < x.lo) || decide ((n : Int) < x.hi))) && rightFrom n x.hi r
def right (n : Nat) (l : List Sp) : Bool := rightFrom n 0 l

theorem rightFrom_cons {n : Nat} {a : Int} {x : Sp} {r : List Sp} (h : rightFrom n a (x :: r) = true) : a ≤ x.lo ∧ x.lo ≤ x.hi ∧ x.hi ≤ n ∧ rightFrom n x.hi r = true := by
  simp [rightFrom] at h
  obtain ⟨h1, h2⟩ := h
  exact ⟨by omega, by omega, by omega, h2⟩

/-- How many bytes an edit adds. -/
def grow (x : Ed) : Int := (x.sp.text.size : Int) - (x.old.size : Int)

/-- What splices that are right do to a text, g bytes having been added. -/
def edsFrom (s : ByteArray) : Int → List Sp → List Ed
  | _, [] => []
  | g, x :: r => ⟨x, s.extract x.lo.toNat x.hi.toNat, x.lo + g⟩ :: edsFrom s (g + ((x.text.size : Int) - ((s.extract x.lo.toNat x.hi.toNat).size : Int))) r
def eds (s : ByteArray) (l : List Sp) : List Ed := edsFrom s 0 l

/-- How many bytes splices add, one after the other. -/
def total (l : List Ed) : Int := (l.map grow).foldl (· + ·) 0

/-- The text after edits, from a place on. -/
def editedFrom (s : ByteArray) : Nat → List Ed → List UInt8
  | a, [] => s.data.toList.drop a
  | a, x :: r => (s.data.toList.drop a).take (x.sp.lo.toNat - a) ++ x.sp.text.data.toList ++ editedFrom s x.sp.hi.toNat r
def edited (s : ByteArray) (l : List Ed) : ByteArray := ⟨(editedFrom s 0 l).toArray⟩

/-- The error of splices for a text, or of the text. -/
def splErr (s : ByteArray) (l : List Sp) : Nat :=
  if (textErr s).2 ≠ 0 then (textErr s).2 else if 40 < l.length then 5 else if right s.size l = false then 3
  else if l.any (fun x => (bad x.text).isSome) then 2 else if 2500 < (s.size : Int) + total (eds s l) then 5 else 0

end Go.Proofs.YthjnoboceibjjaaGreatDoor.Lx
