/- The plain functions of chapter 4's texts. They import nothing of the translation. -/
import Derived.Test.YtoncdnelacolaaaGreatDoorASpecA
import Derived.Lib.ItoaNum
import Derived.Lib.AtoiAll
import Derived.Lib.IndexMore
import Derived.Lib.Join
namespace Go.Proofs.YtoncdnelacolaaaGreatDoor.Ar
open Go

def strB (l : List UInt8) : ByteArray := ⟨l.toArray⟩
theorem strB_toList (l : List UInt8) : (strB l).data.toList = l := rfl
theorem strB_eta (s : ByteArray) : strB s.data.toList = s := by cases s with | mk d => rfl

/-- The sign of a kind. -/
def signL (k : Nat) : List UInt8 := if k = 1 then [63] else if k = 2 then [61] else [33]
def placeT (m : Mv) : List UInt8 := if m.arg = 0 then Lib.itoa m.id else Lib.itoa m.id ++ [46] ++ Lib.itoa m.arg
def valueT (m : Mv) : List UInt8 × Bool :=
  if m.kind = 1 then ([], decide (m.n = 0)) else if m.kind = 3 ∧ m.n = -1 then ([42], true) else (Lib.itoa m.n, decide (0 ≤ m.n))
/-- Has a move a text? -/
def okText (m : Mv) : Bool := !decide (m.id < 0) && !decide (m.arg < 0) && (m.kind == 1 || m.kind == 2 || m.kind == 3) && (valueT m).2
def textL (m : Mv) : List UInt8 := placeT m ++ signL m.kind ++ (valueT m).1

/-- The number that a text says. -/
def numI (l : List UInt8) : Int := match Lib.atoiAll l with
  | .ok v => v
  | .range => Lib.atoiSat l
  | _ => 0
def moveOfL (s : List UInt8) (k : Nat) : Mv :=
  let c := Lib.cut s (signL k)
  let p := Lib.cut c.1 [46]
  ⟨numI p.1, numI p.2.1, k, if c.2.1 = [42] then -1 else numI c.2.1⟩
/-- The move of a kind that a text says. -/
def tryK (s : List UInt8) (k : Nat) : Option Mv := if okText (moveOfL s k) = true ∧ textL (moveOfL s k) = s then some (moveOfL s k) else none

/-- The text of a base type, of a type, of an arena. -/
def baseT (b : Bs) : List UInt8 := if b.cell then [99, 101, 108, 108, 32] ++ Lib.itoa b.n else [105, 110, 116, 32] ++ Lib.itoa b.n
def typeT (t : Ty) : List UInt8 := if t.params = [] then baseT t.result else [40] ++ Lib.join (t.params.map baseT) [44, 32] ++ [41, 32, 45, 62, 32] ++ baseT t.result
def partsT (a : Ar) : List (List UInt8) := [baseT a.root] ++ a.ids.map typeT ++ (if a.jumps then [[106, 117, 109, 112, 115]] else [])
def arenaT (a : Ar) : List UInt8 := Lib.join (partsT a) [59, 32]

end Go.Proofs.YtoncdnelacolaaaGreatDoor.Ar
