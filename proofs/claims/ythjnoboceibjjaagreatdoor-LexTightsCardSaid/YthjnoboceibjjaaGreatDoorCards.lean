/-
  DERIVED. GIVEN WITH THE SEED: THE CARDS: each row of YthjnoboceibjjaaGreatDoorRows.lean that lists a variable, with what it lists TIED to the program's text (the seventh form; the later family's looks); each row that meets fmt, with fmt's text TOLD by the authors' own Lean function (tested against real Go, not proved from fmt's source: count such statements apart). THE CARD IS WHAT COUNTS. Prove the row's statement (the work); the ties are given (YthjnoboceibjjaaGreatDoorTie.lean); close each card by the builder's one call (the guide's Derived/Test/ToyasCard.lean, 'card_holds'). Laid BY PROGRAM, IN A SANDBOX (cutbox-door.mjs). By AI agents, Wed Nov 11 2026. No macro, syntax, notation, axiom, sorry.
-/
import Derived.Test.YthjnoboceibjjaaGreatDoorRows
import GoSem.ClaimSeven
namespace Go.Proofs.YthjnoboceibjjaaGreatDoor
namespace Rows

/-- THE TIED CARD OF 'ripostelaw01.LexTights'. -/
def lexTightsCard : Claim7 := { stood := { row := lexTightsRow, standIns := [], harness := (true, "966f1e84e9575b95c8b83ced663b83c22b75f94c2f1fc9635abe8ff789982d5a"), looks := true }, kinds := [], alts := [], laidByText := true, laidKinds := [.data, .data, .data, .sentinel, .sentinel, .listed, .data], laidTests := true, laidLooks := .later }
def LexTightsCardSaid : Prop := Claim7.holds Tryz.pinned (.plain (OpenSpec.ofChange lexTightsSpec)) lexTightsCard

/-- THE SECOND FORM's CARD OF 'ripostelaw01.LexTights'. -/
def lexTightsUptoCard : Claim7 := { stood := { row := lexTightsUptoRow, standIns := [], harness := (true, "966f1e84e9575b95c8b83ced663b83c22b75f94c2f1fc9635abe8ff789982d5a"), looks := true }, kinds := [], alts := [], laidByText := true, laidKinds := [.data, .data, .data, .sentinel, .sentinel, .listed, .data], laidTests := true, laidLooks := .later }
def LexTightsUptoCardSaid : Prop := Claim7.holds Tryz.pinned (.plain (OpenSpec.upto lexTightsSpec)) lexTightsUptoCard
end Rows
end Go.Proofs.YthjnoboceibjjaaGreatDoor
