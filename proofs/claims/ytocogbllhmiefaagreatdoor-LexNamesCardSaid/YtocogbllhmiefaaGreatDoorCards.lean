/-
  DERIVED. GIVEN WITH THE SEED: THE CARDS: each row of YtocogbllhmiefaaGreatDoorRows.lean that lists a variable, with what it lists TIED to the program's text (the seventh form; the later family's looks); each row that meets fmt, with fmt's text TOLD by the authors' own Lean function (tested against real Go, not proved from fmt's source: count such statements apart). THE CARD IS WHAT COUNTS. Prove the row's statement (the work); the ties are given (YtocogbllhmiefaaGreatDoorTie.lean); close each card by the builder's one call (the guide's Derived/Test/ToyasCard.lean, 'card_holds'). Laid BY PROGRAM, IN A SANDBOX (cutbox-door.mjs). By AI agents, Wed Nov 11 2026. No macro, syntax, notation, axiom, sorry.
-/
import Derived.Test.YtocogbllhmiefaaGreatDoorRows
import GoSem.ClaimSeven
namespace Go.Proofs.YtocogbllhmiefaaGreatDoor
namespace Rows

/-- THE TIED CARD OF 'ripostelaw01.LexSpots'. -/
def lexSpotsCard : Claim7 := { stood := { row := lexSpotsRow, standIns := [], harness := (true, "da46115be19a5dc61835579660c6982e2853f5fc5ad8fd014635bb33d4e43ad9"), looks := true }, kinds := [], alts := [], laidByText := true, laidKinds := [.data, .data, .data, .data, .sentinel, .sentinel, .listed, .data, .pinned], laidTests := true, laidLooks := .later }
def LexSpotsCardSaid : Prop := Claim7.holds Tryz.pinned (.plain (OpenSpec.ofChange lexSpotsSpec)) lexSpotsCard

/-- THE TIED CARD OF 'ripostelaw01.LexTights'. -/
def lexTightsCard : Claim7 := { stood := { row := lexTightsRow, standIns := [], harness := (true, "da46115be19a5dc61835579660c6982e2853f5fc5ad8fd014635bb33d4e43ad9"), looks := true }, kinds := [], alts := [], laidByText := true, laidKinds := [.data, .data, .data, .sentinel, .sentinel, .listed, .data], laidTests := true, laidLooks := .later }
def LexTightsCardSaid : Prop := Claim7.holds Tryz.pinned (.plain (OpenSpec.ofChange lexTightsSpec)) lexTightsCard

/-- THE TIED CARD OF 'ripostelaw01.LexKeeps'. -/
def lexKeepsCard : Claim7 := { stood := { row := lexKeepsRow, standIns := [], harness := (true, "da46115be19a5dc61835579660c6982e2853f5fc5ad8fd014635bb33d4e43ad9"), looks := true }, kinds := [], alts := [], laidByText := true, laidKinds := [.data, .data, .data, .sentinel, .sentinel, .listed, .data], laidTests := true, laidLooks := .later }
def LexKeepsCardSaid : Prop := Claim7.holds Tryz.pinned (.plain (OpenSpec.ofChange lexKeepsSpec)) lexKeepsCard

/-- THE TIED CARD OF 'ripostelaw01.LexNames'. -/
def lexNamesCard : Claim7 := { stood := { row := lexNamesRow, standIns := [], harness := (true, "da46115be19a5dc61835579660c6982e2853f5fc5ad8fd014635bb33d4e43ad9"), looks := true }, kinds := [], alts := [], laidByText := true, laidKinds := [.data, .data, .data, .data, .sentinel, .sentinel, .listed, .data, .pinned], laidTests := true, laidLooks := .later }
def LexNamesCardSaid : Prop := Claim7.holds Tryz.pinned (.plain (OpenSpec.ofChange lexNamesSpec)) lexNamesCard

/-- THE SECOND FORM's CARD OF 'ripostelaw01.LexSpots'. -/
def lexSpotsUptoCard : Claim7 := { stood := { row := lexSpotsUptoRow, standIns := [], harness := (true, "da46115be19a5dc61835579660c6982e2853f5fc5ad8fd014635bb33d4e43ad9"), looks := true }, kinds := [], alts := [], laidByText := true, laidKinds := [.data, .data, .data, .data, .sentinel, .sentinel, .listed, .data, .pinned], laidTests := true, laidLooks := .later }
def LexSpotsUptoCardSaid : Prop := Claim7.holds Tryz.pinned (.plain (OpenSpec.upto lexSpotsSpec)) lexSpotsUptoCard

/-- THE SECOND FORM's CARD OF 'ripostelaw01.LexTights'. -/
def lexTightsUptoCard : Claim7 := { stood := { row := lexTightsUptoRow, standIns := [], harness := (true, "da46115be19a5dc61835579660c6982e2853f5fc5ad8fd014635bb33d4e43ad9"), looks := true }, kinds := [], alts := [], laidByText := true, laidKinds := [.data, .data, .data, .sentinel, .sentinel, .listed, .data], laidTests := true, laidLooks := .later }
def LexTightsUptoCardSaid : Prop := Claim7.holds Tryz.pinned (.plain (OpenSpec.upto lexTightsSpec)) lexTightsUptoCard

/-- THE SECOND FORM's CARD OF 'ripostelaw01.LexKeeps'. -/
def lexKeepsUptoCard : Claim7 := { stood := { row := lexKeepsUptoRow, standIns := [], harness := (true, "da46115be19a5dc61835579660c6982e2853f5fc5ad8fd014635bb33d4e43ad9"), looks := true }, kinds := [], alts := [], laidByText := true, laidKinds := [.data, .data, .data, .sentinel, .sentinel, .listed, .data], laidTests := true, laidLooks := .later }
def LexKeepsUptoCardSaid : Prop := Claim7.holds Tryz.pinned (.plain (OpenSpec.upto lexKeepsSpec)) lexKeepsUptoCard

/-- THE SECOND FORM's CARD OF 'ripostelaw01.LexNames'. -/
def lexNamesUptoCard : Claim7 := { stood := { row := lexNamesUptoRow, standIns := [], harness := (true, "da46115be19a5dc61835579660c6982e2853f5fc5ad8fd014635bb33d4e43ad9"), looks := true }, kinds := [], alts := [], laidByText := true, laidKinds := [.data, .data, .data, .data, .sentinel, .sentinel, .listed, .data, .pinned], laidTests := true, laidLooks := .later }
def LexNamesUptoCardSaid : Prop := Claim7.holds Tryz.pinned (.plain (OpenSpec.upto lexNamesSpec)) lexNamesUptoCard
end Rows
end Go.Proofs.YtocogbllhmiefaaGreatDoor
