/-
  DERIVED. GIVEN WITH THE SEED: THE CARDS: each row of YtoncdnelacolaaaGreatDoorRows.lean that lists a variable, with what it lists TIED to the program's text (the seventh form; the later family's looks); each row that meets fmt, with fmt's text TOLD by the authors' own Lean function (tested against real Go, not proved from fmt's source: count such statements apart). THE CARD IS WHAT COUNTS. Prove the row's statement (the work); the ties are given (YtoncdnelacolaaaGreatDoorTie.lean); close each card by the builder's one call (the guide's Derived/Test/ToyasCard.lean, 'card_holds'). Laid BY PROGRAM, IN A SANDBOX (cutbox-door.mjs). By AI agents, Wed Nov 11 2026. No macro, syntax, notation, axiom, sorry.
-/
import Derived.Test.YtoncdnelacolaaaGreatDoorRows
import GoSem.ClaimSeven
namespace Go.Proofs.YtoncdnelacolaaaGreatDoor
namespace Rows

/-- THE TIED CARD OF 'ripostelaw04.ArenaChecks'. -/
def arenaChecksCard : Claim7 := { stood := { row := arenaChecksRow, standIns := [], harness := (true, "6b244a4428e4b1b82701e9de43e250edf17e8e444e32853e89cb868e84fbd397"), looks := true }, kinds := [], alts := [], laidByText := true, laidKinds := [.data, .data, .data, .sentinel, .sentinel], laidTests := true, laidLooks := .later }
def ArenaChecksCardSaid : Prop := Claim7.holds Tryz.pinned (.plain (OpenSpec.ofChange arenaChecksSpec)) arenaChecksCard

/-- THE TIED CARD OF 'ripostelaw04.ArenaMoves'. -/
def arenaMovesCard : Claim7 := { stood := { row := arenaMovesRow, standIns := [], harness := (true, "6b244a4428e4b1b82701e9de43e250edf17e8e444e32853e89cb868e84fbd397"), looks := true }, kinds := [], alts := [], laidByText := true, laidKinds := [.data, .data, .data, .sentinel, .sentinel], laidTests := true, laidLooks := .later }
def ArenaMovesCardSaid : Prop := Claim7.holds Tryz.pinned (.plain (OpenSpec.ofChange arenaMovesSpec)) arenaMovesCard

/-- THE TIED CARD OF 'ripostelaw04.ArenaPlaces'. -/
def arenaPlacesCard : Claim7 := { stood := { row := arenaPlacesRow, standIns := [], harness := (true, "6b244a4428e4b1b82701e9de43e250edf17e8e444e32853e89cb868e84fbd397"), looks := true }, kinds := [], alts := [], laidByText := true, laidKinds := [.data, .data, .data, .sentinel, .sentinel], laidTests := true, laidLooks := .later }
def ArenaPlacesCardSaid : Prop := Claim7.holds Tryz.pinned (.plain (OpenSpec.ofChange arenaPlacesSpec)) arenaPlacesCard

/-- THE TIED CARD OF 'ripostelaw04.ArenaAdds'. -/
def arenaAddsCard : Claim7 := { stood := { row := arenaAddsRow, standIns := [], harness := (true, "6b244a4428e4b1b82701e9de43e250edf17e8e444e32853e89cb868e84fbd397"), looks := true }, kinds := [], alts := [], laidByText := true, laidKinds := [.data, .data, .data, .sentinel, .sentinel], laidTests := true, laidLooks := .later }
def ArenaAddsCardSaid : Prop := Claim7.holds Tryz.pinned (.plain (OpenSpec.ofChange arenaAddsSpec)) arenaAddsCard

/-- THE TIED CARD OF 'ripostelaw04.ArenaTexts'. -/
def arenaTextsCard : Claim7 := { stood := { row := arenaTextsRow, standIns := [], harness := (true, "6b244a4428e4b1b82701e9de43e250edf17e8e444e32853e89cb868e84fbd397"), looks := true }, kinds := [], alts := [], laidByText := true, laidKinds := [.data, .data, .data, .sentinel, .sentinel], laidTests := true, laidLooks := .later }
def ArenaTextsCardSaid : Prop := Claim7.holds Tryz.pinned (.plain (OpenSpec.ofChange arenaTextsSpec)) arenaTextsCard

/-- THE TIED CARD OF 'ripostelaw04.ArenaReads'. -/
def arenaReadsCard : Claim7 := { stood := { row := arenaReadsRow, standIns := [], harness := (true, "6b244a4428e4b1b82701e9de43e250edf17e8e444e32853e89cb868e84fbd397"), looks := true }, kinds := [], alts := [], laidByText := true, laidKinds := [.data, .data, .data, .data, .sentinel, .sentinel, .pinned], laidTests := true, laidLooks := .later }
def ArenaReadsCardSaid : Prop := Claim7.holds Tryz.pinned (.plain (OpenSpec.ofChange arenaReadsSpec)) arenaReadsCard

/-- THE TIED CARD OF 'ripostelaw04.ArenaLess'. -/
def arenaLessCard : Claim7 := { stood := { row := arenaLessRow, standIns := [], harness := (true, "6b244a4428e4b1b82701e9de43e250edf17e8e444e32853e89cb868e84fbd397"), looks := true }, kinds := [], alts := [], laidByText := true, laidKinds := [.data, .data, .data, .sentinel, .sentinel], laidTests := true, laidLooks := .later }
def ArenaLessCardSaid : Prop := Claim7.holds Tryz.pinned (.plain (OpenSpec.ofChange arenaLessSpec)) arenaLessCard

/-- THE TIED CARD OF 'ripostelaw04.ArenaNames'. -/
def arenaNamesCard : Claim7 := { stood := { row := arenaNamesRow, standIns := [], harness := (true, "6b244a4428e4b1b82701e9de43e250edf17e8e444e32853e89cb868e84fbd397"), looks := true }, kinds := [], alts := [], laidByText := true, laidKinds := [.data, .data, .data, .data, .sentinel, .sentinel, .pinned], laidTests := true, laidLooks := .later }
def ArenaNamesCardSaid : Prop := Claim7.holds Tryz.pinned (.plain (OpenSpec.ofChange arenaNamesSpec)) arenaNamesCard

/-- THE TIED CARD OF 'ripostelaw04.ArenaSides'. -/
def arenaSidesCard : Claim7 := { stood := { row := arenaSidesRow, standIns := [], harness := (true, "6b244a4428e4b1b82701e9de43e250edf17e8e444e32853e89cb868e84fbd397"), looks := true }, kinds := [], alts := [], laidByText := true, laidKinds := [.data, .data, .data, .sentinel, .sentinel], laidTests := true, laidLooks := .later }
def ArenaSidesCardSaid : Prop := Claim7.holds Tryz.pinned (.plain (OpenSpec.ofChange arenaSidesSpec)) arenaSidesCard

/-- THE TIED CARD OF 'ripostelaw04.ArenaAll'. -/
def arenaAllCard : Claim7 := { stood := { row := arenaAllRow, standIns := [], harness := (true, "6b244a4428e4b1b82701e9de43e250edf17e8e444e32853e89cb868e84fbd397"), looks := true }, kinds := [], alts := [], laidByText := true, laidKinds := [.data, .data, .data, .sentinel, .sentinel], laidTests := true, laidLooks := .later }
def ArenaAllCardSaid : Prop := Claim7.holds Tryz.pinned (.plain (OpenSpec.ofChange arenaAllSpec)) arenaAllCard

/-- THE TIED CARD OF 'ripostelaw04.ArenaOrder'. -/
def arenaOrderCard : Claim7 := { stood := { row := arenaOrderRow, standIns := [], harness := (true, "6b244a4428e4b1b82701e9de43e250edf17e8e444e32853e89cb868e84fbd397"), looks := true }, kinds := [], alts := [], laidByText := true, laidKinds := [.data, .data, .data, .sentinel, .sentinel], laidTests := true, laidLooks := .later }
def ArenaOrderCardSaid : Prop := Claim7.holds Tryz.pinned (.plain (OpenSpec.ofChange arenaOrderSpec)) arenaOrderCard

/-- THE TIED CARD OF 'ripostelaw04.ArenaInside'. -/
def arenaInsideCard : Claim7 := { stood := { row := arenaInsideRow, standIns := [], harness := (true, "6b244a4428e4b1b82701e9de43e250edf17e8e444e32853e89cb868e84fbd397"), looks := true }, kinds := [], alts := [], laidByText := true, laidKinds := [.data, .data, .data, .sentinel, .sentinel], laidTests := true, laidLooks := .later }
def ArenaInsideCardSaid : Prop := Claim7.holds Tryz.pinned (.plain (OpenSpec.ofChange arenaInsideSpec)) arenaInsideCard

/-- THE TIED CARD OF 'ripostelaw04.ArenaBack'. -/
def arenaBackCard : Claim7 := { stood := { row := arenaBackRow, standIns := [], harness := (true, "6b244a4428e4b1b82701e9de43e250edf17e8e444e32853e89cb868e84fbd397"), looks := true }, kinds := [], alts := [], laidByText := true, laidKinds := [.data, .data, .data, .data, .sentinel, .sentinel, .pinned], laidTests := true, laidLooks := .later }
def ArenaBackCardSaid : Prop := Claim7.holds Tryz.pinned (.plain (OpenSpec.ofChange arenaBackSpec)) arenaBackCard

/-- THE SECOND FORM's CARD OF 'ripostelaw04.ArenaChecks'. -/
def arenaChecksUptoCard : Claim7 := { stood := { row := arenaChecksUptoRow, standIns := [], harness := (true, "6b244a4428e4b1b82701e9de43e250edf17e8e444e32853e89cb868e84fbd397"), looks := true }, kinds := [], alts := [], laidByText := true, laidKinds := [.data, .data, .data, .sentinel, .sentinel], laidTests := true, laidLooks := .later }
def ArenaChecksUptoCardSaid : Prop := Claim7.holds Tryz.pinned (.plain (OpenSpec.upto arenaChecksSpec)) arenaChecksUptoCard

/-- THE SECOND FORM's CARD OF 'ripostelaw04.ArenaMoves'. -/
def arenaMovesUptoCard : Claim7 := { stood := { row := arenaMovesUptoRow, standIns := [], harness := (true, "6b244a4428e4b1b82701e9de43e250edf17e8e444e32853e89cb868e84fbd397"), looks := true }, kinds := [], alts := [], laidByText := true, laidKinds := [.data, .data, .data, .sentinel, .sentinel], laidTests := true, laidLooks := .later }
def ArenaMovesUptoCardSaid : Prop := Claim7.holds Tryz.pinned (.plain (OpenSpec.upto arenaMovesSpec)) arenaMovesUptoCard

/-- THE SECOND FORM's CARD OF 'ripostelaw04.ArenaPlaces'. -/
def arenaPlacesUptoCard : Claim7 := { stood := { row := arenaPlacesUptoRow, standIns := [], harness := (true, "6b244a4428e4b1b82701e9de43e250edf17e8e444e32853e89cb868e84fbd397"), looks := true }, kinds := [], alts := [], laidByText := true, laidKinds := [.data, .data, .data, .sentinel, .sentinel], laidTests := true, laidLooks := .later }
def ArenaPlacesUptoCardSaid : Prop := Claim7.holds Tryz.pinned (.plain (OpenSpec.upto arenaPlacesSpec)) arenaPlacesUptoCard

/-- THE SECOND FORM's CARD OF 'ripostelaw04.ArenaAdds'. -/
def arenaAddsUptoCard : Claim7 := { stood := { row := arenaAddsUptoRow, standIns := [], harness := (true, "6b244a4428e4b1b82701e9de43e250edf17e8e444e32853e89cb868e84fbd397"), looks := true }, kinds := [], alts := [], laidByText := true, laidKinds := [.data, .data, .data, .sentinel, .sentinel], laidTests := true, laidLooks := .later }
def ArenaAddsUptoCardSaid : Prop := Claim7.holds Tryz.pinned (.plain (OpenSpec.upto arenaAddsSpec)) arenaAddsUptoCard

/-- THE SECOND FORM's CARD OF 'ripostelaw04.ArenaTexts'. -/
def arenaTextsUptoCard : Claim7 := { stood := { row := arenaTextsUptoRow, standIns := [], harness := (true, "6b244a4428e4b1b82701e9de43e250edf17e8e444e32853e89cb868e84fbd397"), looks := true }, kinds := [], alts := [], laidByText := true, laidKinds := [.data, .data, .data, .sentinel, .sentinel], laidTests := true, laidLooks := .later }
def ArenaTextsUptoCardSaid : Prop := Claim7.holds Tryz.pinned (.plain (OpenSpec.upto arenaTextsSpec)) arenaTextsUptoCard

/-- THE SECOND FORM's CARD OF 'ripostelaw04.ArenaReads'. -/
def arenaReadsUptoCard : Claim7 := { stood := { row := arenaReadsUptoRow, standIns := [], harness := (true, "6b244a4428e4b1b82701e9de43e250edf17e8e444e32853e89cb868e84fbd397"), looks := true }, kinds := [], alts := [], laidByText := true, laidKinds := [.data, .data, .data, .data, .sentinel, .sentinel, .pinned], laidTests := true, laidLooks := .later }
def ArenaReadsUptoCardSaid : Prop := Claim7.holds Tryz.pinned (.plain (OpenSpec.upto arenaReadsSpec)) arenaReadsUptoCard

/-- THE SECOND FORM's CARD OF 'ripostelaw04.ArenaLess'. -/
def arenaLessUptoCard : Claim7 := { stood := { row := arenaLessUptoRow, standIns := [], harness := (true, "6b244a4428e4b1b82701e9de43e250edf17e8e444e32853e89cb868e84fbd397"), looks := true }, kinds := [], alts := [], laidByText := true, laidKinds := [.data, .data, .data, .sentinel, .sentinel], laidTests := true, laidLooks := .later }
def ArenaLessUptoCardSaid : Prop := Claim7.holds Tryz.pinned (.plain (OpenSpec.upto arenaLessSpec)) arenaLessUptoCard

/-- THE SECOND FORM's CARD OF 'ripostelaw04.ArenaNames'. -/
def arenaNamesUptoCard : Claim7 := { stood := { row := arenaNamesUptoRow, standIns := [], harness := (true, "6b244a4428e4b1b82701e9de43e250edf17e8e444e32853e89cb868e84fbd397"), looks := true }, kinds := [], alts := [], laidByText := true, laidKinds := [.data, .data, .data, .data, .sentinel, .sentinel, .pinned], laidTests := true, laidLooks := .later }
def ArenaNamesUptoCardSaid : Prop := Claim7.holds Tryz.pinned (.plain (OpenSpec.upto arenaNamesSpec)) arenaNamesUptoCard

/-- THE SECOND FORM's CARD OF 'ripostelaw04.ArenaSides'. -/
def arenaSidesUptoCard : Claim7 := { stood := { row := arenaSidesUptoRow, standIns := [], harness := (true, "6b244a4428e4b1b82701e9de43e250edf17e8e444e32853e89cb868e84fbd397"), looks := true }, kinds := [], alts := [], laidByText := true, laidKinds := [.data, .data, .data, .sentinel, .sentinel], laidTests := true, laidLooks := .later }
def ArenaSidesUptoCardSaid : Prop := Claim7.holds Tryz.pinned (.plain (OpenSpec.upto arenaSidesSpec)) arenaSidesUptoCard

/-- THE SECOND FORM's CARD OF 'ripostelaw04.ArenaAll'. -/
def arenaAllUptoCard : Claim7 := { stood := { row := arenaAllUptoRow, standIns := [], harness := (true, "6b244a4428e4b1b82701e9de43e250edf17e8e444e32853e89cb868e84fbd397"), looks := true }, kinds := [], alts := [], laidByText := true, laidKinds := [.data, .data, .data, .sentinel, .sentinel], laidTests := true, laidLooks := .later }
def ArenaAllUptoCardSaid : Prop := Claim7.holds Tryz.pinned (.plain (OpenSpec.upto arenaAllSpec)) arenaAllUptoCard

/-- THE SECOND FORM's CARD OF 'ripostelaw04.ArenaOrder'. -/
def arenaOrderUptoCard : Claim7 := { stood := { row := arenaOrderUptoRow, standIns := [], harness := (true, "6b244a4428e4b1b82701e9de43e250edf17e8e444e32853e89cb868e84fbd397"), looks := true }, kinds := [], alts := [], laidByText := true, laidKinds := [.data, .data, .data, .sentinel, .sentinel], laidTests := true, laidLooks := .later }
def ArenaOrderUptoCardSaid : Prop := Claim7.holds Tryz.pinned (.plain (OpenSpec.upto arenaOrderSpec)) arenaOrderUptoCard

/-- THE SECOND FORM's CARD OF 'ripostelaw04.ArenaInside'. -/
def arenaInsideUptoCard : Claim7 := { stood := { row := arenaInsideUptoRow, standIns := [], harness := (true, "6b244a4428e4b1b82701e9de43e250edf17e8e444e32853e89cb868e84fbd397"), looks := true }, kinds := [], alts := [], laidByText := true, laidKinds := [.data, .data, .data, .sentinel, .sentinel], laidTests := true, laidLooks := .later }
def ArenaInsideUptoCardSaid : Prop := Claim7.holds Tryz.pinned (.plain (OpenSpec.upto arenaInsideSpec)) arenaInsideUptoCard

/-- THE SECOND FORM's CARD OF 'ripostelaw04.ArenaBack'. -/
def arenaBackUptoCard : Claim7 := { stood := { row := arenaBackUptoRow, standIns := [], harness := (true, "6b244a4428e4b1b82701e9de43e250edf17e8e444e32853e89cb868e84fbd397"), looks := true }, kinds := [], alts := [], laidByText := true, laidKinds := [.data, .data, .data, .data, .sentinel, .sentinel, .pinned], laidTests := true, laidLooks := .later }
def ArenaBackUptoCardSaid : Prop := Claim7.holds Tryz.pinned (.plain (OpenSpec.upto arenaBackSpec)) arenaBackUptoCard
end Rows
end Go.Proofs.YtoncdnelacolaaaGreatDoor
