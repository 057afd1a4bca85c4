/-
  DERIVED. GIVEN WITH THE SEED: THE CARDS: each row of YtiabdbeejkadnabGreatDoorRows.lean that lists a variable, with what it lists TIED to the program's text (the seventh form; the later family's looks); each row that meets fmt, with fmt's text TOLD by the authors' own Lean function (tested against real Go, not proved from fmt's source: count such statements apart). THE CARD IS WHAT COUNTS. Prove the row's statement (the work); the ties are given (YtiabdbeejkadnabGreatDoorTie.lean); close each card by the builder's one call (the guide's Derived/Test/ToyasCard.lean, 'card_holds'). Laid BY PROGRAM, IN A SANDBOX (cutbox-door.mjs). By AI agents, Wed Nov 11 2026. No macro, syntax, notation, axiom, sorry.
-/
import Derived.Test.YtiabdbeejkadnabGreatDoorRows
import GoSem.ClaimSeven
namespace Go.Proofs.YtiabdbeejkadnabGreatDoor
namespace Rows

/-- THE TIED CARD OF 'elevatorkeep.Given'. -/
def givenCard : Claim7 := { stood := { row := givenRow, standIns := [], harness := (true, "ba363dcc8d379961bd2842349daa27202509f0f07c42d5e8c06927fbeaf05d62"), looks := true }, kinds := [], alts := [], goes := true, laidByText := true, laidKinds := [.handle], laidTests := true, laidLooks := .later }
def GivenCardSaid : Prop := Claim7.holds Tryz.pinned (.plain (OpenSpec.ofChange givenSpec)) givenCard

/-- THE TIED CARD OF 'elevatorkeep.Driven'. -/
def drivenCard : Claim7 := { stood := { row := drivenRow, standIns := [], harness := (true, "ba363dcc8d379961bd2842349daa27202509f0f07c42d5e8c06927fbeaf05d62"), looks := true }, kinds := [], alts := [], goes := true, laidByText := true, laidKinds := [.handle], laidTests := true, laidLooks := .later }
def DrivenCardSaid : Prop := Claim7.holds Tryz.pinned (.plain (OpenSpec.ofChange drivenSpec)) drivenCard

/-- THE TIED CARD OF 'elevatorkeep.Kept'. -/
def keptCard : Claim7 := { stood := { row := keptRow, standIns := [], harness := (true, "ba363dcc8d379961bd2842349daa27202509f0f07c42d5e8c06927fbeaf05d62"), looks := true }, kinds := [], alts := [], goes := true, laidByText := true, laidKinds := [.handle], laidTests := true, laidLooks := .later }
def KeptCardSaid : Prop := Claim7.holds Tryz.pinned (.plain (OpenSpec.ofChange keptSpec)) keptCard

/-- THE SECOND FORM's CARD OF 'elevatorkeep.Given'. -/
def givenUptoCard : Claim7 := { stood := { row := givenUptoRow, standIns := [], harness := (true, "ba363dcc8d379961bd2842349daa27202509f0f07c42d5e8c06927fbeaf05d62"), looks := true }, kinds := [], alts := [], goes := true, laidByText := true, laidKinds := [.handle], laidTests := true, laidLooks := .later }
def GivenUptoCardSaid : Prop := Claim7.holds Tryz.pinned (.plain (OpenSpec.upto givenSpec)) givenUptoCard

/-- THE SECOND FORM's CARD OF 'elevatorkeep.Driven'. -/
def drivenUptoCard : Claim7 := { stood := { row := drivenUptoRow, standIns := [], harness := (true, "ba363dcc8d379961bd2842349daa27202509f0f07c42d5e8c06927fbeaf05d62"), looks := true }, kinds := [], alts := [], goes := true, laidByText := true, laidKinds := [.handle], laidTests := true, laidLooks := .later }
def DrivenUptoCardSaid : Prop := Claim7.holds Tryz.pinned (.plain (OpenSpec.upto drivenSpec)) drivenUptoCard

/-- THE SECOND FORM's CARD OF 'elevatorkeep.Kept'. -/
def keptUptoCard : Claim7 := { stood := { row := keptUptoRow, standIns := [], harness := (true, "ba363dcc8d379961bd2842349daa27202509f0f07c42d5e8c06927fbeaf05d62"), looks := true }, kinds := [], alts := [], goes := true, laidByText := true, laidKinds := [.handle], laidTests := true, laidLooks := .later }
def KeptUptoCardSaid : Prop := Claim7.holds Tryz.pinned (.plain (OpenSpec.upto keptSpec)) keptUptoCard
end Rows
end Go.Proofs.YtiabdbeejkadnabGreatDoor
