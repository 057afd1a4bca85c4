/-
  DERIVED. GIVEN WITH THE SEED: THE CARDS: each row of YtiabdbeejkadnaaGreatDoorRows.lean that lists a variable, with what it lists TIED to the program's text (the seventh form; the later family's looks); each row that meets fmt, with fmt's text TOLD by the authors' own Lean function (tested against real Go, not proved from fmt's source: count such statements apart). THE CARD IS WHAT COUNTS. Prove the row's statement (the work); the ties are given (YtiabdbeejkadnaaGreatDoorTie.lean); close each card by the builder's one call (the guide's Derived/Test/ToyasCard.lean, 'card_holds'). Laid BY PROGRAM, IN A SANDBOX (cutbox-door.mjs). By AI agents, Wed Nov 11 2026. No macro, syntax, notation, axiom, sorry.
-/
import Derived.Test.YtiabdbeejkadnaaGreatDoorRows
import GoSem.ClaimSeven
namespace Go.Proofs.YtiabdbeejkadnaaGreatDoor
namespace Rows

/-- THE TIED CARD OF 'elevatorlaw.Queues'. -/
def queuesCard : Claim7 := { stood := { row := queuesRow, standIns := [], harness := (true, "db77b5f810fb114d9c068de4c23784d353b465a7495b45f1991ee35968019cc2"), looks := true }, kinds := [], alts := [], goes := true, laidByText := true, laidKinds := [.handle], laidTests := true, laidLooks := .later }
def QueuesCardSaid : Prop := Claim7.holds Tryz.pinned (.plain (OpenSpec.ofChange queuesSpec)) queuesCard

/-- THE TIED CARD OF 'elevatorlaw.Commands'. -/
def commandsCard : Claim7 := { stood := { row := commandsRow, standIns := [], harness := (true, "db77b5f810fb114d9c068de4c23784d353b465a7495b45f1991ee35968019cc2"), looks := true }, kinds := [], alts := [], goes := true, laidByText := true, laidKinds := [.handle], laidTests := true, laidLooks := .later }
def CommandsCardSaid : Prop := Claim7.holds Tryz.pinned (.plain (OpenSpec.ofChange commandsSpec)) commandsCard

/-- THE TIED CARD OF 'elevatorlaw.Answers'. -/
def answersCard : Claim7 := { stood := { row := answersRow, standIns := [], harness := (true, "db77b5f810fb114d9c068de4c23784d353b465a7495b45f1991ee35968019cc2"), looks := true }, kinds := [], alts := [], goes := true, laidByText := true, laidKinds := [.handle], laidTests := true, laidLooks := .later }
def AnswersCardSaid : Prop := Claim7.holds Tryz.pinned (.plain (OpenSpec.ofChange answersSpec)) answersCard

/-- THE TIED CARD OF 'elevatorlaw.Drives'. -/
def drivesCard : Claim7 := { stood := { row := drivesRow, standIns := [], harness := (true, "db77b5f810fb114d9c068de4c23784d353b465a7495b45f1991ee35968019cc2"), looks := true }, kinds := [], alts := [], goes := true, laidByText := true, laidKinds := [.handle], laidTests := true, laidLooks := .later }
def DrivesCardSaid : Prop := Claim7.holds Tryz.pinned (.plain (OpenSpec.ofChange drivesSpec)) drivesCard

/-- THE TIED CARD OF 'elevatorlaw.Crashes'. -/
def crashesCard : Claim7 := { stood := { row := crashesRow, standIns := [], harness := (true, "db77b5f810fb114d9c068de4c23784d353b465a7495b45f1991ee35968019cc2"), looks := true }, kinds := [], alts := [], goes := true, laidByText := true, laidKinds := [.handle], laidTests := true, laidLooks := .later }
def CrashesCardSaid : Prop := Claim7.holds Tryz.pinned (.plain (OpenSpec.ofChange crashesSpec)) crashesCard

/-- THE TIED CARD OF 'elevatorlaw.All'. -/
def allCard : Claim7 := { stood := { row := allRow, standIns := [], harness := (true, "db77b5f810fb114d9c068de4c23784d353b465a7495b45f1991ee35968019cc2"), looks := true }, kinds := [], alts := [], goes := true, laidByText := true, laidKinds := [.handle], laidTests := true, laidLooks := .later }
def AllCardSaid : Prop := Claim7.holds Tryz.pinned (.plain (OpenSpec.ofChange allSpec)) allCard

/-- THE TIED CARD OF 'elevatorkeep.Ordered'. -/
def orderedCard : Claim7 := { stood := { row := orderedRow, standIns := [], harness := (true, "db77b5f810fb114d9c068de4c23784d353b465a7495b45f1991ee35968019cc2"), looks := true }, kinds := [], alts := [], goes := true, laidByText := true, laidKinds := [.handle], laidTests := true, laidLooks := .later }
def OrderedCardSaid : Prop := Claim7.holds Tryz.pinned (.plain (OpenSpec.ofChange orderedSpec)) orderedCard

/-- THE TIED CARD OF 'elevatorkeep.Bounded'. -/
def boundedCard : Claim7 := { stood := { row := boundedRow, standIns := [], harness := (true, "db77b5f810fb114d9c068de4c23784d353b465a7495b45f1991ee35968019cc2"), looks := true }, kinds := [], alts := [], goes := true, laidByText := true, laidKinds := [.handle], laidTests := true, laidLooks := .later }
def BoundedCardSaid : Prop := Claim7.holds Tryz.pinned (.plain (OpenSpec.ofChange boundedSpec)) boundedCard

/-- THE SECOND FORM's CARD OF 'elevatorlaw.Queues'. -/
def queuesUptoCard : Claim7 := { stood := { row := queuesUptoRow, standIns := [], harness := (true, "db77b5f810fb114d9c068de4c23784d353b465a7495b45f1991ee35968019cc2"), looks := true }, kinds := [], alts := [], goes := true, laidByText := true, laidKinds := [.handle], laidTests := true, laidLooks := .later }
def QueuesUptoCardSaid : Prop := Claim7.holds Tryz.pinned (.plain (OpenSpec.upto queuesSpec)) queuesUptoCard

/-- THE SECOND FORM's CARD OF 'elevatorlaw.Commands'. -/
def commandsUptoCard : Claim7 := { stood := { row := commandsUptoRow, standIns := [], harness := (true, "db77b5f810fb114d9c068de4c23784d353b465a7495b45f1991ee35968019cc2"), looks := true }, kinds := [], alts := [], goes := true, laidByText := true, laidKinds := [.handle], laidTests := true, laidLooks := .later }
def CommandsUptoCardSaid : Prop := Claim7.holds Tryz.pinned (.plain (OpenSpec.upto commandsSpec)) commandsUptoCard

/-- THE SECOND FORM's CARD OF 'elevatorlaw.Answers'. -/
def answersUptoCard : Claim7 := { stood := { row := answersUptoRow, standIns := [], harness := (true, "db77b5f810fb114d9c068de4c23784d353b465a7495b45f1991ee35968019cc2"), looks := true }, kinds := [], alts := [], goes := true, laidByText := true, laidKinds := [.handle], laidTests := true, laidLooks := .later }
def AnswersUptoCardSaid : Prop := Claim7.holds Tryz.pinned (.plain (OpenSpec.upto answersSpec)) answersUptoCard

/-- THE SECOND FORM's CARD OF 'elevatorlaw.Drives'. -/
def drivesUptoCard : Claim7 := { stood := { row := drivesUptoRow, standIns := [], harness := (true, "db77b5f810fb114d9c068de4c23784d353b465a7495b45f1991ee35968019cc2"), looks := true }, kinds := [], alts := [], goes := true, laidByText := true, laidKinds := [.handle], laidTests := true, laidLooks := .later }
def DrivesUptoCardSaid : Prop := Claim7.holds Tryz.pinned (.plain (OpenSpec.upto drivesSpec)) drivesUptoCard

/-- THE SECOND FORM's CARD OF 'elevatorlaw.Crashes'. -/
def crashesUptoCard : Claim7 := { stood := { row := crashesUptoRow, standIns := [], harness := (true, "db77b5f810fb114d9c068de4c23784d353b465a7495b45f1991ee35968019cc2"), looks := true }, kinds := [], alts := [], goes := true, laidByText := true, laidKinds := [.handle], laidTests := true, laidLooks := .later }
def CrashesUptoCardSaid : Prop := Claim7.holds Tryz.pinned (.plain (OpenSpec.upto crashesSpec)) crashesUptoCard

/-- THE SECOND FORM's CARD OF 'elevatorlaw.All'. -/
def allUptoCard : Claim7 := { stood := { row := allUptoRow, standIns := [], harness := (true, "db77b5f810fb114d9c068de4c23784d353b465a7495b45f1991ee35968019cc2"), looks := true }, kinds := [], alts := [], goes := true, laidByText := true, laidKinds := [.handle], laidTests := true, laidLooks := .later }
def AllUptoCardSaid : Prop := Claim7.holds Tryz.pinned (.plain (OpenSpec.upto allSpec)) allUptoCard

/-- THE SECOND FORM's CARD OF 'elevatorkeep.Ordered'. -/
def orderedUptoCard : Claim7 := { stood := { row := orderedUptoRow, standIns := [], harness := (true, "db77b5f810fb114d9c068de4c23784d353b465a7495b45f1991ee35968019cc2"), looks := true }, kinds := [], alts := [], goes := true, laidByText := true, laidKinds := [.handle], laidTests := true, laidLooks := .later }
def OrderedUptoCardSaid : Prop := Claim7.holds Tryz.pinned (.plain (OpenSpec.upto orderedSpec)) orderedUptoCard

/-- THE SECOND FORM's CARD OF 'elevatorkeep.Bounded'. -/
def boundedUptoCard : Claim7 := { stood := { row := boundedUptoRow, standIns := [], harness := (true, "db77b5f810fb114d9c068de4c23784d353b465a7495b45f1991ee35968019cc2"), looks := true }, kinds := [], alts := [], goes := true, laidByText := true, laidKinds := [.handle], laidTests := true, laidLooks := .later }
def BoundedUptoCardSaid : Prop := Claim7.holds Tryz.pinned (.plain (OpenSpec.upto boundedSpec)) boundedUptoCard
end Rows
end Go.Proofs.YtiabdbeejkadnaaGreatDoor
