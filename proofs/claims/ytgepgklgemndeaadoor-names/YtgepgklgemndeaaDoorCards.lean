/-
  DERIVED. GIVEN WITH THE SEED: THE CARDS: each row of YtgepgklgemndeaaDoorRows.lean that lists a variable, with what it lists TIED to the program's text (the seventh form; the later family's looks); each row that meets fmt, with fmt's text TOLD by the authors' own Lean function (tested against real Go, not proved from fmt's source: count such statements apart). THE CARD IS WHAT COUNTS. Prove the row's statement (the work); the ties are given (YtgepgklgemndeaaDoorTie.lean); close each card by the builder's one call (the guide's Derived/Test/ToyasCard.lean, 'card_holds'). Laid BY PROGRAM, IN A SANDBOX (cutbox-door.mjs). By AI agents, Wed Nov 11 2026. No macro, syntax, notation, axiom, sorry.
-/
import Derived.Test.YtgepgklgemndeaaDoorRows
import GoSem.ClaimSeven
namespace Go.Proofs.YtgepgklgemndeaaDoor
namespace Rows

/-- THE TIED CARD OF 'elevatorlaw.Names'. -/
def namesCard : Claim7 := { stood := { row := namesRow, standIns := [], harness := (true, "d2b5453b7e968dcd49f10572ca7fb2a9ed26f4354f73012ef80360d50e91a493"), looks := true }, kinds := [], alts := [], laidByText := true, laidKinds := [.handle], laidTests := true, laidLooks := .later }
def NamesCardSaid : Prop := Claim7.holds Tryd.pinned (.plain (OpenSpec.ofChange namesSpec)) namesCard

/-- THE TIED CARD OF 'elevatorkeep.Bounded'. -/
def boundedCard : Claim7 := { stood := { row := boundedRow, standIns := [], harness := (true, "d2b5453b7e968dcd49f10572ca7fb2a9ed26f4354f73012ef80360d50e91a493"), looks := true }, kinds := [], alts := [], laidByText := true, laidKinds := [.handle], laidTests := true, laidLooks := .later }
def BoundedCardSaid : Prop := Claim7.holds Tryd.pinned (.plain (OpenSpec.ofChange boundedSpec)) boundedCard

/-- THE SECOND FORM's CARD OF 'elevatorlaw.Names'. -/
def namesUptoCard : Claim7 := { stood := { row := namesUptoRow, standIns := [], harness := (true, "d2b5453b7e968dcd49f10572ca7fb2a9ed26f4354f73012ef80360d50e91a493"), looks := true }, kinds := [], alts := [], laidByText := true, laidKinds := [.handle], laidTests := true, laidLooks := .later }
def NamesUptoCardSaid : Prop := Claim7.holds Tryd.pinned (.plain (OpenSpec.upto namesSpec)) namesUptoCard

/-- THE SECOND FORM's CARD OF 'elevatorkeep.Bounded'. -/
def boundedUptoCard : Claim7 := { stood := { row := boundedUptoRow, standIns := [], harness := (true, "d2b5453b7e968dcd49f10572ca7fb2a9ed26f4354f73012ef80360d50e91a493"), looks := true }, kinds := [], alts := [], laidByText := true, laidKinds := [.handle], laidTests := true, laidLooks := .later }
def BoundedUptoCardSaid : Prop := Claim7.holds Tryd.pinned (.plain (OpenSpec.upto boundedSpec)) boundedUptoCard
end Rows
end Go.Proofs.YtgepgklgemndeaaDoor
