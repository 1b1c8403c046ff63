/-
  DERIVED. GIVEN WITH THE SEED: THE CARDS: each row of YtnmblemplkdmaaaDoorRows.lean that lists a variable, with what it lists TIED to the program's text (the seventh form; the later family's looks); each row that meets fmt, with fmt's text TOLD by the authors' own Lean function (tested against real Go, not proved from fmt's source: count such statements apart). THE CARD IS WHAT COUNTS. Prove the row's statement (the work); the ties are given (YtnmblemplkdmaaaDoorTie.lean); close each card by the builder's one call (the guide's Derived/Test/ToyasCard.lean, 'card_holds'). Laid BY PROGRAM, IN A SANDBOX (cutbox-door.mjs). By AI agents, Wed Nov 11 2026. No macro, syntax, notation, axiom, sorry.
-/
import Derived.Test.YtnmblemplkdmaaaDoorRows
import GoSem.ClaimSeven
namespace Go.Proofs.YtnmblemplkdmaaaDoor
namespace Rows

/-- THE TIED CARD OF 'rheostatlaw07.GroupScans'. -/
def groupScansCard : Claim7 := { stood := { row := groupScansRow, standIns := [], harness := (true, "62e9d96654d5e287f6970e44993e595fdc1b11e3fc04de78fd9c70a5d88bd0b9"), looks := false }, kinds := [], alts := [], laidByText := true, laidKinds := [.data], laidTests := true, laidLooks := .later }
def GroupScansCardSaid : Prop := Claim7.holds Tryd.pinned (.plain (OpenSpec.ofChange groupScansSpec)) groupScansCard

/-- THE TIED CARD OF 'rheostatlaw07.GroupPuts'. -/
def groupPutsCard : Claim7 := { stood := { row := groupPutsRow, standIns := [], harness := (true, "62e9d96654d5e287f6970e44993e595fdc1b11e3fc04de78fd9c70a5d88bd0b9"), looks := false }, kinds := [], alts := [], laidByText := true, laidKinds := [.data], laidTests := true, laidLooks := .later }
def GroupPutsCardSaid : Prop := Claim7.holds Tryd.pinned (.plain (OpenSpec.ofChange groupPutsSpec)) groupPutsCard

/-- THE TIED CARD OF 'rheostatlaw07.GroupCounts'. -/
def groupCountsCard : Claim7 := { stood := { row := groupCountsRow, standIns := [], harness := (true, "62e9d96654d5e287f6970e44993e595fdc1b11e3fc04de78fd9c70a5d88bd0b9"), looks := false }, kinds := [], alts := [], laidByText := true, laidKinds := [.data], laidTests := true, laidLooks := .later }
def GroupCountsCardSaid : Prop := Claim7.holds Tryd.pinned (.plain (OpenSpec.ofChange groupCountsSpec)) groupCountsCard

/-- THE TIED CARD OF 'rheostatlaw07.GroupFronts'. -/
def groupFrontsCard : Claim7 := { stood := { row := groupFrontsRow, standIns := [], harness := (true, "62e9d96654d5e287f6970e44993e595fdc1b11e3fc04de78fd9c70a5d88bd0b9"), looks := false }, kinds := [], alts := [], laidByText := true, laidKinds := [.data], laidTests := true, laidLooks := .later }
def GroupFrontsCardSaid : Prop := Claim7.holds Tryd.pinned (.plain (OpenSpec.ofChange groupFrontsSpec)) groupFrontsCard

/-- THE TIED CARD OF 'rheostatlaw07.GroupTorn'. -/
def groupTornCard : Claim7 := { stood := { row := groupTornRow, standIns := [], harness := (true, "62e9d96654d5e287f6970e44993e595fdc1b11e3fc04de78fd9c70a5d88bd0b9"), looks := false }, kinds := [], alts := [], laidByText := true, laidKinds := [.data], laidTests := true, laidLooks := .later }
def GroupTornCardSaid : Prop := Claim7.holds Tryd.pinned (.plain (OpenSpec.ofChange groupTornSpec)) groupTornCard

/-- THE TIED CARD OF 'rheostatlaw07.GroupFull'. -/
def groupFullCard : Claim7 := { stood := { row := groupFullRow, standIns := [], harness := (true, "62e9d96654d5e287f6970e44993e595fdc1b11e3fc04de78fd9c70a5d88bd0b9"), looks := false }, kinds := [], alts := [], laidByText := true, laidKinds := [.data], laidTests := true, laidLooks := .later }
def GroupFullCardSaid : Prop := Claim7.holds Tryd.pinned (.plain (OpenSpec.ofChange groupFullSpec)) groupFullCard

/-- THE SECOND FORM's CARD OF 'rheostatlaw07.GroupScans'. -/
def groupScansUptoCard : Claim7 := { stood := { row := groupScansUptoRow, standIns := [], harness := (true, "62e9d96654d5e287f6970e44993e595fdc1b11e3fc04de78fd9c70a5d88bd0b9"), looks := false }, kinds := [], alts := [], laidByText := true, laidKinds := [.data], laidTests := true, laidLooks := .later }
def GroupScansUptoCardSaid : Prop := Claim7.holds Tryd.pinned (.plain (OpenSpec.upto groupScansSpec)) groupScansUptoCard

/-- THE SECOND FORM's CARD OF 'rheostatlaw07.GroupPuts'. -/
def groupPutsUptoCard : Claim7 := { stood := { row := groupPutsUptoRow, standIns := [], harness := (true, "62e9d96654d5e287f6970e44993e595fdc1b11e3fc04de78fd9c70a5d88bd0b9"), looks := false }, kinds := [], alts := [], laidByText := true, laidKinds := [.data], laidTests := true, laidLooks := .later }
def GroupPutsUptoCardSaid : Prop := Claim7.holds Tryd.pinned (.plain (OpenSpec.upto groupPutsSpec)) groupPutsUptoCard

/-- THE SECOND FORM's CARD OF 'rheostatlaw07.GroupCounts'. -/
def groupCountsUptoCard : Claim7 := { stood := { row := groupCountsUptoRow, standIns := [], harness := (true, "62e9d96654d5e287f6970e44993e595fdc1b11e3fc04de78fd9c70a5d88bd0b9"), looks := false }, kinds := [], alts := [], laidByText := true, laidKinds := [.data], laidTests := true, laidLooks := .later }
def GroupCountsUptoCardSaid : Prop := Claim7.holds Tryd.pinned (.plain (OpenSpec.upto groupCountsSpec)) groupCountsUptoCard

/-- THE SECOND FORM's CARD OF 'rheostatlaw07.GroupFronts'. -/
def groupFrontsUptoCard : Claim7 := { stood := { row := groupFrontsUptoRow, standIns := [], harness := (true, "62e9d96654d5e287f6970e44993e595fdc1b11e3fc04de78fd9c70a5d88bd0b9"), looks := false }, kinds := [], alts := [], laidByText := true, laidKinds := [.data], laidTests := true, laidLooks := .later }
def GroupFrontsUptoCardSaid : Prop := Claim7.holds Tryd.pinned (.plain (OpenSpec.upto groupFrontsSpec)) groupFrontsUptoCard

/-- THE SECOND FORM's CARD OF 'rheostatlaw07.GroupTorn'. -/
def groupTornUptoCard : Claim7 := { stood := { row := groupTornUptoRow, standIns := [], harness := (true, "62e9d96654d5e287f6970e44993e595fdc1b11e3fc04de78fd9c70a5d88bd0b9"), looks := false }, kinds := [], alts := [], laidByText := true, laidKinds := [.data], laidTests := true, laidLooks := .later }
def GroupTornUptoCardSaid : Prop := Claim7.holds Tryd.pinned (.plain (OpenSpec.upto groupTornSpec)) groupTornUptoCard

/-- THE SECOND FORM's CARD OF 'rheostatlaw07.GroupFull'. -/
def groupFullUptoCard : Claim7 := { stood := { row := groupFullUptoRow, standIns := [], harness := (true, "62e9d96654d5e287f6970e44993e595fdc1b11e3fc04de78fd9c70a5d88bd0b9"), looks := false }, kinds := [], alts := [], laidByText := true, laidKinds := [.data], laidTests := true, laidLooks := .later }
def GroupFullUptoCardSaid : Prop := Claim7.holds Tryd.pinned (.plain (OpenSpec.upto groupFullSpec)) groupFullUptoCard
end Rows
end Go.Proofs.YtnmblemplkdmaaaDoor
