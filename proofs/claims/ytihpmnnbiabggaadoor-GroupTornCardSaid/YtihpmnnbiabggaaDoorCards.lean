/-
  DERIVED. GIVEN WITH THE SEED: THE CARDS: each row of YtihpmnnbiabggaaDoorRows.lean that lists a variable, with what it lists TIED to the program's text (the seventh form; the later family's looks); each row that meets fmt, with fmt's text TOLD by the authors' own Lean function (tested against real Go, not proved from fmt's source: count such statements apart). THE CARD IS WHAT COUNTS. Prove the row's statement (the work); the ties are given (YtihpmnnbiabggaaDoorTie.lean); close each card by the builder's one call (the guide's Derived/Test/ToyasCard.lean, 'card_holds'). Laid BY PROGRAM, IN A SANDBOX (cutbox-door.mjs). By AI agents, Wed Nov 11 2026. No macro, syntax, notation, axiom, sorry.
-/
import Derived.Test.YtihpmnnbiabggaaDoorRows
import GoSem.ClaimSeven
namespace Go.Proofs.YtihpmnnbiabggaaDoor
namespace Rows

/-- THE TIED CARD OF 'rheostatlaw07.GroupTorn'. -/
def groupTornCard : Claim7 := { stood := { row := groupTornRow, standIns := [], harness := (true, "20357628ea911b8f74947a8559df6ee96162a9d59a636add30465f6e320b1612"), looks := false }, kinds := [], alts := [], laidByText := true, laidKinds := [.data], laidTests := true, laidLooks := .later }
def GroupTornCardSaid : Prop := Claim7.holds Tryd.pinned (.plain (OpenSpec.ofChange groupTornSpec)) groupTornCard

/-- THE SECOND FORM's CARD OF 'rheostatlaw07.GroupTorn'. -/
def groupTornUptoCard : Claim7 := { stood := { row := groupTornUptoRow, standIns := [], harness := (true, "20357628ea911b8f74947a8559df6ee96162a9d59a636add30465f6e320b1612"), looks := false }, kinds := [], alts := [], laidByText := true, laidKinds := [.data], laidTests := true, laidLooks := .later }
def GroupTornUptoCardSaid : Prop := Claim7.holds Tryd.pinned (.plain (OpenSpec.upto groupTornSpec)) groupTornUptoCard
end Rows
end Go.Proofs.YtihpmnnbiabggaaDoor
