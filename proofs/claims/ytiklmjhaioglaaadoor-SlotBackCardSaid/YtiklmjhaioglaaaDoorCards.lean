/-
  DERIVED. GIVEN WITH THE SEED: THE CARDS: each row of YtiklmjhaioglaaaDoorRows.lean that lists a variable, with what it lists TIED to the program's text (the seventh form; the later family's looks); each row that meets fmt, with fmt's text TOLD by the authors' own Lean function (tested against real Go, not proved from fmt's source: count such statements apart). THE CARD IS WHAT COUNTS. Prove the row's statement (the work); the ties are given (YtiklmjhaioglaaaDoorTie.lean); close each card by the builder's one call (the guide's Derived/Test/ToyasCard.lean, 'card_holds'). Laid BY PROGRAM, IN A SANDBOX (cutbox-door.mjs). By AI agents, Wed Nov 11 2026. No macro, syntax, notation, axiom, sorry.
-/
import Derived.Test.YtiklmjhaioglaaaDoorRows
import GoSem.ClaimSeven
namespace Go.Proofs.YtiklmjhaioglaaaDoor
namespace Rows

/-- THE TIED CARD OF 'rheostatlaw06.SlotTells'. -/
def slotTellsCard : Claim7 := { stood := { row := slotTellsRow, standIns := [], harness := (true, "7e552801d235c92e8d6a8f0bb78617432bd6cfdf0537e84971fb01576e283057"), looks := false }, kinds := [], alts := [], laidByText := true, laidKinds := [.data], laidTests := true, laidLooks := .later }
def SlotTellsCardSaid : Prop := Claim7.holds Tryd.pinned (.plain (OpenSpec.ofChange slotTellsSpec)) slotTellsCard

/-- THE TIED CARD OF 'rheostatlaw06.SlotReads'. -/
def slotReadsCard : Claim7 := { stood := { row := slotReadsRow, standIns := [], harness := (true, "7e552801d235c92e8d6a8f0bb78617432bd6cfdf0537e84971fb01576e283057"), looks := false }, kinds := [], alts := [], laidByText := true, laidKinds := [.data], laidTests := true, laidLooks := .later }
def SlotReadsCardSaid : Prop := Claim7.holds Tryd.pinned (.plain (OpenSpec.ofChange slotReadsSpec)) slotReadsCard

/-- THE TIED CARD OF 'rheostatlaw06.SlotBack'. -/
def slotBackCard : Claim7 := { stood := { row := slotBackRow, standIns := [], harness := (true, "7e552801d235c92e8d6a8f0bb78617432bd6cfdf0537e84971fb01576e283057"), looks := false }, kinds := [], alts := [], laidByText := true, laidKinds := [.data], laidTests := true, laidLooks := .later }
def SlotBackCardSaid : Prop := Claim7.holds Tryd.pinned (.plain (OpenSpec.ofChange slotBackSpec)) slotBackCard

/-- THE TIED CARD OF 'rheostatlaw06.SlotFirst'. -/
def slotFirstCard : Claim7 := { stood := { row := slotFirstRow, standIns := [], harness := (true, "7e552801d235c92e8d6a8f0bb78617432bd6cfdf0537e84971fb01576e283057"), looks := false }, kinds := [], alts := [], laidByText := true, laidKinds := [.data], laidTests := true, laidLooks := .later }
def SlotFirstCardSaid : Prop := Claim7.holds Tryd.pinned (.plain (OpenSpec.ofChange slotFirstSpec)) slotFirstCard

/-- THE TIED CARD OF 'rheostatlaw06.SlotOther'. -/
def slotOtherCard : Claim7 := { stood := { row := slotOtherRow, standIns := [], harness := (true, "7e552801d235c92e8d6a8f0bb78617432bd6cfdf0537e84971fb01576e283057"), looks := false }, kinds := [], alts := [], laidByText := true, laidKinds := [.data], laidTests := true, laidLooks := .later }
def SlotOtherCardSaid : Prop := Claim7.holds Tryd.pinned (.plain (OpenSpec.ofChange slotOtherSpec)) slotOtherCard

/-- THE SECOND FORM's CARD OF 'rheostatlaw06.SlotTells'. -/
def slotTellsUptoCard : Claim7 := { stood := { row := slotTellsUptoRow, standIns := [], harness := (true, "7e552801d235c92e8d6a8f0bb78617432bd6cfdf0537e84971fb01576e283057"), looks := false }, kinds := [], alts := [], laidByText := true, laidKinds := [.data], laidTests := true, laidLooks := .later }
def SlotTellsUptoCardSaid : Prop := Claim7.holds Tryd.pinned (.plain (OpenSpec.upto slotTellsSpec)) slotTellsUptoCard

/-- THE SECOND FORM's CARD OF 'rheostatlaw06.SlotReads'. -/
def slotReadsUptoCard : Claim7 := { stood := { row := slotReadsUptoRow, standIns := [], harness := (true, "7e552801d235c92e8d6a8f0bb78617432bd6cfdf0537e84971fb01576e283057"), looks := false }, kinds := [], alts := [], laidByText := true, laidKinds := [.data], laidTests := true, laidLooks := .later }
def SlotReadsUptoCardSaid : Prop := Claim7.holds Tryd.pinned (.plain (OpenSpec.upto slotReadsSpec)) slotReadsUptoCard

/-- THE SECOND FORM's CARD OF 'rheostatlaw06.SlotBack'. -/
def slotBackUptoCard : Claim7 := { stood := { row := slotBackUptoRow, standIns := [], harness := (true, "7e552801d235c92e8d6a8f0bb78617432bd6cfdf0537e84971fb01576e283057"), looks := false }, kinds := [], alts := [], laidByText := true, laidKinds := [.data], laidTests := true, laidLooks := .later }
def SlotBackUptoCardSaid : Prop := Claim7.holds Tryd.pinned (.plain (OpenSpec.upto slotBackSpec)) slotBackUptoCard

/-- THE SECOND FORM's CARD OF 'rheostatlaw06.SlotFirst'. -/
def slotFirstUptoCard : Claim7 := { stood := { row := slotFirstUptoRow, standIns := [], harness := (true, "7e552801d235c92e8d6a8f0bb78617432bd6cfdf0537e84971fb01576e283057"), looks := false }, kinds := [], alts := [], laidByText := true, laidKinds := [.data], laidTests := true, laidLooks := .later }
def SlotFirstUptoCardSaid : Prop := Claim7.holds Tryd.pinned (.plain (OpenSpec.upto slotFirstSpec)) slotFirstUptoCard

/-- THE SECOND FORM's CARD OF 'rheostatlaw06.SlotOther'. -/
def slotOtherUptoCard : Claim7 := { stood := { row := slotOtherUptoRow, standIns := [], harness := (true, "7e552801d235c92e8d6a8f0bb78617432bd6cfdf0537e84971fb01576e283057"), looks := false }, kinds := [], alts := [], laidByText := true, laidKinds := [.data], laidTests := true, laidLooks := .later }
def SlotOtherUptoCardSaid : Prop := Claim7.holds Tryd.pinned (.plain (OpenSpec.upto slotOtherSpec)) slotOtherUptoCard
end Rows
end Go.Proofs.YtiklmjhaioglaaaDoor
