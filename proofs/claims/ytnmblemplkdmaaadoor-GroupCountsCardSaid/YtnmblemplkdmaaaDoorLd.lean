
/- The table of the sums, as the program's text lays it. -/
import Derived.Test.YtnmblemplkdmaaaDoorCr
import Derived.Test.YtnmblemplkdmaaaDoorZz
import Derived.Test.YtnmblemplkdmaaaDoorTie
import Derived.LaidMore
import Derived.Stop.Joined
namespace Go.Proofs.YtnmblemplkdmaaaDoor
open Go.ChangeShapes Go.WideShapes Go.ChangeAt Go.RowKit
set_option maxRecDepth 100000

def laidL : List (String × DataW Unit) := [("rheostat/crc.turns", Rows.laid_rheostat_crc_turns)]
theorem gTurns : Tryd.prog.globalNamed "rheostat/crc.turns" = some 0 := by kernel_rfl
theorem tTurns : (Tryd.prog.globals[0]?).map (·.type) = some 110 := by kernel_rfl
theorem cellsTurns : Tryd.prog.cellsOf 110 = 16 := by kernel_rfl

theorem door_met (os : Os) (args : Array Value) : laidMetH Tryd.prog laidL ((World.doorLaid Tryd.prog 400 os).forCall (fun _ _ => 0) ⟨#[], args, []⟩).memory :=
  laidMetH_of_parts3 (fuel := 8) (laidMet_of_run' 8 (by kernel_rfl) (by kernel_rfl)) (by kernel_rfl) (by kernel_rfl)

theorem of_laid {W : World} (h : laidMetH Tryd.prog laidL W) : Turns W := by
  rw [MakeChecks.laidMetH_plain _ _ _ (by kernel_rfl)] at h
  have hT : Lib.TabIs Tryd.prog W "rheostat/crc.turns" .i64 (CM.turnsL.map fun n : Nat => (n : Int)) := Lib.tabIs_of_head gTurns tTurns Tryd.underlying110 Tryd.underlying3 cellsInt cellsTurns h
  intro i hi
  have h1 := hT.cell gTurns i (by simp [CM.turnsL]; omega)
  have h2 : (CM.turnsL.map fun n : Nat => (n : Int)).getD i 0 = ((CM.turnsL.getD i 0 : Nat) : Int) := by
    simp only [List.getD, List.getElem?_map]
    rw [List.getElem?_eq_getElem (by simp [CM.turnsL]; omega)]
    rfl
  rw [h2] at h1
  exact ⟨h1, World.block_lt_of_cell? _ _ h1⟩
end Go.Proofs.YtnmblemplkdmaaaDoor
