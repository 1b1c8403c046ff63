
/- Are two lists of ints the same: the contract. -/
import Derived.Test.YtihpmnnbiabggaaDoorAp
namespace Go.Proofs.YtihpmnnbiabggaaDoor
open Go.RowKit
set_option maxRecDepth 100000
set_option linter.unusedVariables false
variable {w w' : World} {g c : Nat} {xs ys : List Int} {F : List Nat}

end Go.Proofs.YtihpmnnbiabggaaDoor
