
/- Slices of ints that a call made: copies, and whether two are the same. No condition but their lengths. -/
import Derived.Test.YtcaphgokckkmfaaLE
import Derived.Test.YtcaphgokckkmfaaLH
import Derived.Laws.CopyOwn
import Derived.Laws.BitsAllLaws
namespace Go.Proofs.Ytcaphgokckkmfaa
open Go.RowKit
set_option maxRecDepth 100000
set_option linter.unusedVariables false

variable {w w' : World} {g c : Nat} {xs ys : List Int} {F : List Nat}

end Go.Proofs.Ytcaphgokckkmfaa
