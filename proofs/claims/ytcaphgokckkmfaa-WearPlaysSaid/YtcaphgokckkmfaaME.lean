
/- Read, Erase, the counts of the document's own flash, and small: their contracts. -/
import Derived.Test.YtcaphgokckkmfaaMP
import Derived.Test.YtcaphgokckkmfaaLM
namespace Go.Proofs.Ytcaphgokckkmfaa
open Go.RowKit
set_option maxRecDepth 100000
set_option linter.unusedVariables false
variable {w w' : World} {F : List Nat} {b gw cw be : Nat} {lv : Value} {s : FS}

/-- What a read says. -/
def FS.readP (s : FS) (at_ : Int) : Int × Int :=
  if fwithinB 0 ((s.w.length : Int) - 1) at_ then (if s.off then (0, 10) else (s.w.getD at_.toNat 0, 0)) else (0, 2)
def FS.erP (s : FS) (p : Int) : Int := if fwithinB 0 ((s.er.length : Int) - 1) p then s.er.getD p.toNat 0 else 0

def smI (x k : Int) : Int := if k < x then k else x
end Go.Proofs.Ytcaphgokckkmfaa
