
/- group: the document's Put: the contract. No condition but lengths, and that all are numbers of 64 bits. -/
import Derived.Test.YtihpmnnbiabggaaDoorRo
import Derived.Test.YtihpmnnbiabggaaDoorRm
import Derived.Test.YtihpmnnbiabggaaDoorIn
namespace Go.Proofs.YtihpmnnbiabggaaDoor
open Go.RowKit Go.Shelf
set_option linter.unusedVariables false
set_option linter.unusedSimpArgs false
set_option maxRecDepth 100000

theorem fndV_free {f : Fnd} (hl : f.live.length = 44) : (fndV f)[47]? = some (.int .i64 (f.free : Int)) := by
  have h : (fndC f)[47]? = some (.int .i64 (f.free : Int)) := by
    unfold fndC
    rw [List.getElem?_cons_succ, List.getElem?_cons_succ, List.getElem?_append_right (by simp [hl])]
    simp [hl]
  simpa [fndV] using h
section
variable {ops : Array Oper} {rest : List Oper} {o : Oper} {a : Act} {w : World} {Q : Exit → Act → World → Prop}
end

/-- The last Kind ahead of a record; whether the records up to it may be put. -/
def lastK (rs : List (List Int)) (i : Nat) : Int := if i = 0 then -1 else (rs.getD (i - 1) []).getD 0 0

end Go.Proofs.YtihpmnnbiabggaaDoor
