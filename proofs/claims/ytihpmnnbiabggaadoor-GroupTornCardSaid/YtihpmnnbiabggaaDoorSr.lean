
/- slot: the document's Right, Words: contracts. No condition but that all are numbers of 64 bits. -/
import Derived.Test.YtihpmnnbiabggaaDoorSw
namespace Go.Proofs.YtihpmnnbiabggaaDoor
open Go.RowKit
set_option maxRecDepth 100000
set_option linter.unusedVariables false

theorem bad_word {l : List Int} {i : Nat} (h : 2 + i < l.length) (hx : ¬ (0 ≤ l.getD (2 + i) 0 ∧ l.getD (2 + i) 0 ≤ 65535)) : rightB l = false := by
  refine Bool.eq_false_iff.2 fun hr => hx ?_
  refine (right_out hr).2.2 _ ?_
  rw [List.mem_iff_getElem?]
  exact ⟨i, by simp [List.getD, h]⟩

/-- s / 65536 and s % 65536 of a number that is none below 0. -/
theorem quo_pos {s : Int} (h : 0 ≤ s) : s.tdiv 65536 = s / 65536 ∧ s.tmod 65536 = s % 65536 := ⟨Int.tdiv_eq_ediv_of_nonneg h, Int.tmod_eq_emod_of_nonneg h⟩

end Go.Proofs.YtihpmnnbiabggaaDoor
