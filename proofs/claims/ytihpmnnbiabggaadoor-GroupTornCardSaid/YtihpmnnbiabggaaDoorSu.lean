
/- slot: the statements' own fixed whole (works). No condition but the table of the sums. -/
import Derived.Test.YtihpmnnbiabggaaDoorSz
namespace Go.Proofs.YtihpmnnbiabggaaDoor
open Go.RowKit
set_option maxRecDepth 100000
set_option linter.unusedVariables false

def exL : List Int := 1 :: 65537 :: zer 11
theorem ex_right : rightB exL = true := by decide
theorem ex_64 : ∀ x ∈ exL, I64 x := by
  intro x hx
  simp only [exL, zer, List.mem_cons, List.mem_replicate] at hx
  unfold I64
  omega
theorem ex_read : readR (wordsL exL) = (0, exL) := read_words rfl ex_right
theorem ex_words : (wordsL exL).getD 0 0 = 23041 ∧ (wordsL exL).getD 1 0 = 1 ∧ (wordsL exL).getD 2 0 = 1 ∧ (wordsL exL).getD 3 0 = 0 ∧ (wordsL exL).getD 15 0 = 21930 := ⟨by decide, by decide, by decide, by decide, words_last rfl⟩
theorem words_64 {l : List Int} (hb : rightB l = true) : ∀ x ∈ wordsL l, I64 x := by
  intro x hx
  have := words_words hb x hx
  unfold I64; omega
theorem ex_commit : commitR 3 2 true = (0, commitL 3 2 true) := by decide
theorem ex_is : isR (commitL 3 2 true) = (2, true, true) := by decide
theorem ex_commit_64 : ∀ x ∈ commitL 3 2 true, I64 x := commit_64 3 2 true (by unfold I64; omega) (by unfold I64; omega)

end Go.Proofs.YtihpmnnbiabggaaDoor
