
/- A number as one of so many: the contract. -/
import Derived.Test.YtcaphgokckkmfaaKp
namespace Go.Proofs.Ytcaphgokckkmfaa
open Go.RowKit
set_option maxRecDepth 100000
set_option linter.unusedVariables false

/-- What Among makes of a number. -/
def amongI (x n : Int) : Int := wrap64 ((IntKind.u64.wrap x).tmod n)
theorem amongI_lt (x n : Int) (h1 : 1 ≤ n) (h2 : n ≤ 9223372036854775807) : 0 ≤ amongI x n ∧ amongI x n < n := by
  unfold amongI
  have h0 : 0 ≤ IntKind.u64.wrap x := by simp [IntKind.wrap, IntKind.bits, IntKind.signed]; omega
  rw [Int.tmod_eq_emod_of_nonneg h0]
  have h3 := Int.emod_nonneg (IntKind.u64.wrap x) (show n ≠ 0 by omega)
  have h4 := Int.emod_lt_of_pos (IntKind.u64.wrap x) (show 0 < n by omega)
  rw [IntWalk.wrap64_in _ (by omega)]
  exact ⟨h3, h4⟩

theorem among_any (x n : Int) (w : World) (h1 : 1 ≤ n) (h2 : n ≤ 9223372036854775807) : Calls Try.prog 12 #[.int .i64 x, .int .i64 n] w fun e w' => e = .returned (.int .i64 (amongI x n)) ∧ w = w' := by
  go_enter Try.func12, Try.ntmps12
  go_wp2
  go_ret
  exact ⟨rfl, rfl⟩

end Go.Proofs.Ytcaphgokckkmfaa
