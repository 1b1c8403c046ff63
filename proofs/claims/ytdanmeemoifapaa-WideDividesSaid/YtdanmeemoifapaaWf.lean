/- wide: the chapter's examples: what the statements ask ahead of all. No condition. -/
import Derived.Test.YtdanmeemoifapaaWe
namespace Go.Proofs.Ytdanmeemoifapaa
open Go.RowKit
set_option linter.unusedVariables false

set_option maxRecDepth 100000 in
theorem works_any (w : World) : Calls Try.prog 18 #[] w fun e w' => e = .returned (.bool true) ∧ Keeps [] w w' := by
  have e1 : slimI (nearW (10000 * 3) 7) = 4286 := by decide
  have e2 : slimE (nearW (10000 * 3) 7) = 0 := by decide
  have e3 : slimI (-10000 * 3 / 7) = -4286 := by decide
  have e4 : slimE (-10000 * 3 / 7) = 0 := by decide
  have e5 : num (4611686018427387904 * 4) = .agg #[.int .i64 1, .int .u64 0] := by rfl
  have e6 : num (-1 * 1) = .agg #[.int .i64 (-1), .int .u64 18446744073709551615] := by rfl
  have E1 := Lib.hid e1
  have E2 := Lib.hid e2
  have E3 := Lib.hid e3
  have E4 := Lib.hid e4
  have E5 := Lib.hid e5
  have E6 := Lib.hid e6
  clear e1 e2 e3 e4 e5 e6
  go_enter Try.func18, Try.ntmps18
  go_wp2_with fail
  refine (mulnear_yes 10000 3 7 _ (by unfold I64; omega) (by unfold I64; omega) (by omega) (by omega)).mono ?_
  rintro e w1 ⟨he, k1⟩
  rw [E1.out, E2.out] at he
  subst he
  go_wp2_with fail
  refine (muldown_yes (-10000) 3 7 _ (by unfold I64; omega) (by unfold I64; omega) (by omega) (by omega)).mono ?_
  rintro e w2 ⟨he, k2⟩
  rw [E3.out, E4.out] at he
  subst he
  go_wp2_with fail
  refine (wmul_any 4611686018427387904 4 _ (by unfold I64; omega) (by unfold I64; omega)).mono ?_
  rintro e w3 ⟨he, k3⟩
  rw [E5.out] at he
  subst he
  go_wp2_with fail
  refine (wmul_any (-1) 1 _ (by unfold I64; omega) (by unfold I64; omega)).mono ?_
  rintro e w4 ⟨he, k4⟩
  rw [E6.out] at he
  subst he
  go_wp2_with fail
  go_ret
  exact ⟨rfl, ((k1.trans0 k2).trans0 k3).trans0 k4⟩
end Go.Proofs.Ytdanmeemoifapaa
