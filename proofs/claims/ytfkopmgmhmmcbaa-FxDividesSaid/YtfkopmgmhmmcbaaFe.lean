/- fx: the chapter's examples: what the statements ask ahead of all. No condition. -/
import Derived.Test.YtfkopmgmhmmcbaaFc
import Derived.Test.YtfkopmgmhmmcbaaFd
namespace Go.Proofs.Ytfkopmgmhmmcbaa
open Go.RowKit
set_option linter.unusedVariables false

set_option maxRecDepth 100000 in
theorem works_any (w : World) : Calls Try.prog 17 #[] w fun e w' => e = .returned (.bool true) ∧ Keeps [] w w' := by
  have e1 : (-7 : Int) / 2 = -4 := by decide
  have e2 : nearI (-7) 2 = -4 := by decide
  have e3 : evenI 5 2 = 2 := by decide
  have e4 : nearI 5 2 = 3 := by decide
  have e5 : sumL 10 [8, 9, -3] = 7 := by decide
  have e6 : tow 5 9 3 = 8 := by decide
  have e7 : sizeI (-3) = 3 := by decide
  have E1 := Lib.hid e1
  have E2 := Lib.hid e2
  have E3 := Lib.hid e3
  have E4 := Lib.hid e4
  have E5 := Lib.hid e5
  have E6 := Lib.hid e6
  have E7 := Lib.hid e7
  clear e1 e2 e3 e4 e5 e6 e7
  go_enter Try.func17, Try.ntmps17
  go_wp2_with fail
  refine (down_yes (-7) 2 _ (by unfold I64; omega) (by unfold I64; omega) (by omega)).mono ?_
  rintro e w1 ⟨he, k1⟩
  rw [E1.out] at he
  subst he
  go_wp2_with fail
  refine (near_yes (-7) 2 _ (by unfold I64; omega) (by unfold I64; omega) (by omega)).mono ?_
  rintro e w2 ⟨he, k2⟩
  rw [E2.out] at he
  subst he
  go_wp2_with fail
  refine (even_yes 5 2 _ (by unfold I64; omega) (by unfold I64; omega) (by omega)).mono ?_
  rintro e w3 ⟨he, k3⟩
  rw [E3.out] at he
  subst he
  go_wp2_with fail
  refine (near_yes 5 2 _ (by unfold I64; omega) (by unfold I64; omega) (by omega)).mono ?_
  rintro e w4 ⟨he, k4⟩
  rw [E4.out] at he
  subst he
  go_wp2_with fail
  refine (sum_yes 10 _ _ _ [8, 9, -3] _ (ints_new _ _ _ rfl _) (by unfold maxLen; decide) (by omega) (by omega)).mono ?_
  rintro e w5 ⟨he, rfl⟩
  rw [E5.out] at he
  subst he
  go_wp2_with fail
  refine (toward_any 5 9 3 _ (by unfold I64; omega) (by unfold I64; omega) (by unfold I64; omega)).mono ?_
  rintro e w6 ⟨he, rfl⟩
  rw [E6.out] at he
  subst he
  go_wp2_with fail
  refine (size_any (-3) _ (by unfold I64; omega)).mono ?_
  rintro e w7 ⟨he, rfl⟩
  rw [E7.out] at he
  subst he
  go_wp2_with fail
  go_ret
  exact ⟨rfl, (((k1.trans0 k2).trans0 k3).trans0 k4).alloc _⟩
end Go.Proofs.Ytfkopmgmhmmcbaa
