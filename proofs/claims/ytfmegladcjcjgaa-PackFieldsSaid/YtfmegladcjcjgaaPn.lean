/- pack: the chapter's examples; PackPuts, PackGets walked. -/
import Derived.Test.YtfmegladcjcjgaaPm
import Derived.Test.YtfmegladcjcjgaaIn
import Derived.Test.YtfmegladcjcjgaaSi
import Derived.Test.YtfmegladcjcjgaaAm
namespace Go.Proofs.Ytfmegladcjcjgaa
open Go.RowKit
set_option linter.unusedVariables false

theorem wk1 : putR 2 true [-2] = (0, [65535, 65534]) := by decide
theorem wk2 : fieldsR [4, 12] [1, 2] = (0, [4098]) := by decide
theorem wk3 : getR 2 true [65535, 65534] = (0, -2) := by decide
theorem wk4 : sizeR [4, 12, 1] = 2 := by decide
set_option maxRecDepth 100000 in
theorem works_any (w : World) : Calls Try.prog 14 #[] w fun e w' => e = .returned (.bool true) ∧ Keeps [] w w' := by
  go_enter Try.func14, Try.ntmps14
  go_wp2_with fail
  refine (Signed_any 2 _ _ _ [-2] _ (ints_new _ _ _ rfl _) (by unfold I64; simp) (by simp)).mono ?_
  rintro e w1 ho
  rw [wk1] at ho
  obtain ⟨a1, c1, he, i1, k1, l1, m1⟩ := ho
  have he : e = .returned (.tuple #[.slice a1 2 c1, .int .i64 0]) := he
  subst he
  have I1 := Lib.hid (show IntsAt w1 a1 2 [65535, 65534] from i1)
  have L1 := Lib.hid (show 2 ≤ c1 from l1)
  have M1 := Lib.hid m1
  clear i1 l1 m1
  go_wp2_with fail
  have j1 := ints_new w1 [4, 12] #[.int .i64 4, .int .i64 12] rfl 3
  have j2 := ints_new (w1.alloc (.cells #[.int .i64 4, .int .i64 12] 3)) [1, 2] #[.int .i64 1, .int .i64 2] rfl 3
  have j3 := j1.keep0 ((Keeps.refl [] _).alloc (.cells #[.int .i64 1, .int .i64 2] 3))
  have e1 : (w1.alloc (.cells #[.int .i64 4, .int .i64 12] 3)).heap.size = w1.heap.size + 1 := by simp
  rw [e1] at j2
  refine (Fields_any (some ⟨w1.heap.size, 0, none⟩) (some ⟨w1.heap.size + 1, 0, none⟩) 2 2 2 2 [4, 12] [1, 2] ((w1.alloc (.cells #[.int .i64 4, .int .i64 12] 3)).alloc (.cells #[.int .i64 1, .int .i64 2] 3)) j3 j2 (by omega) (by omega)).mono ?_
  rintro e w2 ho
  rw [wk2] at ho
  obtain ⟨a2, c2, he, i2, k2, l2, m2⟩ := ho
  have he : e = .returned (.tuple #[.slice a2 1 c2, .int .i64 0]) := he
  subst he
  have I2 := Lib.hid (show IntsAt w2 a2 1 [4098] from i2)
  clear i2 l2 m2
  have k12 : Keeps [] w1 w2 := (((Keeps.refl _ _).alloc _).alloc _).trans0 k2
  have I1 := Lib.hid (I1.out.keep0 k12)
  go_wp2_with fail
  refine (Get_any 2 a1 2 c1 _ _ I1.out L1.out M1.out).mono ?_
  rintro e w3 ⟨he, k3⟩
  rw [wk3] at he
  have he : e = .returned (.tuple #[.int .i64 (-2), .int .i64 0]) := he
  subst he
  go_wp2_with fail
  refine (sameInts_any a1 _ 2 2 c1 _ [65535, 65534] [65535, 65534] _ (I1.out.keep0 (k3.alloc _)) (ints_new w3 [65535, 65534] #[.int .i64 65535, .int .i64 65534] rfl 3) (by unfold maxLen; omega) (by unfold maxLen; omega)).mono ?_
  rintro e w4 ⟨he, m4, hw4⟩
  have he : e = .returned (.bool true) := by rw [he]; simp
  subst he
  have k4 : Keeps [] w2 w4 := by rw [hw4]; exact (k3.alloc _).drewN _
  clear hw4
  go_wp2_with fail
  refine (sameInts_any a2 _ 1 1 c2 _ [4098] [4098] _ (I2.out.keep0 (k4.alloc (.cells #[.int .i64 4098] 3))) (ints_new w4 [4098] #[.int .i64 4098] rfl 3) (by unfold maxLen; omega) (by unfold maxLen; omega)).mono ?_
  rintro e w5 ⟨he, m5, hw5⟩
  have he : e = .returned (.bool true) := by rw [he]; simp
  subst he
  have k5 : Keeps [] w2 w5 := by rw [hw5]; exact (k4.alloc (.cells #[.int .i64 4098] 3)).drewN m5
  clear hw5
  go_wp2_with fail
  refine (Size_any _ 3 3 [4, 12, 1] _ (ints_new w5 [4, 12, 1] #[.int .i64 4, .int .i64 12, .int .i64 1] rfl 3) (by omega)).mono ?_
  rintro e w' ⟨he, rfl⟩
  rw [wk4] at he
  have he : e = .returned (.int .i64 2) := he
  subst he
  go_wp2_with fail
  go_ret
  exact ⟨rfl, (((Keeps.refl _ _).alloc _).trans0 k1).trans0 (k12.trans0 (k5.alloc _))⟩
theorem few_cases (n : Nat) (c : Nat) (a : Option Addr) (xs : List Int) (w : World) (hi : IntsAt w a n xs) (hn : n ≤ c) : n ≤ 200 ∨ 200 < n ∧ IntsAt w a 200 (xs.take 200) := by
  by_cases h : n ≤ 200
  · exact .inl h
  · exact .inr ⟨by omega, hi.take (by omega)⟩
theorem same_self {l : List Int} : decide (l = l) = true := by simp
end Go.Proofs.Ytfmegladcjcjgaa
