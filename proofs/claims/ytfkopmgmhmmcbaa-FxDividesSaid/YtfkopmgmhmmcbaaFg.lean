/- FxMoves, FxLefts, FxDivides walked. -/
import Derived.Test.YtfkopmgmhmmcbaaFe
import Derived.Test.YtfkopmgmhmmcbaaFf
namespace Go.Proofs.Ytfkopmgmhmmcbaa
open Go.RowKit
set_option linter.unusedVariables false

theorem moves_any (a b s : Int) (w : World) (ha : I64 a) (hb : I64 b) (hs : I64 s) :
    Calls Try.prog 5 #[.int .i64 a, .int .i64 b, .int .i64 s] w fun e w' => e = .returned (.bool true) ∧ Keeps [] w w' := by
  obtain ⟨t, ht⟩ : ∃ t, t = tow a b s := ⟨_, rfl⟩
  obtain ⟨z, hz⟩ : ∃ z, z = sizeI a := ⟨_, rfl⟩
  have HT := Lib.hid ht
  have HZ := Lib.hid hz
  clear ht hz
  go_enter Try.func5, Try.ntmps5
  go_wp2_with fail
  refine (toward_any a b s _ ha hb hs).mono ?_
  rintro e w1 ⟨he, rfl⟩
  rw [← HT.out] at he
  subst he
  go_wp2_with fail
  refine (refToward_any a b s _ ha hb hs).mono ?_
  rintro e w1 ⟨he, rfl⟩
  rw [← HT.out] at he
  subst he
  go_wp2_with fail
  refine (size_any a _ ha).mono ?_
  rintro e w1 ⟨he, rfl⟩
  rw [← HZ.out] at he
  subst he
  go_wp2_with fail
  refine (refSize_any a _ ha).mono ?_
  rintro e w1 ⟨he, rfl⟩
  rw [← HZ.out] at he
  subst he
  go_wp2_with fail
  refine (works_any _).mono ?_
  rintro e w1 ⟨rfl, k1⟩
  go_wp2_with fail
  go_ret
  exact ⟨rfl, k1⟩

theorem u64_mod (x : Int) : IntKind.u64.wrap x = x % 18446744073709551616 := by
  simp only [IntKind.wrap, IntKind.bits, IntKind.signed]; simp
theorem u64_lefts (a b q r : Int) (h : b * q + r = a) : IntKind.u64.wrap (IntKind.u64.wrap (IntKind.u64.wrap q * b) + r) = IntKind.u64.wrap a := by
  simp only [u64_mod]
  rw [Int.emod_add_emod, ← h, Int.add_emod, Int.mul_emod, Int.emod_emod_of_dvd _ (Int.dvd_refl _), ← Int.mul_emod, ← Int.add_emod, Int.mul_comm q b]

theorem lefts_any (a b : Int) (w : World) (ha : I64 a) (hb : I64 b) :
    Calls Try.prog 7 #[.int .i64 a, .int .i64 b] w fun e w' => e = .returned (.bool true) ∧ Keeps [] w w' := by
  have HA := Lib.hid ha
  have HB := Lib.hid hb
  unfold I64 at ha hb
  by_cases h1 : b < 1
  · go_enter Try.func7, Try.ntmps7
    go_wp2_with fail
    refine (works_any _).mono ?_
    rintro e w1 ⟨rfl, k1⟩
    go_wp2_with fail
    refine (down_no a b _ h1).mono ?_
    rintro e w2 ⟨rfl, k2⟩
    go_wp2_with fail
    refine (left_no a b _ h1).mono ?_
    rintro e w3 ⟨rfl, k3⟩
    go_wp2_with fail
    go_ret
    exact ⟨rfl, (k1.trans0 k2).trans0 k3⟩
  · have hm0 := Int.emod_nonneg a (show b ≠ 0 by omega)
    have hm1 := Int.emod_lt_of_pos a (show 0 < b by omega)
    have hm2 := u64_lefts a b (a / b) (a % b) (Int.mul_ediv_add_emod a b)
    obtain ⟨q, hq⟩ : ∃ q, q = a / b := ⟨_, rfl⟩
    obtain ⟨r, hr⟩ : ∃ r, r = a % b := ⟨_, rfl⟩
    rw [← hq, ← hr] at hm2
    rw [← hr] at hm0 hm1
    obtain ⟨z, hz⟩ : ∃ z, z = IntKind.u64.wrap q * b := ⟨_, rfl⟩
    have hb2 : IntKind.u64.wrap b = b := u64_in b (by omega) (by omega)
    have hr2 : IntKind.u64.wrap r = r := u64_in r (by omega) (by omega)
    have HQ := Lib.hid hq
    have HR := Lib.hid hr
    clear hq hr hz
    go_enter Try.func7, Try.ntmps7
    go_wp2_with fail
    refine (works_any _).mono ?_
    rintro e w1 ⟨rfl, k1⟩
    go_wp2_with fail
    refine (down_yes a b _ HA.out HB.out (by omega)).mono ?_
    rintro e w2 ⟨he, k2⟩
    rw [← HQ.out] at he
    subst he
    go_wp2_with fail
    refine (left_yes a b _ HA.out HB.out (by omega)).mono ?_
    rintro e w3 ⟨he, k3⟩
    rw [← HR.out] at he
    subst he
    go_wp2_with fail
    go_ret
    exact ⟨rfl, (k1.trans0 k2).trans0 k3⟩

set_option maxRecDepth 100000 in
set_option maxHeartbeats 1000000 in
theorem divides_any (a b : Int) (w : World) (ha : I64 a) (hb : I64 b) :
    Calls Try.prog 4 #[.int .i64 a, .int .i64 b] w fun e w' => e = .returned (.bool true) ∧ Keeps [] w w' := by
  have HA := Lib.hid ha
  have HB := Lib.hid hb
  clear ha hb
  by_cases h1 : b < 1
  · go_enter Try.func4, Try.ntmps4
    go_wp2_with fail
    refine (down_no a b _ h1).mono ?_
    rintro e w1 ⟨rfl, k1⟩
    go_wp2_with fail
    refine (refDown_no a b _ h1).mono ?_
    rintro e w2 ⟨rfl, rfl⟩
    go_wp2_with fail
    refine (near_no a b _ h1).mono ?_
    rintro e w3 ⟨rfl, k3⟩
    go_wp2_with fail
    refine (refNear_no a b _ h1).mono ?_
    rintro e w4 ⟨rfl, rfl⟩
    go_wp2_with fail
    refine (even_no a b _ h1).mono ?_
    rintro e w5 ⟨rfl, k5⟩
    go_wp2_with fail
    refine (refEven_no a b _ h1).mono ?_
    rintro e w6 ⟨rfl, rfl⟩
    go_wp2_with fail
    refine (left_no a b _ h1).mono ?_
    rintro e w7 ⟨rfl, k7⟩
    go_wp2_with fail
    refine (refLeft_no a b _ h1).mono ?_
    rintro e w8 ⟨rfl, rfl⟩
    go_wp2_with fail
    refine (works_any _).mono ?_
    rintro e w9 ⟨rfl, k9⟩
    go_wp2_with fail
    go_ret
    exact ⟨rfl, (((k1.trans0 k3).trans0 k5).trans0 k7).trans0 k9⟩
  · obtain ⟨q, hq⟩ : ∃ q, q = a / b := ⟨_, rfl⟩
    obtain ⟨r, hr⟩ : ∃ r, r = a % b := ⟨_, rfl⟩
    obtain ⟨x, hx⟩ : ∃ x, x = nearI a b := ⟨_, rfl⟩
    obtain ⟨y, hy⟩ : ∃ y, y = evenI a b := ⟨_, rfl⟩
    have HQ := Lib.hid hq
    have HR := Lib.hid hr
    have HNR := Lib.hid hx
    have HE := Lib.hid hy
    clear hq hr hx hy
    go_enter Try.func4, Try.ntmps4
    go_wp2_with fail
    refine (down_yes a b _ HA.out HB.out (by omega)).mono ?_
    rintro e w1 ⟨he, k1⟩
    rw [← HQ.out] at he
    subst he
    go_wp2_with fail
    refine (refDown_yes a b _ HA.out HB.out (by omega)).mono ?_
    rintro e w2 ⟨he, rfl⟩
    rw [← HQ.out] at he
    subst he
    go_wp2_with fail
    refine (near_yes a b _ HA.out HB.out (by omega)).mono ?_
    rintro e w3 ⟨he, k3⟩
    rw [← HNR.out] at he
    subst he
    go_wp2_with fail
    refine (refNear_yes a b _ HA.out HB.out (by omega)).mono ?_
    rintro e w4 ⟨he, rfl⟩
    rw [← HNR.out] at he
    subst he
    go_wp2_with fail
    refine (even_yes a b _ HA.out HB.out (by omega)).mono ?_
    rintro e w5 ⟨he, k5⟩
    rw [← HE.out] at he
    subst he
    go_wp2_with fail
    refine (refEven_yes a b _ HA.out HB.out (by omega)).mono ?_
    rintro e w6 ⟨he, rfl⟩
    rw [← HE.out] at he
    subst he
    go_wp2_with fail
    refine (left_yes a b _ HA.out HB.out (by omega)).mono ?_
    rintro e w7 ⟨he, k7⟩
    rw [← HR.out] at he
    subst he
    go_wp2_with fail
    refine (refLeft_yes a b _ HA.out HB.out (by omega)).mono ?_
    rintro e w8 ⟨he, rfl⟩
    rw [← HR.out] at he
    subst he
    go_wp2_with fail
    refine (works_any _).mono ?_
    rintro e w9 ⟨rfl, k9⟩
    go_wp2_with fail
    go_ret
    exact ⟨rfl, (((k1.trans0 k3).trans0 k5).trans0 k7).trans0 k9⟩
end Go.Proofs.Ytfkopmgmhmmcbaa
