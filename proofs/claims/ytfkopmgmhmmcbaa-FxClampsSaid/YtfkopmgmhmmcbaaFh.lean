/- FxClamps, FxBounds walked. -/
import Derived.Test.YtfkopmgmhmmcbaaFe
import Derived.Test.YtfkopmgmhmmcbaaFf
import Derived.Test.YtfkopmgmhmmcbaaIn
namespace Go.Proofs.Ytfkopmgmhmmcbaa
open Go.RowKit
set_option linter.unusedVariables false

set_option maxRecDepth 100000 in
set_option maxHeartbeats 2000000 in
theorem clamps_any (b x low high : Int) (a : Option Addr) (n c : Nat) (xs : List Int) (w : World) (hi : IntsAt w a n xs) (hn : n ≤ c) (hc : c ≤ maxLen) :
    Calls Try.prog 3 #[.int .i64 b, .int .i64 x, .int .i64 low, .int .i64 high, .slice a n c] w fun e w' => e = .returned (.bool true) ∧ Keeps [] w w' := by
  unfold maxLen at hc
  have hi2 := hi.take (k := min n 300) (by omega)
  obtain ⟨ys, hys⟩ : ∃ ys, ys = xs.take (min n 300) := ⟨_, rfl⟩
  rw [← hys] at hi2
  have hkl : min n 300 = ys.length := hi2.1
  have hyl : ys.length ≤ 300 := by omega
  obtain ⟨z, hz⟩ : ∃ z, z = betw low high x := ⟨_, rfl⟩
  obtain ⟨z2, hz2⟩ : ∃ z, z = betw (-b) b x := ⟨_, rfl⟩
  obtain ⟨z3, hz3⟩ : ∃ z, z = sumL b ys := ⟨_, rfl⟩
  have HBT := Lib.hid hz
  have HC := Lib.hid hz2
  have HS := Lib.hid hz3
  clear hz hz2 hz3
  by_cases hs : n ≤ 300
  · have e : min n 300 = n := by omega
    rw [e] at hi2 hkl
    have h2' : (n : Int) ≤ 300 := by omega
    have HI := Lib.hid hi2
    have HX := Lib.hid hi
    have HK := Lib.hid hkl
    clear hi2 hi hkl e hys
    by_cases hb : 1 ≤ b ∧ b ≤ 2305843009213693952
    · obtain ⟨h1, h2⟩ := hb
      go_enter Try.func3, Try.ntmps3
      go_wp2_with fail
      refine (clamp_yes b x _ h1 h2).mono ?_
      rintro e w1 ⟨he, rfl⟩
      rw [← HC.out] at he
      subst he
      go_wp2_with fail
      refine (refClamp_yes b x _ h1 h2).mono ?_
      rintro e w1 ⟨he, rfl⟩
      rw [← HC.out] at he
      subst he
      go_wp2_with fail
      refine (ints_any a n c ys _ HI.out (by omega)).mono ?_
      rintro e w1 ⟨v, rfl, g, c1, rfl, hg, hA, k1⟩
      have HA := Lib.hid hA
      clear hA
      go_wp2_with fail
      refine (sum_yes b _ _ _ ys _ HA.out.ints (by unfold maxLen; omega) h1 h2).mono ?_
      rintro e w2 ⟨he, rfl⟩
      rw [← HS.out] at he
      subst he
      go_wp2_with fail
      refine (refSum_yes b _ _ _ ys _ (HI.out.keep0 k1) (by unfold maxLen; omega) h1 h2).mono ?_
      rintro e w2 ⟨he, rfl⟩
      rw [← HS.out] at he
      subst he
      go_wp2_with fail
      refine (between_any _ _ _ _).mono ?_
      rintro e w2 ⟨he, rfl⟩
      rw [← HBT.out] at he
      subst he
      go_wp2_with fail
      refine (refBetween_any _ _ _ _).mono ?_
      rintro e w2 ⟨he, rfl⟩
      rw [← HBT.out] at he
      subst he
      go_wp2_with fail
      refine (works_any _).mono ?_
      rintro e w2 ⟨rfl, k2⟩
      go_wp2_with fail
      go_ret
      exact ⟨rfl, k1.trans0 k2⟩
    · have HH : Hid (b < 1 ∨ 2305843009213693952 < b) := Lib.hid (by omega)
      clear hb
      go_enter Try.func3, Try.ntmps3
      go_wp2_with fail
      refine (clamp_no b x _ HH.out).mono ?_
      rintro e w1 ⟨rfl, rfl⟩
      go_wp2_with fail
      refine (refClamp_no b x _ HH.out).mono ?_
      rintro e w1 ⟨rfl, rfl⟩
      go_wp2_with fail
      refine (ints_any a n c ys _ HI.out (by omega)).mono ?_
      rintro e w1 ⟨v, rfl, g, c1, rfl, hg, hA, k1⟩
      have HA := Lib.hid hA
      clear hA
      go_wp2_with fail
      refine (sum_no b _ _ _ _ HH.out).mono ?_
      rintro e w2 ⟨rfl, rfl⟩
      go_wp2_with fail
      refine (refSum_no b _ _ _ _ HH.out).mono ?_
      rintro e w2 ⟨rfl, rfl⟩
      go_wp2_with fail
      refine (between_any _ _ _ _).mono ?_
      rintro e w2 ⟨he, rfl⟩
      rw [← HBT.out] at he
      subst he
      go_wp2_with fail
      refine (refBetween_any _ _ _ _).mono ?_
      rintro e w2 ⟨he, rfl⟩
      rw [← HBT.out] at he
      subst he
      go_wp2_with fail
      refine (works_any _).mono ?_
      rintro e w2 ⟨rfl, k2⟩
      go_wp2_with fail
      go_ret
      exact ⟨rfl, k1.trans0 k2⟩
  · have e : min n 300 = 300 := by omega
    rw [e] at hi2 hkl
    have h2' : ¬ (n : Int) ≤ 300 := by omega
    have HI := Lib.hid hi2
    have HX := Lib.hid hi
    have HK := Lib.hid hkl
    clear hi2 hi hkl e hys
    by_cases hb : 1 ≤ b ∧ b ≤ 2305843009213693952
    · obtain ⟨h1, h2⟩ := hb
      go_enter Try.func3, Try.ntmps3
      go_wp2_with fail
      refine (clamp_yes b x _ h1 h2).mono ?_
      rintro e w1 ⟨he, rfl⟩
      rw [← HC.out] at he
      subst he
      go_wp2_with fail
      refine (refClamp_yes b x _ h1 h2).mono ?_
      rintro e w1 ⟨he, rfl⟩
      rw [← HC.out] at he
      subst he
      go_wp2_with fail
      refine (ints_any a 300 c ys _ HI.out (by omega)).mono ?_
      rintro e w1 ⟨v, rfl, g, c1, rfl, hg, hA, k1⟩
      have HA := Lib.hid hA
      clear hA
      go_wp2_with fail
      refine (sum_yes b _ _ _ ys _ HA.out.ints (by unfold maxLen; omega) h1 h2).mono ?_
      rintro e w2 ⟨he, rfl⟩
      rw [← HS.out] at he
      subst he
      go_wp2_with fail
      refine (refSum_yes b _ _ _ ys _ (HI.out.keep0 k1) (by unfold maxLen; omega) h1 h2).mono ?_
      rintro e w2 ⟨he, rfl⟩
      rw [← HS.out] at he
      subst he
      go_wp2_with fail
      refine (between_any _ _ _ _).mono ?_
      rintro e w2 ⟨he, rfl⟩
      rw [← HBT.out] at he
      subst he
      go_wp2_with fail
      refine (refBetween_any _ _ _ _).mono ?_
      rintro e w2 ⟨he, rfl⟩
      rw [← HBT.out] at he
      subst he
      go_wp2_with fail
      refine (works_any _).mono ?_
      rintro e w2 ⟨rfl, k2⟩
      go_wp2_with fail
      go_ret
      exact ⟨rfl, k1.trans0 k2⟩
    · have HH : Hid (b < 1 ∨ 2305843009213693952 < b) := Lib.hid (by omega)
      clear hb
      go_enter Try.func3, Try.ntmps3
      go_wp2_with fail
      refine (clamp_no b x _ HH.out).mono ?_
      rintro e w1 ⟨rfl, rfl⟩
      go_wp2_with fail
      refine (refClamp_no b x _ HH.out).mono ?_
      rintro e w1 ⟨rfl, rfl⟩
      go_wp2_with fail
      refine (ints_any a 300 c ys _ HI.out (by omega)).mono ?_
      rintro e w1 ⟨v, rfl, g, c1, rfl, hg, hA, k1⟩
      have HA := Lib.hid hA
      clear hA
      go_wp2_with fail
      refine (sum_no b _ _ _ _ HH.out).mono ?_
      rintro e w2 ⟨rfl, rfl⟩
      go_wp2_with fail
      refine (refSum_no b _ _ _ _ HH.out).mono ?_
      rintro e w2 ⟨rfl, rfl⟩
      go_wp2_with fail
      refine (between_any _ _ _ _).mono ?_
      rintro e w2 ⟨he, rfl⟩
      rw [← HBT.out] at he
      subst he
      go_wp2_with fail
      refine (refBetween_any _ _ _ _).mono ?_
      rintro e w2 ⟨he, rfl⟩
      rw [← HBT.out] at he
      subst he
      go_wp2_with fail
      refine (works_any _).mono ?_
      rintro e w2 ⟨rfl, k2⟩
      go_wp2_with fail
      go_ret
      exact ⟨rfl, k1.trans0 k2⟩

theorem betw_twice (b z : Int) (hz : -b ≤ z ∧ z ≤ b) : betw (-b) b z = z := by unfold betw; rw [if_neg (by omega), if_neg (by omega)]
theorem betw_same (b x : Int) (h1 : ¬ x < -b) (h2 : ¬ b < x) : betw (-b) b x = x := by unfold betw; rw [if_neg h1, if_neg h2]

set_option maxRecDepth 100000 in
set_option maxHeartbeats 4000000 in
theorem bounds_any (b x : Int) (a : Option Addr) (n c : Nat) (xs : List Int) (w : World) (hi : IntsAt w a n xs) (hn : n ≤ c) (hc : c ≤ maxLen) :
    Calls Try.prog 6 #[.int .i64 b, .int .i64 x, .slice a n c] w fun e w' => e = .returned (.bool true) ∧ Keeps [] w w' := by
  unfold maxLen at hc
  have hi2 := hi.take (k := min n 300) (by omega)
  obtain ⟨ys, hys⟩ : ∃ ys, ys = xs.take (min n 300) := ⟨_, rfl⟩
  rw [← hys] at hi2
  have hkl : min n 300 = ys.length := hi2.1
  have hyl : ys.length ≤ 300 := by omega
  obtain ⟨z2, hz2⟩ : ∃ z, z = betw (-b) b x := ⟨_, rfl⟩
  obtain ⟨z3, hz3⟩ : ∃ z, z = sumL b ys := ⟨_, rfl⟩
  have HC := Lib.hid hz2
  have HS := Lib.hid hz3
  clear hz2 hz3
  by_cases hs : n ≤ 300
  · have e : min n 300 = n := by omega
    rw [e] at hi2 hkl
    have h2' : (n : Int) ≤ 300 := by omega
    have HI := Lib.hid hi2
    have HX := Lib.hid hi
    have HK := Lib.hid hkl
    clear hi2 hi hkl e hys
    by_cases hb : 1 ≤ b ∧ b ≤ 2305843009213693952
    · obtain ⟨h1, h2⟩ := hb
      have hd : decide (b < 1) = false := by simp; omega
      have hzb := betw_bd (b := b) x h1
      rw [← HC.out] at hzb
      have hsb := sumL_bd (b := b) ys h1
      rw [← HS.out] at hsb
      have HT := Lib.hid (betw_twice b z2 hzb)
      by_cases g1 : x < -b
      · have g2 : decide (x < -b) = true := by simpa using g1
        go_enter Try.func6, Try.ntmps6
        go_wp2_with fail
        refine (works_any _).mono ?_
        rintro e w1 ⟨rfl, k1⟩
        go_wp2_with fail
        refine (clamp_yes b x _ h1 h2).mono ?_
        rintro e w2 ⟨he, rfl⟩
        rw [← HC.out] at he
        subst he
        go_wp2_with fail
        refine (sum_yes b a n c ys _ (HI.out.keep0 k1) (by unfold maxLen; omega) h1 h2).mono ?_
        rintro e w2 ⟨he, rfl⟩
        rw [← HS.out] at he
        subst he
        go_wp2_with fail
        refine (most_any _).mono ?_
        rintro e w2 ⟨rfl, rfl⟩
        go_wp2_with fail
        refine (clamp_yes b z2 _ h1 h2).mono ?_
        rintro e w2 ⟨he, rfl⟩
        rw [HT.out] at he
        subst he
        go_wp2_with fail
        go_ret
        exact ⟨rfl, k1⟩
      · have g2 : decide (x < -b) = false := by simpa using g1
        by_cases g3 : b < x
        · have g4 : decide (b < x) = true := by simpa using g3
          go_enter Try.func6, Try.ntmps6
          go_wp2_with fail
          refine (works_any _).mono ?_
          rintro e w1 ⟨rfl, k1⟩
          go_wp2_with fail
          refine (clamp_yes b x _ h1 h2).mono ?_
          rintro e w2 ⟨he, rfl⟩
          rw [← HC.out] at he
          subst he
          go_wp2_with fail
          refine (sum_yes b a n c ys _ (HI.out.keep0 k1) (by unfold maxLen; omega) h1 h2).mono ?_
          rintro e w2 ⟨he, rfl⟩
          rw [← HS.out] at he
          subst he
          go_wp2_with fail
          refine (most_any _).mono ?_
          rintro e w2 ⟨rfl, rfl⟩
          go_wp2_with fail
          refine (clamp_yes b z2 _ h1 h2).mono ?_
          rintro e w2 ⟨he, rfl⟩
          rw [HT.out] at he
          subst he
          go_wp2_with fail
          go_ret
          exact ⟨rfl, k1⟩
        · have g4 : decide (b < x) = false := by simpa using g3
          have g5 : z2 = x := by rw [HC.out]; exact betw_same b x g1 g3
          have g6 : (z2 == x) = true := by simpa using g5
          clear g5
          go_enter Try.func6, Try.ntmps6
          go_wp2_with fail
          refine (works_any _).mono ?_
          rintro e w1 ⟨rfl, k1⟩
          go_wp2_with fail
          refine (clamp_yes b x _ h1 h2).mono ?_
          rintro e w2 ⟨he, rfl⟩
          rw [← HC.out] at he
          subst he
          go_wp2_with fail
          refine (sum_yes b a n c ys _ (HI.out.keep0 k1) (by unfold maxLen; omega) h1 h2).mono ?_
          rintro e w2 ⟨he, rfl⟩
          rw [← HS.out] at he
          subst he
          go_wp2_with fail
          refine (most_any _).mono ?_
          rintro e w2 ⟨rfl, rfl⟩
          go_wp2_with fail
          refine (clamp_yes b z2 _ h1 h2).mono ?_
          rintro e w2 ⟨he, rfl⟩
          rw [HT.out] at he
          subst he
          go_wp2_with fail
          go_ret
          exact ⟨rfl, k1⟩
    · have HH : Hid (b < 1 ∨ 2305843009213693952 < b) := Lib.hid (by omega)
      clear hb
      by_cases h1 : b < 1
      · have hd : decide (b < 1) = true := by simpa using h1
        go_enter Try.func6, Try.ntmps6
        go_wp2_with fail
        refine (works_any _).mono ?_
        rintro e w1 ⟨rfl, k1⟩
        go_wp2_with fail
        refine (clamp_no b x _ HH.out).mono ?_
        rintro e w2 ⟨rfl, rfl⟩
        go_wp2_with fail
        refine (sum_no b a n c _ HH.out).mono ?_
        rintro e w2 ⟨rfl, rfl⟩
        go_wp2_with fail
        go_ret
        exact ⟨rfl, k1⟩
      · have h2 : 2305843009213693952 < b := by have := HH.out; omega
        have hd : decide (b < 1) = false := by simpa using h1
        go_enter Try.func6, Try.ntmps6
        go_wp2_with fail
        refine (works_any _).mono ?_
        rintro e w1 ⟨rfl, k1⟩
        go_wp2_with fail
        refine (clamp_no b x _ HH.out).mono ?_
        rintro e w2 ⟨rfl, rfl⟩
        go_wp2_with fail
        refine (sum_no b a n c _ HH.out).mono ?_
        rintro e w2 ⟨rfl, rfl⟩
        go_wp2_with fail
        refine (most_any _).mono ?_
        rintro e w2 ⟨rfl, rfl⟩
        go_wp2_with fail
        go_ret
        exact ⟨rfl, k1⟩
  · have e : min n 300 = 300 := by omega
    rw [e] at hi2 hkl
    have h2' : ¬ (n : Int) ≤ 300 := by omega
    have HI := Lib.hid hi2
    have HX := Lib.hid hi
    have HK := Lib.hid hkl
    clear hi2 hi hkl e hys
    by_cases hb : 1 ≤ b ∧ b ≤ 2305843009213693952
    · obtain ⟨h1, h2⟩ := hb
      have hd : decide (b < 1) = false := by simp; omega
      have hzb := betw_bd (b := b) x h1
      rw [← HC.out] at hzb
      have hsb := sumL_bd (b := b) ys h1
      rw [← HS.out] at hsb
      have HT := Lib.hid (betw_twice b z2 hzb)
      by_cases g1 : x < -b
      · have g2 : decide (x < -b) = true := by simpa using g1
        go_enter Try.func6, Try.ntmps6
        go_wp2_with fail
        refine (works_any _).mono ?_
        rintro e w1 ⟨rfl, k1⟩
        go_wp2_with fail
        refine (clamp_yes b x _ h1 h2).mono ?_
        rintro e w2 ⟨he, rfl⟩
        rw [← HC.out] at he
        subst he
        go_wp2_with fail
        refine (sum_yes b a 300 c ys _ (HI.out.keep0 k1) (by unfold maxLen; omega) h1 h2).mono ?_
        rintro e w2 ⟨he, rfl⟩
        rw [← HS.out] at he
        subst he
        go_wp2_with fail
        refine (most_any _).mono ?_
        rintro e w2 ⟨rfl, rfl⟩
        go_wp2_with fail
        refine (clamp_yes b z2 _ h1 h2).mono ?_
        rintro e w2 ⟨he, rfl⟩
        rw [HT.out] at he
        subst he
        go_wp2_with fail
        go_ret
        exact ⟨rfl, k1⟩
      · have g2 : decide (x < -b) = false := by simpa using g1
        by_cases g3 : b < x
        · have g4 : decide (b < x) = true := by simpa using g3
          go_enter Try.func6, Try.ntmps6
          go_wp2_with fail
          refine (works_any _).mono ?_
          rintro e w1 ⟨rfl, k1⟩
          go_wp2_with fail
          refine (clamp_yes b x _ h1 h2).mono ?_
          rintro e w2 ⟨he, rfl⟩
          rw [← HC.out] at he
          subst he
          go_wp2_with fail
          refine (sum_yes b a 300 c ys _ (HI.out.keep0 k1) (by unfold maxLen; omega) h1 h2).mono ?_
          rintro e w2 ⟨he, rfl⟩
          rw [← HS.out] at he
          subst he
          go_wp2_with fail
          refine (most_any _).mono ?_
          rintro e w2 ⟨rfl, rfl⟩
          go_wp2_with fail
          refine (clamp_yes b z2 _ h1 h2).mono ?_
          rintro e w2 ⟨he, rfl⟩
          rw [HT.out] at he
          subst he
          go_wp2_with fail
          go_ret
          exact ⟨rfl, k1⟩
        · have g4 : decide (b < x) = false := by simpa using g3
          have g5 : z2 = x := by rw [HC.out]; exact betw_same b x g1 g3
          have g6 : (z2 == x) = true := by simpa using g5
          clear g5
          go_enter Try.func6, Try.ntmps6
          go_wp2_with fail
          refine (works_any _).mono ?_
          rintro e w1 ⟨rfl, k1⟩
          go_wp2_with fail
          refine (clamp_yes b x _ h1 h2).mono ?_
          rintro e w2 ⟨he, rfl⟩
          rw [← HC.out] at he
          subst he
          go_wp2_with fail
          refine (sum_yes b a 300 c ys _ (HI.out.keep0 k1) (by unfold maxLen; omega) h1 h2).mono ?_
          rintro e w2 ⟨he, rfl⟩
          rw [← HS.out] at he
          subst he
          go_wp2_with fail
          refine (most_any _).mono ?_
          rintro e w2 ⟨rfl, rfl⟩
          go_wp2_with fail
          refine (clamp_yes b z2 _ h1 h2).mono ?_
          rintro e w2 ⟨he, rfl⟩
          rw [HT.out] at he
          subst he
          go_wp2_with fail
          go_ret
          exact ⟨rfl, k1⟩
    · have HH : Hid (b < 1 ∨ 2305843009213693952 < b) := Lib.hid (by omega)
      clear hb
      by_cases h1 : b < 1
      · have hd : decide (b < 1) = true := by simpa using h1
        go_enter Try.func6, Try.ntmps6
        go_wp2_with fail
        refine (works_any _).mono ?_
        rintro e w1 ⟨rfl, k1⟩
        go_wp2_with fail
        refine (clamp_no b x _ HH.out).mono ?_
        rintro e w2 ⟨rfl, rfl⟩
        go_wp2_with fail
        refine (sum_no b a 300 c _ HH.out).mono ?_
        rintro e w2 ⟨rfl, rfl⟩
        go_wp2_with fail
        go_ret
        exact ⟨rfl, k1⟩
      · have h2 : 2305843009213693952 < b := by have := HH.out; omega
        have hd : decide (b < 1) = false := by simpa using h1
        go_enter Try.func6, Try.ntmps6
        go_wp2_with fail
        refine (works_any _).mono ?_
        rintro e w1 ⟨rfl, k1⟩
        go_wp2_with fail
        refine (clamp_no b x _ HH.out).mono ?_
        rintro e w2 ⟨rfl, rfl⟩
        go_wp2_with fail
        refine (sum_no b a 300 c _ HH.out).mono ?_
        rintro e w2 ⟨rfl, rfl⟩
        go_wp2_with fail
        refine (most_any _).mono ?_
        rintro e w2 ⟨rfl, rfl⟩
        go_wp2_with fail
        go_ret
        exact ⟨rfl, k1⟩
end Go.Proofs.Ytfkopmgmhmmcbaa
