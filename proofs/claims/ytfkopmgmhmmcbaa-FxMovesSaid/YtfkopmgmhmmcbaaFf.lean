/- fx: the document's answers: the contracts. No condition but that all are numbers. -/
import Derived.Test.YtfkopmgmhmmcbaaFb
import Derived.Test.YtfkopmgmhmmcbaaFd
namespace Go.Proofs.Ytfkopmgmhmmcbaa
open Go.RowKit
set_option linter.unusedVariables false

theorem most_any (w : World) : Calls Try.prog 30 #[] w fun e w' => e = .returned (.int .i64 2305843009213693952) ∧ w = w' := by
  go_enter Try.func30, Try.ntmps30
  go_wp2
  go_ret
  exact ⟨rfl, rfl⟩

theorem refBetween_any (low high n : Int) (w : World) :
    Calls Try.prog 16 #[.int .i64 low, .int .i64 high, .int .i64 n] w fun e w' => e = .returned (.int .i64 (betw low high n)) ∧ w = w' := by
  by_cases h1 : n < low
  · have e : betw low high n = low := by unfold betw; rw [if_pos h1]
    rw [e]
    clear e
    go_enter Try.func16, Try.ntmps16
    go_wp2
    go_ret
    exact ⟨rfl, rfl⟩
  · by_cases h2 : high < n
    · have e : betw low high n = high := by unfold betw; rw [if_neg h1, if_pos h2]
      rw [e]
      clear e
      go_enter Try.func16, Try.ntmps16
      go_wp2
      go_ret
      exact ⟨rfl, rfl⟩
    · have e : betw low high n = n := by unfold betw; rw [if_neg h1, if_neg h2]
      rw [e]
      clear e
      go_enter Try.func16, Try.ntmps16
      go_wp2
      go_ret
      exact ⟨rfl, rfl⟩

theorem refClamp_yes (b n : Int) (w : World) (h1 : 1 ≤ b) (h2 : b ≤ 2305843009213693952) :
    Calls Try.prog 11 #[.int .i64 b, .int .i64 n] w fun e w' => e = .returned (.tuple #[.int .i64 (betw (-b) b n), .int .i64 0]) ∧ w = w' := by
  have hd : decide (b < 1) = false := by simp; omega
  go_enter Try.func11, Try.ntmps11
  go_wp2_with fail
  refine (most_any _).mono ?_
  rintro e w' ⟨rfl, rfl⟩
  go_wp2_with fail
  refine (refBetween_any _ _ _ _).mono ?_
  rintro e w' ⟨rfl, rfl⟩
  go_wp2_with fail
  go_ret2
  exact ⟨rfl, rfl⟩
theorem refClamp_no (b n : Int) (w : World) (h : b < 1 ∨ 2305843009213693952 < b) :
    Calls Try.prog 11 #[.int .i64 b, .int .i64 n] w fun e w' => e = .returned (.tuple #[.int .i64 0, .int .i64 2]) ∧ w = w' := by
  by_cases h1 : b < 1
  · clear h
    go_enter Try.func11, Try.ntmps11
    go_wp2
    go_ret2
    exact ⟨rfl, rfl⟩
  · have h2 : 2305843009213693952 < b := by omega
    have hd : decide (b < 1) = false := by simp; omega
    clear h
    go_enter Try.func11, Try.ntmps11
    go_wp2_with fail
    refine (most_any _).mono ?_
    rintro e w' ⟨rfl, rfl⟩
    go_wp2_with fail
    go_ret2
    exact ⟨rfl, rfl⟩

set_option maxHeartbeats 1000000 in
theorem refSum_yes (b : Int) (a : Option Addr) (n c : Nat) (xs : List Int) (w : World) (h : IntsAt w a n xs) (hn : n ≤ maxLen) (h1 : 1 ≤ b) (h2 : b ≤ 2305843009213693952) :
    Calls Try.prog 14 #[.int .i64 b, .slice a n c] w fun e w' => e = .returned (.tuple #[.int .i64 (sumL b xs), .int .i64 0]) ∧ w = w' := by
  unfold maxLen at hn
  have hd : decide (b < 1) = false := by simp; omega
  have HI := Lib.hid h
  have HLEN := Lib.hid (show n = xs.length from h.1)
  clear h
  go_enter Try.func14, Try.ntmps14
  go_wp2_with fail
  refine (most_any _).mono ?_
  rintro e w' ⟨rfl, rfl⟩
  go_wp2_with fail
  go_loop [6, 7] (fun s i => ∃ k : Nat, k ≤ n ∧ i = .int .i64 k ∧ s = .int .i64 (sumL b (xs.take k))) (fun _ i => n - (intOf i).toNat)
  case atStart => exact ⟨0, Nat.zero_le _, rfl, rfl⟩
  case round =>
    obtain ⟨k, hk, rfl, rfl⟩ := hrel
    have hsb := sumL_bd (b := b) (xs.take k) h1
    by_cases hlt : k < n
    · have hkx : k < xs.length := by have := HLEN.out; omega
      rcases a with _ | ⟨lb, lo', ls⟩
      · have := HI.out.2.1 rfl; rw [this] at hkx; simp at hkx
      obtain ⟨rfl, hlc⟩ := HI.out.2.2 lb lo' ls rfl (List.ne_nil_of_length_pos (by omega))
      have hx := hlc k hkx
      obtain ⟨x, ex⟩ : ∃ x, x = xs.getD k 0 := ⟨_, rfl⟩
      rw [← ex] at hx
      have hts : sumL b (xs.take (k + 1)) = sumS b (sumL b (xs.take k)) x := by rw [take_get xs hkx, sumL_snoc, ex]
      obtain ⟨s, es⟩ : ∃ s, s = sumL b (xs.take k) := ⟨_, rfl⟩
      rw [← es] at hsb hts ⊢
      unfold sumS betw at hts
      have HT := Lib.hid hts
      have EX := Lib.hid ex
      have ES := Lib.hid es
      clear hlc ex hts es hd
      by_cases hp : 0 < x
      · have hp1 : decide (0 < x) = true := by simpa using hp
        have hp2 : decide (x < 0) = false := by simp; omega
        by_cases hq : b - s < x
        · have hq1 : decide (b - s < x) = true := by simpa using hq
          have HR : Hid (sumL b (xs.take (k + 1)) = b) := Lib.hid (by rw [HT.out, if_neg (by omega), if_pos (by omega)])
          go_wp2_with fail
          go_round
          case rel => exact ⟨k + 1, by omega, by go_num, by rw [HR.out]⟩
          case measure => simp [intOf]; omega
        · have hq1 : decide (b - s < x) = false := by simp; omega
          have HR : Hid (sumL b (xs.take (k + 1)) = s + x) := Lib.hid (by rw [HT.out, if_neg (by omega), if_neg (by omega)])
          go_wp2_with fail
          go_round
          case rel => exact ⟨k + 1, by omega, by go_num, by rw [HR.out]⟩
          case measure => simp [intOf]; omega
      · have hp1 : decide (0 < x) = false := by simp; omega
        by_cases hp3 : x < 0
        · have hp4 : decide (x < 0) = true := by simpa using hp3
          by_cases hq : x < -b - s
          · have hq1 : decide (x < -b - s) = true := by simpa using hq
            have HR : Hid (sumL b (xs.take (k + 1)) = -b) := Lib.hid (by rw [HT.out, if_pos (by omega)])
            go_wp2_with fail
            go_round
            case rel => exact ⟨k + 1, by omega, by go_num, by rw [HR.out]⟩
            case measure => simp [intOf]; omega
          · have hq1 : decide (x < -b - s) = false := by simp; omega
            have HR : Hid (sumL b (xs.take (k + 1)) = s + x) := Lib.hid (by rw [HT.out, if_neg (by omega), if_neg (by omega)])
            go_wp2_with fail
            go_round
            case rel => exact ⟨k + 1, by omega, by go_num, by rw [HR.out]⟩
            case measure => simp [intOf]; omega
        · have hp4 : decide (x < 0) = false := by simp; omega
          have HR : Hid (sumL b (xs.take (k + 1)) = s + x) := Lib.hid (by rw [HT.out, if_neg (by omega), if_neg (by omega)])
          go_wp2_with fail
          go_round
          case rel => exact ⟨k + 1, by omega, by go_num, by rw [HR.out]⟩
          case measure => simp [intOf]; omega
    · have hkn : sumL b (xs.take k) = sumL b xs := by rw [List.take_of_length_le (by have := HLEN.out; omega)]
      rw [hkn]
      clear hkn hsb
      go_wp2_with fail
      go_ret2
      exact ⟨rfl, rfl⟩
theorem refSum_no (b : Int) (a : Option Addr) (n c : Nat) (w : World) (h : b < 1 ∨ 2305843009213693952 < b) :
    Calls Try.prog 14 #[.int .i64 b, .slice a n c] w fun e w' => e = .returned (.tuple #[.int .i64 0, .int .i64 2]) ∧ w = w' := by
  by_cases h1 : b < 1
  · clear h
    go_enter Try.func14, Try.ntmps14
    go_wp2
    go_ret2
    exact ⟨rfl, rfl⟩
  · have h2 : 2305843009213693952 < b := by omega
    have hd : decide (b < 1) = false := by simp; omega
    clear h
    go_enter Try.func14, Try.ntmps14
    go_wp2_with fail
    refine (most_any _).mono ?_
    rintro e w' ⟨rfl, rfl⟩
    go_wp2_with fail
    go_ret2
    exact ⟨rfl, rfl⟩

theorem refDown_yes (a b : Int) (w : World) (ha : I64 a) (hb : I64 b) (h1 : 1 ≤ b) :
    Calls Try.prog 19 #[.int .i64 a, .int .i64 b] w fun e w' => e = .returned (.tuple #[.int .i64 (a / b), .int .i64 0]) ∧ w = w' := by
  unfold I64 at ha hb
  have hbd := div_bd (b := b) (by omega) ha.1 ha.2
  obtain ⟨q, hq⟩ : ∃ q, q = a / b := ⟨_, rfl⟩
  rw [← hq] at hbd ⊢
  have hb0 : (b == 0) = false := by simp; omega
  by_cases h : a.tmod b < 0
  · obtain ⟨e1, e2⟩ := div_less (by omega) h
    have e3 : a.tdiv b = q + 1 := by omega
    obtain ⟨r, e4⟩ : ∃ r, a.tmod b = r := ⟨_, rfl⟩
    have hr := Int.lt_tmod_of_pos a (show 0 < b by omega)
    have ha0 : a < 0 := by
      by_cases h0 : a < 0
      · exact h0
      · have := Int.tmod_nonneg b (show 0 ≤ a by omega); omega
    have hq0 : q < 0 := by rw [hq]; exact Int.ediv_neg_of_neg_of_pos ha0 (by omega)
    rw [e4] at h hr
    clear e1 e2 hq
    go_enter Try.func19, Try.ntmps19
    go_wp2
    go_ret2
    exact ⟨rfl, rfl⟩
  · obtain ⟨e1, e2⟩ := div_same (by omega) h
    have e3 : a.tdiv b = q := by omega
    obtain ⟨r, e4⟩ : ∃ r, a.tmod b = r := ⟨_, rfl⟩
    have hr := Int.tmod_lt_of_pos a (show 0 < b by omega)
    rw [e4] at h hr
    clear e1 e2 hq
    go_enter Try.func19, Try.ntmps19
    go_wp2
    go_ret2
    exact ⟨rfl, rfl⟩
theorem refLeft_yes (a b : Int) (w : World) (ha : I64 a) (hb : I64 b) (h1 : 1 ≤ b) :
    Calls Try.prog 25 #[.int .i64 a, .int .i64 b] w fun e w' => e = .returned (.tuple #[.int .i64 (a % b), .int .i64 0]) ∧ w = w' := by
  unfold I64 at ha hb
  have hm0 := Int.emod_nonneg a (show b ≠ 0 by omega)
  have hm1 := Int.emod_lt_of_pos a (show 0 < b by omega)
  obtain ⟨r, hr⟩ : ∃ r, r = a % b := ⟨_, rfl⟩
  rw [← hr] at hm0 hm1 ⊢
  have hb0 : (b == 0) = false := by simp; omega
  by_cases h : a.tmod b < 0
  · obtain ⟨e1, e2⟩ := div_less (by omega) h
    have e4 : a.tmod b = r - b := by omega
    clear e1 e2 hr h
    go_enter Try.func25, Try.ntmps25
    go_wp2
    go_ret2
    exact ⟨rfl, rfl⟩
  · obtain ⟨e1, e2⟩ := div_same (by omega) h
    have e4 : a.tmod b = r := by omega
    clear e1 e2 hr h
    go_enter Try.func25, Try.ntmps25
    go_wp2
    go_ret2
    exact ⟨rfl, rfl⟩
theorem refDown_no (a b : Int) (w : World) (h1 : b < 1) :
    Calls Try.prog 19 #[.int .i64 a, .int .i64 b] w fun e w' => e = .returned (.tuple #[.int .i64 0, .int .i64 2]) ∧ w = w' := by
  go_enter Try.func19, Try.ntmps19
  go_wp2
  go_ret2
  exact ⟨rfl, rfl⟩
theorem refLeft_no (a b : Int) (w : World) (h1 : b < 1) :
    Calls Try.prog 25 #[.int .i64 a, .int .i64 b] w fun e w' => e = .returned (.tuple #[.int .i64 0, .int .i64 2]) ∧ w = w' := by
  go_enter Try.func25, Try.ntmps25
  go_wp2
  go_ret2
  exact ⟨rfl, rfl⟩
theorem refNear_no (a b : Int) (w : World) (h1 : b < 1) :
    Calls Try.prog 21 #[.int .i64 a, .int .i64 b] w fun e w' => e = .returned (.tuple #[.int .i64 0, .int .i64 2]) ∧ w = w' := by
  go_enter Try.func21, Try.ntmps21
  go_wp2_with fail
  refine (refDown_no a b _ h1).mono ?_
  rintro e w' ⟨rfl, rfl⟩
  go_wp2_with fail
  refine (refLeft_no a b _ h1).mono ?_
  rintro e w' ⟨rfl, rfl⟩
  go_wp2_with fail
  go_ret2
  exact ⟨rfl, rfl⟩
set_option maxHeartbeats 1000000 in
theorem refNear_yes (a b : Int) (w : World) (ha : I64 a) (hb : I64 b) (h1 : 1 ≤ b) :
    Calls Try.prog 21 #[.int .i64 a, .int .i64 b] w fun e w' => e = .returned (.tuple #[.int .i64 (nearI a b), .int .i64 0]) ∧ w = w' := by
  have HA := Lib.hid ha
  have HB := Lib.hid hb
  unfold I64 at ha hb
  have hm0 := Int.emod_nonneg a (show b ≠ 0 by omega)
  have hm1 := Int.emod_lt_of_pos a (show 0 < b by omega)
  have hup := q_up (a := a) (b := b) h1 ha.1 ha.2
  have hbd := div_bd (b := b) (by omega) ha.1 ha.2
  obtain ⟨q, hq⟩ : ∃ q, q = a / b := ⟨_, rfl⟩
  obtain ⟨r, hr⟩ : ∃ r, r = a % b := ⟨_, rfl⟩
  have hres : nearI a b = q + if upN (cmpI r (b - r)) a = true then 1 else 0 := by rw [hr, hq]; rfl
  rw [← hr] at hm0 hm1 hup
  rw [← hq] at hbd hup
  rw [hres]
  have HQ := Lib.hid hq
  have HR := Lib.hid hr
  clear hq hr hres
  rcases Int.lt_trichotomy r (b - r) with h | h | h
  · have e : cmpI r (b - r) = -1 := by unfold cmpI; rw [if_pos h]
    have e2 : upN (-1) a = false := decide_eq_false_iff_not.2 (by omega)
    rw [e, e2, if_neg (by decide), Int.add_zero]
    have c1 : decide (b - r < r) = false := by simp; omega
    have c2 : (r == b - r) = false := by simp; omega
    clear hup e e2
    go_enter Try.func21, Try.ntmps21
    go_wp2_with fail
    refine (refDown_yes a b _ HA.out HB.out h1).mono ?_
    rintro e w' ⟨he, rfl⟩
    rw [← HQ.out] at he
    subst he
    go_wp2_with fail
    refine (refLeft_yes a b _ HA.out HB.out h1).mono ?_
    rintro e w' ⟨he, rfl⟩
    rw [← HR.out] at he
    subst he
    go_wp2_with fail
    go_ret2
    exact ⟨rfl, rfl⟩
  · have e : cmpI r (b - r) = 0 := by unfold cmpI; rw [if_neg (by omega), if_neg (by omega)]
    have hu := hup (by omega)
    rw [e]
    have c1 : decide (b - r < r) = false := by simp; omega
    have c2 : (r == b - r) = true := by simp; omega
    clear hup e h
    by_cases hc : 0 < a
    · have e2 : upN 0 a = true := decide_eq_true_iff.2 (.inr ⟨rfl, hc⟩)
      rw [e2, if_pos rfl]
      have c3 : decide (0 < a) = true := by simpa using hc
      clear e2
      go_enter Try.func21, Try.ntmps21
      go_wp2_with fail
      refine (refDown_yes a b _ HA.out HB.out h1).mono ?_
      rintro e w' ⟨he, rfl⟩
      rw [← HQ.out] at he
      subst he
      go_wp2_with fail
      refine (refLeft_yes a b _ HA.out HB.out h1).mono ?_
      rintro e w' ⟨he, rfl⟩
      rw [← HR.out] at he
      subst he
      go_wp2_with fail
      go_ret2
      exact ⟨rfl, rfl⟩
    · have e2 : upN 0 a = false := decide_eq_false_iff_not.2 (by omega)
      rw [e2, if_neg (by decide), Int.add_zero]
      have c3 : decide (0 < a) = false := by simp; omega
      clear e2
      go_enter Try.func21, Try.ntmps21
      go_wp2_with fail
      refine (refDown_yes a b _ HA.out HB.out h1).mono ?_
      rintro e w' ⟨he, rfl⟩
      rw [← HQ.out] at he
      subst he
      go_wp2_with fail
      refine (refLeft_yes a b _ HA.out HB.out h1).mono ?_
      rintro e w' ⟨he, rfl⟩
      rw [← HR.out] at he
      subst he
      go_wp2_with fail
      go_ret2
      exact ⟨rfl, rfl⟩
  · have e : cmpI r (b - r) = 1 := by unfold cmpI; rw [if_neg (by omega), if_pos (by omega)]
    have e2 : upN 1 a = true := decide_eq_true_iff.2 (by omega)
    have hu := hup (by omega)
    rw [e, e2, if_pos rfl]
    have c1 : decide (b - r < r) = true := by simpa using h
    clear hup e e2
    go_enter Try.func21, Try.ntmps21
    go_wp2_with fail
    refine (refDown_yes a b _ HA.out HB.out h1).mono ?_
    rintro e w' ⟨he, rfl⟩
    rw [← HQ.out] at he
    subst he
    go_wp2_with fail
    refine (refLeft_yes a b _ HA.out HB.out h1).mono ?_
    rintro e w' ⟨he, rfl⟩
    rw [← HR.out] at he
    subst he
    go_wp2_with fail
    go_ret2
    exact ⟨rfl, rfl⟩
theorem refEven_no (a b : Int) (w : World) (h1 : b < 1) :
    Calls Try.prog 23 #[.int .i64 a, .int .i64 b] w fun e w' => e = .returned (.tuple #[.int .i64 0, .int .i64 2]) ∧ w = w' := by
  go_enter Try.func23, Try.ntmps23
  go_wp2_with fail
  refine (refDown_no a b _ h1).mono ?_
  rintro e w' ⟨rfl, rfl⟩
  go_wp2_with fail
  refine (refLeft_no a b _ h1).mono ?_
  rintro e w' ⟨rfl, rfl⟩
  go_wp2_with fail
  go_ret2
  exact ⟨rfl, rfl⟩
set_option maxHeartbeats 1000000 in
theorem refEven_yes (a b : Int) (w : World) (ha : I64 a) (hb : I64 b) (h1 : 1 ≤ b) :
    Calls Try.prog 23 #[.int .i64 a, .int .i64 b] w fun e w' => e = .returned (.tuple #[.int .i64 (evenI a b), .int .i64 0]) ∧ w = w' := by
  have HA := Lib.hid ha
  have HB := Lib.hid hb
  unfold I64 at ha hb
  have hm0 := Int.emod_nonneg a (show b ≠ 0 by omega)
  have hm1 := Int.emod_lt_of_pos a (show 0 < b by omega)
  have hup := q_up (a := a) (b := b) h1 ha.1 ha.2
  have hbd := div_bd (b := b) (by omega) ha.1 ha.2
  obtain ⟨q, hq⟩ : ∃ q, q = a / b := ⟨_, rfl⟩
  obtain ⟨r, hr⟩ : ∃ r, r = a % b := ⟨_, rfl⟩
  have hres : evenI a b = q + if upE (cmpI r (b - r)) q = true then 1 else 0 := by rw [hr, hq]; rfl
  rw [← hr] at hm0 hm1 hup
  rw [← hq] at hbd hup
  rw [hres]
  have HQ := Lib.hid hq
  have HR := Lib.hid hr
  clear hq hr hres
  rcases Int.lt_trichotomy r (b - r) with h | h | h
  · have e : cmpI r (b - r) = -1 := by unfold cmpI; rw [if_pos h]
    have e2 : upE (-1) q = false := decide_eq_false_iff_not.2 (by omega)
    rw [e, e2, if_neg (by decide), Int.add_zero]
    have c1 : decide (b - r < r) = false := by simp; omega
    have c2 : (r == b - r) = false := by simp; omega
    clear hup e e2
    go_enter Try.func23, Try.ntmps23
    go_wp2_with fail
    refine (refDown_yes a b _ HA.out HB.out h1).mono ?_
    rintro e w' ⟨he, rfl⟩
    rw [← HQ.out] at he
    subst he
    go_wp2_with fail
    refine (refLeft_yes a b _ HA.out HB.out h1).mono ?_
    rintro e w' ⟨he, rfl⟩
    rw [← HR.out] at he
    subst he
    go_wp2_with fail
    go_ret2
    exact ⟨rfl, rfl⟩
  · have e : cmpI r (b - r) = 0 := by unfold cmpI; rw [if_neg (by omega), if_neg (by omega)]
    have hu := hup (by omega)
    rw [e]
    have c1 : decide (b - r < r) = false := by simp; omega
    have c2 : (r == b - r) = true := by simp; omega
    clear hup e h
    by_cases hc : q.tmod 2 = 0
    · have e2 : upE 0 q = false := decide_eq_false_iff_not.2 (by have := (tmod2 q).1 hc; omega)
      rw [e2, if_neg (by decide), Int.add_zero]
      clear e2
      go_enter Try.func23, Try.ntmps23
      go_wp2_with fail
      refine (refDown_yes a b _ HA.out HB.out h1).mono ?_
      rintro e w' ⟨he, rfl⟩
      rw [← HQ.out] at he
      subst he
      go_wp2_with fail
      refine (refLeft_yes a b _ HA.out HB.out h1).mono ?_
      rintro e w' ⟨he, rfl⟩
      rw [← HR.out] at he
      subst he
      go_wp2_with fail
      go_ret2
      exact ⟨rfl, rfl⟩
    · have e2 : upE 0 q = true := decide_eq_true_iff.2 (.inr ⟨rfl, fun h => hc ((tmod2 q).2 h)⟩)
      rw [e2, if_pos rfl]
      have c3 : (q.tmod 2 != 0) = true := by simpa using hc
      clear e2
      go_enter Try.func23, Try.ntmps23
      go_wp2_with fail
      refine (refDown_yes a b _ HA.out HB.out h1).mono ?_
      rintro e w' ⟨he, rfl⟩
      rw [← HQ.out] at he
      subst he
      go_wp2_with fail
      refine (refLeft_yes a b _ HA.out HB.out h1).mono ?_
      rintro e w' ⟨he, rfl⟩
      rw [← HR.out] at he
      subst he
      go_wp2_with fail
      go_ret2
      exact ⟨rfl, rfl⟩
  · have e : cmpI r (b - r) = 1 := by unfold cmpI; rw [if_neg (by omega), if_pos (by omega)]
    have e2 : upE 1 q = true := decide_eq_true_iff.2 (by omega)
    have hu := hup (by omega)
    rw [e, e2, if_pos rfl]
    have c1 : decide (b - r < r) = true := by simpa using h
    clear hup e e2
    go_enter Try.func23, Try.ntmps23
    go_wp2_with fail
    refine (refDown_yes a b _ HA.out HB.out h1).mono ?_
    rintro e w' ⟨he, rfl⟩
    rw [← HQ.out] at he
    subst he
    go_wp2_with fail
    refine (refLeft_yes a b _ HA.out HB.out h1).mono ?_
    rintro e w' ⟨he, rfl⟩
    rw [← HR.out] at he
    subst he
    go_wp2_with fail
    go_ret2
    exact ⟨rfl, rfl⟩

theorem refSize_any (n : Int) (w : World) (h : I64 n) : Calls Try.prog 29 #[.int .i64 n] w fun e w' => e = .returned (.int .i64 (sizeI n)) ∧ w = w' := by
  unfold I64 at h
  by_cases h1 : n = -9223372036854775808
  · subst h1
    have e : sizeI (-9223372036854775808) = 9223372036854775807 := by decide
    rw [e]
    clear e
    go_enter Try.func29, Try.ntmps29
    go_wp2
    go_ret
    exact ⟨rfl, rfl⟩
  · have c1 : (n == -9223372036854775808) = false := by simpa using h1
    by_cases h2 : n < 0
    · have e : sizeI n = -n := by unfold sizeI; omega
      rw [e]
      have h3 : -n ≤ 9223372036854775807 := by omega
      have h4 : 0 ≤ -n := by omega
      clear e h1
      go_enter Try.func29, Try.ntmps29
      go_wp2
      go_ret
      exact ⟨rfl, rfl⟩
    · have e : sizeI n = n := by unfold sizeI; omega
      rw [e]
      clear e h1
      go_enter Try.func29, Try.ntmps29
      go_wp2
      go_ret
      exact ⟨rfl, rfl⟩

theorem refToward_any (a b s : Int) (w : World) (ha : I64 a) (hb : I64 b) (hs : I64 s) : Calls Try.prog 27 #[.int .i64 a, .int .i64 b, .int .i64 s] w fun e w' => e = .returned (.int .i64 (tow a b s)) ∧ w = w' := by
  unfold I64 at ha hb hs
  by_cases h1 : s < 1
  · have e : tow a b s = a := by unfold tow; rw [if_pos h1]
    rw [e]
    have c1 : decide (s < 1) = true := by simpa using h1
    clear e
    go_enter Try.func27, Try.ntmps27
    go_wp2
    go_ret
    exact ⟨rfl, rfl⟩
  · have c1 : decide (s < 1) = false := by simpa using h1
    have hsu : IntKind.u64.wrap s = s := u64_in s (by omega) (by omega)
    rcases Int.lt_trichotomy a b with h | h | h
    · have c2 : (a == b) = false := by simp; omega
      have e3 : IntKind.u64.wrap (IntKind.u64.wrap b - IntKind.u64.wrap a) = b - a := u64_sub b a (by omega) (by unfold I64; omega) (by unfold I64; omega)
      have ef : far a b = b - a := by unfold far; omega
      by_cases h2 : b - a ≤ s
      · have e : tow a b s = b := by unfold tow; rw [if_neg h1, if_pos (by rw [ef]; exact h2)]
        rw [e]
        clear e ef
        go_enter Try.func27, Try.ntmps27
        go_wp2
        go_ret
        exact ⟨rfl, rfl⟩
      · have e : tow a b s = a + s := by unfold tow; rw [if_neg h1, if_neg (by rw [ef]; exact h2), if_pos h]
        rw [e]
        clear e ef
        have h3 : a + s ≤ 9223372036854775807 := by omega
        have h4 : -9223372036854775808 ≤ a + s := by omega
        go_enter Try.func27, Try.ntmps27
        go_wp2
        go_ret
        exact ⟨rfl, rfl⟩
    · subst h
      have e : tow a a s = a := by unfold tow far; rw [if_neg h1, if_pos (by omega)]
      rw [e]
      clear e
      go_enter Try.func27, Try.ntmps27
      go_wp2
      go_ret
      exact ⟨rfl, rfl⟩
    · have c2 : (a == b) = false := by simp; omega
      have h' : ¬ a < b := by omega
      have e3 : IntKind.u64.wrap (IntKind.u64.wrap a - IntKind.u64.wrap b) = a - b := u64_sub a b (by omega) (by unfold I64; omega) (by unfold I64; omega)
      have ef : far a b = a - b := by unfold far; omega
      by_cases h2 : a - b ≤ s
      · have e : tow a b s = b := by unfold tow; rw [if_neg h1, if_pos (by rw [ef]; exact h2)]
        rw [e]
        clear e ef
        go_enter Try.func27, Try.ntmps27
        go_wp2
        go_ret
        exact ⟨rfl, rfl⟩
      · have e : tow a b s = a - s := by unfold tow; rw [if_neg h1, if_neg (by rw [ef]; exact h2), if_neg h']
        rw [e]
        clear e ef
        have h3 : -9223372036854775808 ≤ a - s := by omega
        go_enter Try.func27, Try.ntmps27
        go_wp2
        go_ret
        exact ⟨rfl, rfl⟩
end Go.Proofs.Ytfkopmgmhmmcbaa
