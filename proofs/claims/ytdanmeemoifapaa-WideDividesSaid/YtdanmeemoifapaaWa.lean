/- math/bits at this program: Mul, Add (no carry in), Div: the contracts. No condition but that all are numbers of 64 bits, and of Div that the high word is below the divisor. -/
import Derived.Test.YtdanmeemoifapaaKp
import Derived.Test.YtdanmeemoifapaaWs
import Derived.Test.YtdanmeemoifapaaWm
import Derived.IntWalk
import Derived.Laws.Externs
import Derived.BigQuiet
import Derived.Deep.CutBlock
import Derived.Deep.DeepCutAuto
namespace Go.Proofs.Ytdanmeemoifapaa
open Go.RowKit
set_option linter.unusedVariables false

theorem mul_bits (x y : Int) (w : World) (hx : 0 ≤ x) (hx1 : x < 18446744073709551616) (hy : 0 ≤ y) (hy1 : y < 18446744073709551616) :
    Calls Try.prog 27 #[.int .u64 x, .int .u64 y] w fun e w' => e = .returned (.tuple #[.int .u64 (x * y / 18446744073709551616), .int .u64 (x * y % 18446744073709551616)]) ∧ w = w' := by
  obtain ⟨a, rfl⟩ := Int.eq_ofNat_of_zero_le hx
  obtain ⟨b, rfl⟩ := Int.eq_ofNat_of_zero_le hy
  refine (bits_Mul a b (by omega) (by omega) w).mono ?_
  rintro e w' ⟨rfl, rfl⟩
  refine ⟨?_, rfl⟩
  have h : ((a * b : Nat) : Int) = a * b := Int.natCast_mul a b
  rw [← h, Int.natCast_ediv, Int.natCast_emod]
  rfl

theorem add64_run (x y : Int) (hx : 0 ≤ x) (hy : 0 ≤ y) (w : World) : (callFunc 42 #[.int .u64 x, .int .u64 y, .int .u64 0]).run Try.prog w =
    .ok (.value (.tuple #[.int .u64 ((x + y) % 18446744073709551616), .int .u64 ((x + y) / 18446744073709551616)])) w := by
  rw [run_callFunc_extern Try.func42 (by kernel_rfl) (by kernel_rfl) (by kernel_rfl) (e := add64Entry) (by kernel_rfl), run_add64 x y 0 hx hy (by omega) (by omega)]
  simp only [Result.andThen, Int.add_zero]

theorem add_bits (x y : Int) (w : World) (hx : 0 ≤ x) (hy : 0 ≤ y) :
    Calls Try.prog 29 #[.int .u64 x, .int .u64 y, .int .u64 0] w fun e w' => e = .returned (.tuple #[.int .u64 ((x + y) % 18446744073709551616), .int .u64 ((x + y) / 18446744073709551616)]) ∧ w = w' := by
  go_enter Try.func29, Try.ntmps29
  go_wp2_with (simp only [add64_run x y hx hy])
  go_ret2
  exact ⟨rfl, rfl⟩

theorem div64_small (lo y : Int) (w : World) (h1 : 0 < y) (h2 : 0 ≤ lo) (h3 : lo < 18446744073709551616) (h4 : y < 18446744073709551616) :
    Calls Try.prog 45 #[.int .u64 0, .int .u64 lo, .int .u64 y] w fun e w' => ∃ m, e = .returned (.tuple #[.int .u64 (lo / y), .int .u64 (lo % y)]) ∧ w' = w.drewN m := by
  have d1 := Int.ediv_nonneg h2 (Int.le_of_lt h1)
  have d2 := Int.ediv_le_self y h2
  have d3 := Int.emod_nonneg lo (show y ≠ 0 by omega)
  have d4 := Int.emod_lt_of_pos lo h1
  go_enter Try.func45, Try.ntmps45
  go_wp2
  go_quiet (fail)
  go_wp2
  go_ret2
  exact ⟨_, rfl, rfl⟩

set_option maxHeartbeats 2000000 in
theorem div64_big (hi lo y : Int) (w : World) (h0 : 0 < hi) (h1 : hi < y) (h2 : 0 ≤ lo) (h3 : lo < 18446744073709551616) (h4 : y < 18446744073709551616) :
    Calls Try.prog 45 #[.int .u64 hi, .int .u64 lo, .int .u64 y] w fun e w' => e = .returned (.tuple #[.int .u64 ((hi * 18446744073709551616 + lo) / y), .int .u64 ((hi * 18446744073709551616 + lo) % y)]) ∧ w = w' := by
  obtain ⟨s, p, r, hs, s0, s1, hp, hr, p0, hpr, y1, y2⟩ := shift_of y (by omega) (by omega)
  obtain ⟨Y, hY⟩ : ∃ Y, y * p = Y := ⟨_, rfl⟩
  rw [hY] at y1 y2
  obtain ⟨H, L, m, eH, eL, em, H0, L0, L1, m0, m1, hu, hHp, hV⟩ := long_div hi lo y p r Y h0 h1 h2 h3 p0 hpr hY y2
  have hor := or_of hi s.toNat H L (by omega) (by rw [hp]; exact eH) L0 (by rw [hp]; exact L1) (by omega)
  obtain ⟨u, hue⟩ : ∃ u, u = H + L := ⟨_, rfl⟩
  rw [← hue] at hor hu hV
  obtain ⟨d1, hd1⟩ : ∃ d, Y / 4294967296 = d := ⟨_, rfl⟩
  obtain ⟨d0, hd0⟩ : ∃ d, Y % 4294967296 = d := ⟨_, rfl⟩
  obtain ⟨a1, ha1⟩ : ∃ d, m / 4294967296 = d := ⟨_, rfl⟩
  obtain ⟨a0, ha0⟩ : ∃ d, m % 4294967296 = d := ⟨_, rfl⟩
  have hYd : Y = d1 * 4294967296 + d0 := by omega
  have hma : m = a1 * 4294967296 + a0 := by omega
  have mask : ∀ x : Int, 0 ≤ x → x < 18446744073709551616 → bits .and .u64 x 4294967295 = x % 4294967296 := by
    intro x x0 x1
    obtain ⟨n, rfl⟩ := Int.eq_ofNat_of_zero_le x0
    have h := bits_and_u64_nat n 4294967295 (by omega) (by omega)
    rw [Nat.and_two_pow_sub_one_eq_mod n 32] at h
    exact h
  have hm1 : min s.toNat 64 = s.toNat := by omega
  have hm2 : min (64 - s).toNat 64 = (64 - s).toNat := by omega
  have hand1 : bits .and .u64 Y 4294967295 = d0 := by rw [mask Y (by omega) y2, hd0]
  have hand2 : bits .and .u64 m 4294967295 = a0 := by rw [mask m (by omega) m1, ha0]
  have hwm : IntKind.u64.wrap (lo * p) = m := by rw [← em, IntKind.wrap_u64]
  obtain ⟨Q1, A1, B1, eQ1, eR1, q10, q11, eA1, eB1, A10, B10, B11, r10, r11, A11, A12, g11, g12, g13, g14⟩ := half_step d1 d0 u a1 (by omega) (by omega) (by omega) (by omega) (by omega) (by omega) (by omega) (by omega)
  obtain ⟨k1, k10, k11, hk1⟩ := half_guess (by omega) eA1 A11 A12 g12 g13 g14
  obtain ⟨q, hq⟩ : ∃ q, u / d1 = q := ⟨_, rfl⟩
  rw [hq] at hk1 g11 g12 g13 g14
  obtain ⟨C, hC⟩ : ∃ C, q * d1 = C := ⟨_, rfl⟩
  rw [hC] at g12 g13 g14
  have hst : (q - Q1 = 0 ∧ u - C - u + A1 = 0) ∨ (q - Q1 = 1 ∧ u - C - u + A1 = - d1) ∨ (q - Q1 = 2 ∧ u - C - u + A1 = - 2 * d1) := by
    have hk : k1 = 0 ∨ k1 = 1 ∨ k1 = 2 := by omega
    rcases hk with rfl | rfl | rfl
    · have e : q - Q1 = 0 := by omega
      rw [e] at g14
      left; omega
    · have e : q - Q1 = 1 := by omega
      rw [e] at g14
      right; left; omega
    · have e : q - Q1 = 2 := by omega
      rw [e] at g14
      right; right; omega
  have hB1 : Q1 * d0 = B1 := eB1.symm
  have hX1 : Q1 * Y = A1 * 4294967296 + B1 := by rw [hYd, eA1, ← hB1, Int.mul_add, ← Int.mul_assoc]
  have hC0 : 0 ≤ C := by
    have hu0 : 0 ≤ u := by omega
    have : 0 ≤ q := by rw [← hq]; exact Int.ediv_nonneg hu0 (by omega)
    rw [← hC]; exact Int.mul_nonneg this (by omega)
  have b1 : 2147483648 ≤ d1 := by omega
  have b2 : d1 < 4294967296 := by omega
  have b3 : 0 ≤ d0 := by omega
  have b4 : d0 < 4294967296 := by omega
  have b5 : 0 ≤ a1 := by omega
  have b6 : a1 < 4294967296 := by omega
  have b7 : 0 ≤ a0 := by omega
  have b8 : a0 < 4294967296 := by omega
  have b9 : 0 ≤ u := by omega
  obtain ⟨t, ht⟩ : ∃ t, u - C = t := ⟨_, rfl⟩
  have ht0 : 0 ≤ t := by omega
  have ht1 : t < 4294967296 := by omega
  have hat1 : (q - Q1 = 0 ∧ t + A1 - u = 0) ∨ (q - Q1 = 1 ∧ t + A1 - u = - d1) ∨ (q - Q1 = 2 ∧ t + A1 - u = - 2 * d1) := by omega
  obtain ⟨Q, hQ⟩ : ∃ q, q = (hi * 18446744073709551616 + lo) / y := ⟨_, rfl⟩
  obtain ⟨R, hR⟩ : ∃ q, q = (hi * 18446744073709551616 + lo) % y := ⟨_, rfl⟩
  rw [← hQ, ← hR]
  have HS := Lib.hid hs
  have HQ := Lib.hid hQ
  have HR := Lib.hid hR
  have HV := Lib.hid hV
  have HPR := Lib.hid hpr
  have HYD := Lib.hid hYd
  have HMA := Lib.hid hma
  have HUE := Lib.hid hue
  have HK := Lib.hid hk1
  have HST := Lib.hid hat1
  have HQ1 := Lib.hid eQ1
  have HR1 := Lib.hid eR1
  have HA1 := Lib.hid eA1
  have HX1 := Lib.hid hX1
  clear hQ hR hs hpr hV hYd hma hue hk1 hst hat1 eQ1 eR1 eA1 eB1 hX1 mask g14 em hd0 ha0
  go_enter Try.func45, Try.ntmps45
  go_upto_block 0 with (go_at_call 46; refine (bits_LeadingZeros64 y _ (by omega) (by omega)).mono ?_; rintro e w' ⟨he, hw⟩; rw [HS.out] at he; subst he; rw [hw])
  rw [hq]
  clear eH eL hor hd1 ha1 hm1 hm2 hand1 hand2 hwm hq hC ht
  go_cut [15] (fun qv wx => qv = .int .u64 Q1 ∧ w = wx)
  case first =>
    go_wp2_with fail
    go_loop [15, 16] (fun qv rv => ∃ q r : Int, qv = .int .u64 q ∧ rv = .int .u64 r ∧ q ≤ 4294967297 ∧ 0 ≤ r ∧ r < 4294967296 ∧ ((q - Q1 = 0 ∧ r + A1 - u = 0) ∨ (q - Q1 = 1 ∧ r + A1 - u = - d1) ∨ (q - Q1 = 2 ∧ r + A1 - u = - 2 * d1))) (fun qv _ => (intOf qv - Q1).toNat)
    case atStart => exact ⟨q, t, rfl, rfl, g11, ht0, ht1, HST.out⟩
    case round =>
      clear g11 g12 g13 ht0 ht1 hC0
      obtain ⟨q, r, rfl, rfl, g11, ht0, ht1, hat⟩ := hrel
      rcases hat with ⟨e1, e2⟩ | ⟨e1, e2⟩ | ⟨e1, e2⟩
      · obtain rfl : q = Q1 := by omega
        clear e1
        have n1 : ¬ 4294967296 ≤ q := by omega
        have n2 : decide (4294967296 * r + a1 < B1) = false := by simp; omega
        go_wp2_with fail
        go_meet
        exact ⟨rfl, rfl⟩
      · by_cases hbig : 4294967296 ≤ q
        · have n1 : decide (4294967296 ≤ q) = true := by simpa using hbig
          by_cases hbr : 4294967296 ≤ r + d1
          · go_wp2_with fail
            go_meet
            exact ⟨by congr 1; omega, rfl⟩
          · go_wp2_with fail
            go_round
            case rel => exact ⟨q - 1, r + d1, rfl, rfl, by omega, by omega, by omega, by left; omega⟩
            case measure => simp [intOf]; omega
        · obtain ⟨P, hP⟩ : ∃ P, q * d0 = P := ⟨_, rfl⟩
          have hPe : P = B1 + 1 * d0 := by rw [← hP, show q = Q1 + 1 by omega, Int.add_mul, hB1]
          have hP1 : P ≤ 4294967295 * d0 := by rw [← hP]; exact Int.mul_le_mul_of_nonneg_right (by omega) b3
          have n2 : decide (4294967296 * r + a1 < P) = true := by simp; omega
          have n3 : 0 ≤ P := by omega
          clear hPe
          by_cases hbr : 4294967296 ≤ r + d1
          · go_wp2_with fail
            go_meet
            exact ⟨by congr 1; omega, rfl⟩
          · go_wp2_with fail
            go_round
            case rel => exact ⟨q - 1, r + d1, rfl, rfl, by omega, by omega, by omega, by left; omega⟩
            case measure => simp [intOf]; omega
      · by_cases hbig : 4294967296 ≤ q
        · have n1 : decide (4294967296 ≤ q) = true := by simpa using hbig
          have hbr : ¬ 4294967296 ≤ r + d1 := by omega
          · go_wp2_with fail
            go_round
            case rel => exact ⟨q - 1, r + d1, rfl, rfl, by omega, by omega, by omega, by right; left; omega⟩
            case measure => simp [intOf]; omega
        · obtain ⟨P, hP⟩ : ∃ P, q * d0 = P := ⟨_, rfl⟩
          have hPe : P = B1 + 2 * d0 := by rw [← hP, show q = Q1 + 2 by omega, Int.add_mul, hB1]
          have hP1 : P ≤ 4294967295 * d0 := by rw [← hP]; exact Int.mul_le_mul_of_nonneg_right (by omega) b3
          have n2 : decide (4294967296 * r + a1 < P) = true := by simp; omega
          have n3 : 0 ≤ P := by omega
          clear hPe
          have hbr : ¬ 4294967296 ≤ r + d1 := by omega
          · go_wp2_with fail
            go_round
            case rel => exact ⟨q - 1, r + d1, rfl, rfl, by omega, by omega, by omega, by right; left; omega⟩
            case measure => simp [intOf]; omega
  case rest =>
    obtain ⟨rfl, rfl⟩ := hcut
    clear g11 g12 g13 ht0 ht1 hC0 HST
    go_upto_region 22 with fail
    obtain ⟨v, hv⟩ : ∃ v, v = (u - A1) * 4294967296 + a1 - B1 := ⟨_, rfl⟩
    rw [← hv] at r10 r11
    have hYd := HYD.out
    have hw1 : IntKind.u64.wrap (IntKind.u64.wrap (IntKind.u64.wrap (u * 4294967296) + a1) - IntKind.u64.wrap (Q1 * Y)) = v := by
      rw [HX1.out]
      simp only [IntKind.wrap_u64]
      omega
    rw [hw1]
    obtain ⟨Q2, A2, B2, eQ2, eR2, q20, q21, eA2, eB2, A20, B20, B21, r20, r21, A21, A22, g21, g22, g23, g24⟩ := half_step d1 d0 v a0 b1 b2 b3 b4 r10 r11 b7 b8
    obtain ⟨k2, k20, k21, hk2⟩ := half_guess (by omega) eA2 A21 A22 g22 g23 g24
    have hX2 : Q2 * Y = A2 * 4294967296 + B2 := by rw [hYd, eA2, eB2, Int.mul_add, ← Int.mul_assoc]
    have hfin := halves (hi * 18446744073709551616 + lo) y p Y u a1 a0 Q1 v Q2 ((v - A2) * 4294967296 + a0 - B2) (by omega) p0 hY (by have := HV.out; have := HMA.out; omega) (by have := HX1.out; omega) (by omega) r20 (by omega)
    rw [← HQ.out, ← HR.out] at hfin
    obtain ⟨z, hz⟩ : ∃ z, z = (v - A2) * 4294967296 + a0 - B2 := ⟨_, rfl⟩
    rw [← hz] at r20 r21 hfin
    have hw2 : IntKind.u64.wrap (IntKind.u64.wrap (IntKind.u64.wrap (v * 4294967296) + a0) - IntKind.u64.wrap (Q2 * Y)) = z := by
      rw [hX2]
      simp only [IntKind.wrap_u64]
      omega
    obtain ⟨q, hq⟩ : ∃ q, v / d1 = q := ⟨_, rfl⟩
    rw [hq] at hk2 g21 g22 g23 g24
    obtain ⟨C, hC⟩ : ∃ C, q * d1 = C := ⟨_, rfl⟩
    rw [hC] at g22 g23 g24
    have hst : (q - Q2 = 0 ∧ v - C - v + A2 = 0) ∨ (q - Q2 = 1 ∧ v - C - v + A2 = - d1) ∨ (q - Q2 = 2 ∧ v - C - v + A2 = - 2 * d1) := by
      have hk : k2 = 0 ∨ k2 = 1 ∨ k2 = 2 := by omega
      rcases hk with rfl | rfl | rfl
      · have e : q - Q2 = 0 := by omega
        rw [e] at g24
        left; omega
      · have e : q - Q2 = 1 := by omega
        rw [e] at g24
        right; left; omega
      · have e : q - Q2 = 2 := by omega
        rw [e] at g24
        right; right; omega
    have hB2 : Q2 * d0 = B2 := eB2.symm
    have hC0 : 0 ≤ C := by
      have : 0 ≤ q := by rw [← hq]; exact Int.ediv_nonneg r10 (by omega)
      rw [← hC]; exact Int.mul_nonneg this (by omega)
    obtain ⟨t, ht⟩ : ∃ t, v - C = t := ⟨_, rfl⟩
    have ht0 : 0 ≤ t := by omega
    have ht1 : t < 4294967296 := by omega
    have hat2 : (q - Q2 = 0 ∧ t + A2 - v = 0) ∨ (q - Q2 = 1 ∧ t + A2 - v = - d1) ∨ (q - Q2 = 2 ∧ t + A2 - v = - 2 * d1) := by omega
    have hv1 : v < 18446744073709551616 := by omega
    have HST2 := Lib.hid hat2
    have HFIN := Lib.hid hfin
    have HW2 := Lib.hid hw2
    have HZ := Lib.hid hz
    have HVV := Lib.hid hv
    have hpm := hp
    clear hv hYd hw1 eQ2 eR2 eA2 eB2 g24 hk2 hX2 hfin hz hw2 hst hat2 hB1 hY
    go_upto_block 2 with fail
    rw [hq]
    clear hq hC ht
    go_cut [18] (fun qv wx => qv = .int .u64 Q2 ∧ w = wx)
    case first =>
      go_wp2_with fail
      go_loop [18, 16] (fun qv rv => ∃ q r : Int, qv = .int .u64 q ∧ rv = .int .u64 r ∧ q ≤ 4294967297 ∧ 0 ≤ r ∧ r < 4294967296 ∧ ((q - Q2 = 0 ∧ r + A2 - v = 0) ∨ (q - Q2 = 1 ∧ r + A2 - v = - d1) ∨ (q - Q2 = 2 ∧ r + A2 - v = - 2 * d1))) (fun qv _ => (intOf qv - Q2).toNat)
      case atStart => exact ⟨q, t, rfl, rfl, g21, ht0, ht1, HST2.out⟩
      case round =>
        clear g21 g22 g23 ht0 ht1 hC0
        obtain ⟨q, r, rfl, rfl, g11, ht0, ht1, hat⟩ := hrel
        have hz := HZ.out
        rcases hat with ⟨e1, e2⟩ | ⟨e1, e2⟩ | ⟨e1, e2⟩
        · obtain rfl : q = Q2 := by omega
          clear e1
          have n1 : ¬ 4294967296 ≤ q := by omega
          have n2 : decide (4294967296 * r + a0 < B2) = false := by simp; omega
          clear hz
          go_wp2_with fail
          go_meet
          exact ⟨rfl, rfl⟩
        · by_cases hbig : 4294967296 ≤ q
          · have n1 : decide (4294967296 ≤ q) = true := by simpa using hbig
            by_cases hbr : 4294967296 ≤ r + d1
            · go_wp2_with fail
              go_meet
              exact ⟨by congr 1; omega, rfl⟩
            · go_wp2_with fail
              go_round
              case rel => exact ⟨q - 1, r + d1, rfl, rfl, by omega, by omega, by omega, by left; omega⟩
              case measure => simp [intOf]; omega
          · obtain ⟨P, hP⟩ : ∃ P, q * d0 = P := ⟨_, rfl⟩
            have hPe : P = B2 + 1 * d0 := by rw [← hP, show q = Q2 + 1 by omega, Int.add_mul, hB2]
            have hP1 : P ≤ 4294967295 * d0 := by rw [← hP]; exact Int.mul_le_mul_of_nonneg_right (by omega) b3
            have n2 : decide (4294967296 * r + a0 < P) = true := by simp; omega
            have n3 : 0 ≤ P := by omega
            clear hPe
            by_cases hbr : 4294967296 ≤ r + d1
            · go_wp2_with fail
              go_meet
              exact ⟨by congr 1; omega, rfl⟩
            · go_wp2_with fail
              go_round
              case rel => exact ⟨q - 1, r + d1, rfl, rfl, by omega, by omega, by omega, by left; omega⟩
              case measure => simp [intOf]; omega
        · by_cases hbig : 4294967296 ≤ q
          · have n1 : decide (4294967296 ≤ q) = true := by simpa using hbig
            have hbr : ¬ 4294967296 ≤ r + d1 := by omega
            · go_wp2_with fail
              go_round
              case rel => exact ⟨q - 1, r + d1, rfl, rfl, by omega, by omega, by omega, by right; left; omega⟩
              case measure => simp [intOf]; omega
          · obtain ⟨P, hP⟩ : ∃ P, q * d0 = P := ⟨_, rfl⟩
            have hPe : P = B2 + 2 * d0 := by rw [← hP, show q = Q2 + 2 by omega, Int.add_mul, hB2]
            have hP1 : P ≤ 4294967295 * d0 := by rw [← hP]; exact Int.mul_le_mul_of_nonneg_right (by omega) b3
            have n2 : decide (4294967296 * r + a0 < P) = true := by simp; omega
            have n3 : 0 ≤ P := by omega
            clear hPe
            have hbr : ¬ 4294967296 ≤ r + d1 := by omega
            · go_wp2_with fail
              go_round
              case rel => exact ⟨q - 1, r + d1, rfl, rfl, by omega, by omega, by omega, by right; left; omega⟩
              case measure => simp [intOf]; omega
    case rest =>
      obtain ⟨rfl, rfl⟩ := hcut
      clear g21 g22 g23 ht0 ht1 hC0 HST2
      go_wp2_with fail
      rw [HW2.out]
      go_ret2
      exact ⟨by rw [HFIN.out.1, HFIN.out.2]; rfl, rfl⟩

/-- math/bits.Div: a number of two words by one word above the first: the quotient, and what is left. -/
theorem div_bits (hi lo y : Int) (w : World) (h0 : 0 ≤ hi) (h1 : hi < y) (h2 : 0 ≤ lo) (h3 : lo < 18446744073709551616) (h4 : y < 18446744073709551616) :
    Calls Try.prog 43 #[.int .u64 hi, .int .u64 lo, .int .u64 y] w fun e w' => ∃ m, e = .returned (.tuple #[.int .u64 ((hi * 18446744073709551616 + lo) / y), .int .u64 ((hi * 18446744073709551616 + lo) % y)]) ∧ w' = w.drewN m := by
  have key : Calls Try.prog 45 #[.int .u64 hi, .int .u64 lo, .int .u64 y] w fun e w' => ∃ m, e = .returned (.tuple #[.int .u64 ((hi * 18446744073709551616 + lo) / y), .int .u64 ((hi * 18446744073709551616 + lo) % y)]) ∧ w' = w.drewN m := by
    by_cases h : hi = 0
    · subst h
      simpa using div64_small lo y w (by omega) h2 h3 h4
    · refine (div64_big hi lo y w (by omega) h1 h2 h3 h4).mono ?_
      rintro e w' ⟨rfl, rfl⟩
      exact ⟨0, rfl, rfl⟩
  obtain ⟨Q, hQ⟩ : ∃ q, q = (hi * 18446744073709551616 + lo) / y := ⟨_, rfl⟩
  obtain ⟨R, hR⟩ : ∃ q, q = (hi * 18446744073709551616 + lo) % y := ⟨_, rfl⟩
  rw [← hQ, ← hR] at key ⊢
  clear hQ hR
  go_enter Try.func43, Try.ntmps43
  go_wp2_with (go_at_call 45; refine key.mono ?_; rintro e w' ⟨m, rfl, rfl⟩)
  go_ret2
  exact ⟨_, rfl, rfl⟩
end Go.Proofs.Ytdanmeemoifapaa
