/- The document's wide numbers: the contract of Bits: the parts of a number with its sign. No condition but that the number is below 2 to 127. -/
import Derived.Test.YtdanmeemoifapaaDe
namespace Go.Proofs.Ytdanmeemoifapaa
open Go.RowKit
set_option linter.unusedVariables false

theorem e8 : (256 : Nat) ^ 8 = 18446744073709551616 := by decide
theorem e16 : (256 : Nat) ^ 16 = 340282366920938463463374607431768211456 := by decide
theorem sixteen_eq : (#[.int .i64 0, .int .i64 0, .int .i64 0, .int .i64 0, .int .i64 0, .int .i64 0, .int .i64 0, .int .i64 0, .int .i64 0, .int .i64 0, .int .i64 0, .int .i64 0, .int .i64 0, .int .i64 0, .int .i64 0, .int .i64 0, .int .i64 1, .int .i64 0, .int .i64 0, .int .i64 0] : Array Value) = arr (dig 340282366920938463463374607431768211456) := by
  have : arr (dig 340282366920938463463374607431768211456) = arr (fun k => if k = 16 then (1 : Int) else 0) := arr_congr fun k hk => by
    rw [← e16]
    unfold dig
    by_cases h : k = 16
    · subst h; decide
    · rw [if_neg h]
      by_cases h2 : k < 16
      · have : (256 : Nat) ^ 16 = 256 ^ k * (256 ^ (15 - k) * 256) := by rw [← Nat.pow_succ, ← Nat.pow_add]; congr 1; omega
        rw [this, Nat.mul_div_cancel_left _ (pow_pos256 k), Nat.mul_mod_left]; rfl
      · rw [Nat.div_eq_of_lt (Nat.pow_lt_pow_right (by decide) (by omega))]; rfl
  rw [this]; rfl

theorem dig_mod (x n k : Nat) (h : k < n) : dig x k = dig (x % 256 ^ n) k := by
  unfold dig
  have : (256 : Nat) ^ n = 256 ^ k * (256 * 256 ^ (n - k - 1)) := by rw [← Nat.pow_succ', ← Nat.pow_add]; congr 1; omega
  rw [this, Nat.mod_mul_right_div_self, Nat.mod_mul_right_mod]
theorem dig_shift (x n k : Nat) : dig x (n + k) = dig (x / 256 ^ n) k := by
  unfold dig
  rw [Nat.pow_add, Nat.div_div_eq_div_mul]

/-- A number with its sign. -/
def sgn (m : Bool) (x : Nat) : Int := if m then -(x : Int) else x

set_option maxHeartbeats 2000000 in
theorem bits_any (m : Bool) (x : Nat) (hx : x < 170141183460469231731687303715884105728) (w : World) :
    Calls Try.prog 26 #[.agg (numA m (dig x))] w fun e w' => e = .returned (.tuple #[.int .i64 (sgn m x / 18446744073709551616), .int .u64 (sgn m x % 18446744073709551616)]) ∧ Keeps [] w w' := by
  obtain ⟨zh, hzh⟩ : ∃ z, z = sgn m x / 18446744073709551616 := ⟨_, rfl⟩
  obtain ⟨zl, hzl⟩ : ∃ z, z = sgn m x % 18446744073709551616 := ⟨_, rfl⟩
  obtain ⟨v, hv⟩ : ∃ v : Nat, v = if m then (if x = 0 then 0 else 256 ^ 16 - x) else x := ⟨_, rfl⟩
  obtain ⟨v1, hv1⟩ : ∃ v1, v1 = v % 256 ^ 8 := ⟨_, rfl⟩
  obtain ⟨v2, hv2⟩ : ∃ v2, v2 = v / 256 ^ 8 := ⟨_, rfl⟩
  have hvb : v < 256 ^ 16 := by
    rw [hv, e16]
    split
    · split <;> omega
    · omega
  have HV1 : Hid (v1 < 256 ^ 8) := Lib.hid (by rw [hv1]; exact Nat.mod_lt _ (by decide))
  have HV2 : Hid (v2 < 256 ^ 8) := Lib.hid (by rw [hv2, e8]; rw [e16] at hvb; omega)
  have HLO : Hid (∀ k, k < 8 → dig v k = dig v1 k) := Lib.hid (fun k hk => by rw [hv1]; exact dig_mod v 8 k hk)
  have HHI : Hid (∀ k, k < 8 → dig v (8 + k) = dig v2 k) := Lib.hid (fun k hk => by rw [hv2]; exact dig_shift v 8 k)
  have HZ : Hid (((v2 : Nat) : Int) + 9223372036854775808 = zh + 9223372036854775808 + (if zh < 0 then 18446744073709551616 else 0) ∧ zl = (v1 : Nat) ∧ -9223372036854775808 ≤ zh ∧ zh ≤ 9223372036854775807) := Lib.hid (by
    rw [hzh, hzl, hv1, hv2, e8]
    unfold sgn
    rw [e16] at hv
    cases m
    · simp only [Bool.false_eq_true, if_false] at hv ⊢
      rw [if_neg (by omega)]
      omega
    · simp only [if_true] at hv ⊢
      split at hv
      · rw [if_neg (by omega)]; omega
      · rw [if_pos (by omega)]; omega)
  rw [← hzh, ← hzl]
  have HX : Hid (x ≤ 340282366920938463463374607431768211456) := Lib.hid (by omega)
  have HX2 : Hid (x < 256 ^ 20) := Lib.hid (by have : (256 : Nat) ^ 20 = 1461501637330902918203684832716283019655932542976 := by decide
                                               rw [this]; omega)
  have HVE := Lib.hid hv
  have hx0 : x = 0 ∨ x ≠ 0 := by omega
  clear hzh hzl hv hv1 hv2 hvb hx
  go_enter Try.func26, Try.ntmps26
  go_upto_region 1 with fail
  have h0 : NumAt (w.alloc (.cells (numA m (dig x)) 29)) w.heap.size m (dig x) := heap_alloc_new w _
  have k0 : Keeps [] w (w.alloc (.cells (numA m (dig x)) 29)) := (Keeps.refl _ _).alloc _
  have s0 : (w.alloc (.cells (numA m (dig x)) 29)).heap.size = w.heap.size + 1 := by simp
  generalize w.alloc (.cells (numA m (dig x)) 29) = w0 at *
  have h1 : ArrAt (w0.alloc (.cells (arr (dig 0)) 27)) (w.heap.size + 1) (dig 0) := by rw [← s0]; exact heap_alloc_new w0 _
  have h2 : NumAt (w0.alloc (.cells (arr (dig 0)) 27)) w.heap.size m (dig x) := heap_alloc_held h0 _
  have k1 := k0.alloc (.cells (arr (dig 0)) 27)
  go_upto_region 2 with (first | (refine ld_mid _ h0 rfl rfl rfl ?_; simp only [Act.put]) | (simp only [zeros_eq]; refine st_arr _ _ h1 rfl rfl rfl rfl ?_; intro w1 h3 k3 s3; simp only [Act.put]; have h4 := k3.held h2 (by simp); have k4 := k1.trans k3 (by simp); clear h1 h2 k1 h0 k0))
  have c9 := NumAt.sign h4
  cases m
  · have hvx : v = x := HVE.out
    subst hvx
    have HA := Lib.hid h3
    have KF := k4
    clear h3 h4 k3
    go_wp2_with fail
    go_loop [5, 6, 7] (fun lv hv v => ∃ (k : Nat) (L H : Int), k ≤ 8 ∧ v = .int .i64 ((k : Int) - 1) ∧ lv = .int .u64 L ∧ hv = .int .u64 H ∧ L = (v1 / 256 ^ k : Nat) ∧ H = (v2 / 256 ^ k : Nat)) (fun _ _ v => (intOf v + 1).toNat)
    case atStart => exact ⟨8, 0, 0, by omega, by simp, rfl, rfl, by rw [Nat.div_eq_of_lt HV1.out]; rfl, by rw [Nat.div_eq_of_lt HV2.out]; rfl⟩
    case round =>
      obtain ⟨k, L, H, hk, rfl, rfl, rfl, hL, hH⟩ := hrel
      cases k with
      | zero =>
        simp only [Nat.pow_zero, Nat.div_one] at hL hH
        have hf : Value.tuple #[.int .i64 (wrap64 H), .int .u64 L] = .tuple #[.int .i64 zh, .int .u64 zl] := by
          have h1 := HZ.out
          rw [show wrap64 H = zh by unfold wrap64; omega, show L = zl by omega]
        have HF := Lib.hid hf
        clear hL hH hf
        go_wp2_with fail
        refine bodyPost_ret (results_tmp2 rfl _ _ _) rfl ?_
        exact ⟨congrArg Ending.returned HF.out, KF⟩
      | succ k =>
        have ei : ((k + 1 : Nat) : Int) - 1 = k := by omega
        have c0 := (HA.out).cell k (by omega)
        have c1 := (HA.out).cell (8 + k) (by omega)
        have e1 := up_step v1 k
        have e2 := up_step v2 k
        have g1 := HLO.out k (by omega)
        have g2 := HHI.out k (by omega)
        have d1 := dig_lo v1 k
        have d2 := dig_hi v1 k
        have d3 := dig_lo v2 k
        have d4 := dig_hi v2 k
        have u1 : ((v1 / 256 ^ k : Nat) : Int) < 18446744073709551616 := up_bound (by have := HV1.out; rw [e8] at this; exact this) k
        have u2 : ((v2 / 256 ^ k : Nat) : Int) < 18446744073709551616 := up_bound (by have := HV2.out; rw [e8] at this; exact this) k
        rw [g1] at c0
        rw [g2] at c1
        rw [ei]
        have n1 : L * 256 + dig v1 k = ((v1 / 256 ^ k : Nat) : Int) := by rw [hL]; unfold dig; omega
        have n2 : H * 256 + dig v2 k = ((v2 / 256 ^ k : Nat) : Int) := by rw [hH]; unfold dig; omega
        obtain ⟨a, ha⟩ : ∃ a, a = dig v1 k := ⟨_, rfl⟩
        obtain ⟨b, hb⟩ : ∃ a, a = dig v2 k := ⟨_, rfl⟩
        obtain ⟨U1, hU1⟩ : ∃ a, a = ((v1 / 256 ^ k : Nat) : Int) := ⟨_, rfl⟩
        obtain ⟨U2, hU2⟩ : ∃ a, a = ((v2 / 256 ^ k : Nat) : Int) := ⟨_, rfl⟩
        rw [← ha] at c0 d1 d2 n1
        rw [← hb] at c1 d3 d4 n2
        rw [← hU1] at u1 n1
        rw [← hU2] at u2 n2
        have hL0 : 0 ≤ L := by omega
        have hH0 : 0 ≤ H := by omega
        have b1 : L * 256 < 18446744073709551616 := by omega
        have b2 : H * 256 < 18446744073709551616 := by omega
        have b3 : L * 256 + a < 18446744073709551616 := by omega
        have b4 : H * 256 + b < 18446744073709551616 := by omega
        have hk8 : (k : Int) < 8 := by omega
        have HU1 := Lib.hid hU1
        have HU2 := Lib.hid hU2
        have HN1 := Lib.hid n1
        have HN2 := Lib.hid n2
        clear hL hH e1 e2 g1 g2 ha hb hU1 hU2 n1 n2 u1 u2 ei
        go_wp2_with fail
        go_round
        case rel => exact ⟨k, L * 256 + a, H * 256 + b, by omega, rfl, rfl, rfl, by rw [HN1.out, HU1.out], by rw [HN2.out, HU2.out]⟩
        case measure => simp [intOf]
  · rcases hx0 with rfl | hx0
    · have hvx : v = 0 := HVE.out
      subst hvx
      go_wp2_with (first | (refine ld_arr _ h3 rfl rfl rfl ?_; simp only [Act.put]) | (simp only [sixteen_eq]))
      refine (less_any 340282366920938463463374607431768211456 0 _ HX.out).mono ?_
      rintro e w2 ⟨rfl, k5⟩
      have h5 : ArrAt w2 (w.heap.size + 1) (dig 0) := k5.held h3 (by simp)
      have h6 : NumAt w2 w.heap.size true (dig 0) := k5.held h4 (by simp)
      have k6 := k4.trans0 k5
      clear h3 h4 k3 k4 k5 c9 s3
      go_upto_region 4 with (refine st_arr _ _ h5 rfl rfl rfl rfl ?_; intro w3 h7 k7 s7; simp only [Act.put]; have h8 : NumAt w3 w.heap.size true (dig 0) := k7.held h6 (by simp); have k8 := k6.trans k7 (by simp); clear h5 h6 k6)
      go_wp2_with (refine ld_mid _ h8 rfl rfl rfl ?_; simp only [Act.put])
      refine (zero_any 0 HX2.out _).mono ?_
      rintro e w4 ⟨he, k9⟩
      rw [show decide ((0 : Nat) = 0) = true from rfl] at he
      subst he
      have h9 : ArrAt w4 (w.heap.size + 1) (dig (340282366920938463463374607431768211456 - 0)) := k9.held h7 (by simp)
      have k10 := k8.trans0 k9
      clear h7 h8 k7 k8 k9 s7
      go_upto_region 6 with (simp only [zeros_eq]; refine st_arr _ _ h9 rfl rfl rfl rfl ?_; intro w5 h11 k11 s11; simp only [Act.put]; have KF := k10.trans k11 (by simp); clear k10 h9 k11 s11)
      have HA := Lib.hid h11
      clear h11
      go_wp2_with fail
      go_loop [5, 6, 7] (fun lv hv v => ∃ (k : Nat) (L H : Int), k ≤ 8 ∧ v = .int .i64 ((k : Int) - 1) ∧ lv = .int .u64 L ∧ hv = .int .u64 H ∧ L = (v1 / 256 ^ k : Nat) ∧ H = (v2 / 256 ^ k : Nat)) (fun _ _ v => (intOf v + 1).toNat)
      case atStart => exact ⟨8, 0, 0, by omega, by simp, rfl, rfl, by rw [Nat.div_eq_of_lt HV1.out]; rfl, by rw [Nat.div_eq_of_lt HV2.out]; rfl⟩
      case round =>
        obtain ⟨k, L, H, hk, rfl, rfl, rfl, hL, hH⟩ := hrel
        cases k with
        | zero =>
          simp only [Nat.pow_zero, Nat.div_one] at hL hH
          have hf : Value.tuple #[.int .i64 (wrap64 H), .int .u64 L] = .tuple #[.int .i64 zh, .int .u64 zl] := by
            have h1 := HZ.out
            rw [show wrap64 H = zh by unfold wrap64; omega, show L = zl by omega]
          have HF := Lib.hid hf
          clear hL hH hf
          go_wp2_with fail
          refine bodyPost_ret (results_tmp2 rfl _ _ _) rfl ?_
          exact ⟨congrArg Ending.returned HF.out, KF⟩
        | succ k =>
          have ei : ((k + 1 : Nat) : Int) - 1 = k := by omega
          have c0 := (HA.out).cell k (by omega)
          have c1 := (HA.out).cell (8 + k) (by omega)
          have e1 := up_step v1 k
          have e2 := up_step v2 k
          have g1 := HLO.out k (by omega)
          have g2 := HHI.out k (by omega)
          have d1 := dig_lo v1 k
          have d2 := dig_hi v1 k
          have d3 := dig_lo v2 k
          have d4 := dig_hi v2 k
          have u1 : ((v1 / 256 ^ k : Nat) : Int) < 18446744073709551616 := up_bound (by have := HV1.out; rw [e8] at this; exact this) k
          have u2 : ((v2 / 256 ^ k : Nat) : Int) < 18446744073709551616 := up_bound (by have := HV2.out; rw [e8] at this; exact this) k
          rw [g1] at c0
          rw [g2] at c1
          rw [ei]
          have n1 : L * 256 + dig v1 k = ((v1 / 256 ^ k : Nat) : Int) := by rw [hL]; unfold dig; omega
          have n2 : H * 256 + dig v2 k = ((v2 / 256 ^ k : Nat) : Int) := by rw [hH]; unfold dig; omega
          obtain ⟨a, ha⟩ : ∃ a, a = dig v1 k := ⟨_, rfl⟩
          obtain ⟨b, hb⟩ : ∃ a, a = dig v2 k := ⟨_, rfl⟩
          obtain ⟨U1, hU1⟩ : ∃ a, a = ((v1 / 256 ^ k : Nat) : Int) := ⟨_, rfl⟩
          obtain ⟨U2, hU2⟩ : ∃ a, a = ((v2 / 256 ^ k : Nat) : Int) := ⟨_, rfl⟩
          rw [← ha] at c0 d1 d2 n1
          rw [← hb] at c1 d3 d4 n2
          rw [← hU1] at u1 n1
          rw [← hU2] at u2 n2
          have hL0 : 0 ≤ L := by omega
          have hH0 : 0 ≤ H := by omega
          have b1 : L * 256 < 18446744073709551616 := by omega
          have b2 : H * 256 < 18446744073709551616 := by omega
          have b3 : L * 256 + a < 18446744073709551616 := by omega
          have b4 : H * 256 + b < 18446744073709551616 := by omega
          have hk8 : (k : Int) < 8 := by omega
          have HU1 := Lib.hid hU1
          have HU2 := Lib.hid hU2
          have HN1 := Lib.hid n1
          have HN2 := Lib.hid n2
          clear hL hH e1 e2 g1 g2 ha hb hU1 hU2 n1 n2 u1 u2 ei
          go_wp2_with fail
          go_round
          case rel => exact ⟨k, L * 256 + a, H * 256 + b, by omega, rfl, rfl, rfl, by rw [HN1.out, HU1.out], by rw [HN2.out, HU2.out]⟩
          case measure => simp [intOf]
    · have hvx : v = 340282366920938463463374607431768211456 - x := by have := HVE.out; rw [e16] at this; simpa [hx0] using this
      subst hvx
      go_wp2_with (first | (refine ld_arr _ h3 rfl rfl rfl ?_; simp only [Act.put]) | (simp only [sixteen_eq]))
      refine (less_any 340282366920938463463374607431768211456 x _ HX.out).mono ?_
      rintro e w2 ⟨rfl, k5⟩
      have h5 : ArrAt w2 (w.heap.size + 1) (dig x) := k5.held h3 (by simp)
      have h6 : NumAt w2 w.heap.size true (dig x) := k5.held h4 (by simp)
      have k6 := k4.trans0 k5
      clear h3 h4 k3 k4 k5 c9 s3
      go_upto_region 4 with (refine st_arr _ _ h5 rfl rfl rfl rfl ?_; intro w3 h7 k7 s7; simp only [Act.put]; have h8 : NumAt w3 w.heap.size true (dig x) := k7.held h6 (by simp); have k8 := k6.trans k7 (by simp); clear h5 h6 k6)
      go_wp2_with (refine ld_mid _ h8 rfl rfl rfl ?_; simp only [Act.put])
      refine (zero_any x HX2.out _).mono ?_
      rintro e w4 ⟨he, k9⟩
      rw [show decide (x = 0) = false by simpa using hx0] at he
      subst he
      have h9 : ArrAt w4 (w.heap.size + 1) (dig (340282366920938463463374607431768211456 - x)) := k9.held h7 (by simp)
      have KF := k8.trans0 k9
      have HA := Lib.hid h9
      clear h7 h8 k7 k8 k9 s7 h9
      go_wp2_with fail
      go_loop [5, 6, 7] (fun lv hv v => ∃ (k : Nat) (L H : Int), k ≤ 8 ∧ v = .int .i64 ((k : Int) - 1) ∧ lv = .int .u64 L ∧ hv = .int .u64 H ∧ L = (v1 / 256 ^ k : Nat) ∧ H = (v2 / 256 ^ k : Nat)) (fun _ _ v => (intOf v + 1).toNat)
      case atStart => exact ⟨8, 0, 0, by omega, by simp, rfl, rfl, by rw [Nat.div_eq_of_lt HV1.out]; rfl, by rw [Nat.div_eq_of_lt HV2.out]; rfl⟩
      case round =>
        obtain ⟨k, L, H, hk, rfl, rfl, rfl, hL, hH⟩ := hrel
        cases k with
        | zero =>
          simp only [Nat.pow_zero, Nat.div_one] at hL hH
          have hf : Value.tuple #[.int .i64 (wrap64 H), .int .u64 L] = .tuple #[.int .i64 zh, .int .u64 zl] := by
            have h1 := HZ.out
            rw [show wrap64 H = zh by unfold wrap64; omega, show L = zl by omega]
          have HF := Lib.hid hf
          clear hL hH hf
          go_wp2_with fail
          refine bodyPost_ret (results_tmp2 rfl _ _ _) rfl ?_
          exact ⟨congrArg Ending.returned HF.out, KF⟩
        | succ k =>
          have ei : ((k + 1 : Nat) : Int) - 1 = k := by omega
          have c0 := (HA.out).cell k (by omega)
          have c1 := (HA.out).cell (8 + k) (by omega)
          have e1 := up_step v1 k
          have e2 := up_step v2 k
          have g1 := HLO.out k (by omega)
          have g2 := HHI.out k (by omega)
          have d1 := dig_lo v1 k
          have d2 := dig_hi v1 k
          have d3 := dig_lo v2 k
          have d4 := dig_hi v2 k
          have u1 : ((v1 / 256 ^ k : Nat) : Int) < 18446744073709551616 := up_bound (by have := HV1.out; rw [e8] at this; exact this) k
          have u2 : ((v2 / 256 ^ k : Nat) : Int) < 18446744073709551616 := up_bound (by have := HV2.out; rw [e8] at this; exact this) k
          rw [g1] at c0
          rw [g2] at c1
          rw [ei]
          have n1 : L * 256 + dig v1 k = ((v1 / 256 ^ k : Nat) : Int) := by rw [hL]; unfold dig; omega
          have n2 : H * 256 + dig v2 k = ((v2 / 256 ^ k : Nat) : Int) := by rw [hH]; unfold dig; omega
          obtain ⟨a, ha⟩ : ∃ a, a = dig v1 k := ⟨_, rfl⟩
          obtain ⟨b, hb⟩ : ∃ a, a = dig v2 k := ⟨_, rfl⟩
          obtain ⟨U1, hU1⟩ : ∃ a, a = ((v1 / 256 ^ k : Nat) : Int) := ⟨_, rfl⟩
          obtain ⟨U2, hU2⟩ : ∃ a, a = ((v2 / 256 ^ k : Nat) : Int) := ⟨_, rfl⟩
          rw [← ha] at c0 d1 d2 n1
          rw [← hb] at c1 d3 d4 n2
          rw [← hU1] at u1 n1
          rw [← hU2] at u2 n2
          have hL0 : 0 ≤ L := by omega
          have hH0 : 0 ≤ H := by omega
          have b1 : L * 256 < 18446744073709551616 := by omega
          have b2 : H * 256 < 18446744073709551616 := by omega
          have b3 : L * 256 + a < 18446744073709551616 := by omega
          have b4 : H * 256 + b < 18446744073709551616 := by omega
          have hk8 : (k : Int) < 8 := by omega
          have HU1 := Lib.hid hU1
          have HU2 := Lib.hid hU2
          have HN1 := Lib.hid n1
          have HN2 := Lib.hid n2
          clear hL hH e1 e2 g1 g2 ha hb hU1 hU2 n1 n2 u1 u2 ei
          go_wp2_with fail
          go_round
          case rel => exact ⟨k, L * 256 + a, H * 256 + b, by omega, rfl, rfl, rfl, by rw [HN1.out, HU1.out], by rw [HN2.out, HU2.out]⟩
          case measure => simp [intOf]
end Go.Proofs.Ytdanmeemoifapaa
