/- Plain facts: a number of two words divided by one word, half a word at a time; how many places a number has. No program. -/
import Derived.Lib.BitFns
import Derived.Laws.Bits64b
namespace Go.Proofs.Ytdanmeemoifapaa
set_option linter.unusedVariables false

/-- Half a word of the quotient: what the first guess is, and what is left. -/
theorem half_step (d1 d0 u a : Int) (h1 : 2147483648 ≤ d1) (h2 : d1 < 4294967296) (h3 : 0 ≤ d0) (h4 : d0 < 4294967296) (h5 : 0 ≤ u) (h6 : u < d1 * 4294967296 + d0) (h7 : 0 ≤ a) (h8 : a < 4294967296) :
    ∃ Q A B : Int, Q = (u * 4294967296 + a) / (d1 * 4294967296 + d0) ∧ (u - A) * 4294967296 + a - B = (u * 4294967296 + a) % (d1 * 4294967296 + d0) ∧ 0 ≤ Q ∧ Q < 4294967296 ∧
      A = Q * d1 ∧ B = Q * d0 ∧ 0 ≤ A ∧ 0 ≤ B ∧ B ≤ 4294967295 * d0 ∧ 0 ≤ (u - A) * 4294967296 + a - B ∧ (u - A) * 4294967296 + a - B < d1 * 4294967296 + d0 ∧ A ≤ u ∧ u - A < 3 * d1 ∧
      u / d1 ≤ 4294967297 ∧ u / d1 * d1 ≤ u ∧ u < u / d1 * d1 + d1 ∧ u / d1 * d1 = A + (u / d1 - Q) * d1 := by
  obtain ⟨Y, hY⟩ : ∃ Y, Y = d1 * 4294967296 + d0 := ⟨_, rfl⟩
  rw [← hY] at h6 ⊢
  obtain ⟨N, hN⟩ : ∃ N, N = u * 4294967296 + a := ⟨_, rfl⟩
  rw [← hN]
  obtain ⟨Q, hQ⟩ : ∃ Q, Q = N / Y := ⟨_, rfl⟩
  obtain ⟨A, hA⟩ : ∃ A, A = Q * d1 := ⟨_, rfl⟩
  obtain ⟨B, hB⟩ : ∃ B, B = Q * d0 := ⟨_, rfl⟩
  have hY0 : 0 < Y := by omega
  have hq0 : 0 ≤ Q := by rw [hQ]; exact Int.ediv_nonneg (by omega) (by omega)
  have hq1 : Q < 4294967296 := by rw [hQ]; exact Int.ediv_lt_of_lt_mul hY0 (by omega)
  have hdm := Int.mul_ediv_add_emod N Y
  have hm0 := Int.emod_nonneg N (show Y ≠ 0 by omega)
  have hm1 := Int.emod_lt_of_pos N hY0
  have hYQ : Y * (N / Y) = A * 4294967296 + B := by rw [← hQ, hY, hA, hB, Int.add_mul, Int.mul_comm d0, Int.mul_right_comm, Int.mul_comm d1]
  rw [hYQ] at hdm
  have ha0 : 0 ≤ A := by rw [hA]; exact Int.mul_nonneg hq0 (by omega)
  have hb0 : 0 ≤ B := by rw [hB]; exact Int.mul_nonneg hq0 h3
  have hb1 : B ≤ 4294967295 * d0 := by rw [hB]; exact Int.mul_le_mul_of_nonneg_right (by omega) h3
  have e1 := Int.mul_ediv_add_emod u d1
  have e2 := Int.emod_nonneg u (show d1 ≠ 0 by omega)
  have e3 := Int.emod_lt_of_pos u (show 0 < d1 by omega)
  rw [Int.mul_comm] at e1
  have hle : u / d1 ≤ 4294967297 := by
    refine Int.le_of_lt_add_one (Int.ediv_lt_of_lt_mul (by omega) ?_)
    omega
  refine ⟨Q, A, B, hQ, by omega, hq0, hq1, hA, hB, ha0, hb0, hb1, by omega, by omega, by omega, by omega, hle, by omega, by omega, ?_⟩
  rw [Int.sub_mul, ← hA]; omega

/-- Of the first guess: it is the quotient, or one more, or two more. -/
theorem half_guess {d1 u Q A q : Int} (h1 : 0 < d1) (hA : A = Q * d1) (h2 : A ≤ u) (h3 : u - A < 3 * d1) (h4 : q * d1 ≤ u) (h5 : u < q * d1 + d1) (h6 : q * d1 = A + (q - Q) * d1) :
    ∃ k : Int, 0 ≤ k ∧ k ≤ 2 ∧ q = Q + k := by
  refine ⟨q - Q, ?_, ?_, by omega⟩
  · by_cases h : 0 ≤ q - Q
    · exact h
    · have := Int.mul_le_mul_of_nonneg_right (show q - Q ≤ -1 by omega) (Int.le_of_lt h1)
      omega
  · by_cases h : q - Q ≤ 2
    · exact h
    · have := Int.mul_le_mul_of_nonneg_right (show 3 ≤ q - Q by omega) (Int.le_of_lt h1)
      omega

/-- How many places: the number lies between two powers. -/
theorem bitLen_between : ∀ (k : Nat), k ≤ 64 → ∀ x : Nat, 0 < x → x < 2 ^ k → ∃ n, Lib.bitLen x = n + 1 ∧ 2 ^ n ≤ x ∧ x < 2 ^ (n + 1) ∧ n + 1 ≤ k := by
  intro k
  induction k with
  | zero => intro _ x h0 h1; simp at h1; omega
  | succ k ih =>
    intro hk x h0 h1
    have h64 : x < 2 ^ 64 := Nat.lt_of_lt_of_le h1 (Nat.pow_le_pow_right (by decide) hk)
    rw [Lib.bitLen_half x (by omega) h64]
    by_cases h2 : x = 1
    · subst h2
      exact ⟨0, by decide, by decide, by decide, by omega⟩
    · obtain ⟨n, e, g1, g2, g3⟩ := ih (by omega) (x / 2) (by omega) (by rw [Nat.pow_succ] at h1; omega)
      refine ⟨n + 1, by rw [e]; omega, ?_, ?_, by omega⟩
      · rw [Nat.pow_succ]; omega
      · rw [Nat.pow_succ]; omega

/-- What makes a number's first place the word's first: the power by which it is to be multiplied. -/
theorem shift_of (y : Int) (h0 : 0 < y) (h1 : y < 18446744073709551616) : ∃ s p r : Int, 64 - (Lib.bitLen y.toNat : Int) = s ∧ 0 ≤ s ∧ s ≤ 63 ∧ (2 : Int) ^ s.toNat = p ∧ (2 : Int) ^ (64 - s).toNat = r ∧ 0 < p ∧ p * r = 18446744073709551616 ∧
    9223372036854775808 ≤ y * p ∧ y * p < 18446744073709551616 := by
  obtain ⟨n, e, g1, g2, g3⟩ := bitLen_between 64 (by omega) y.toNat (by omega) (by omega)
  have pw : ∀ a b : Nat, (2 : Int) ^ a * 2 ^ b = 2 ^ (a + b) := fun a b => (Int.pow_add ..).symm
  refine ⟨64 - (Lib.bitLen y.toNat : Int), _, _, rfl, by omega, by omega, rfl, rfl, Int.pow_pos (by decide), ?_, ?_, ?_⟩
  · rw [pw, show (64 - (Lib.bitLen y.toNat : Int)).toNat + (64 - (64 - (Lib.bitLen y.toNat : Int))).toNat = 64 by omega]; decide
  · have h2 : ((2 ^ n : Nat) : Int) ≤ y := by omega
    rw [Int.natCast_pow] at h2
    have h3 : (2 : Int) ^ n * 2 ^ (64 - (Lib.bitLen y.toNat : Int)).toNat ≤ y * 2 ^ (64 - (Lib.bitLen y.toNat : Int)).toNat := Int.mul_le_mul_of_nonneg_right h2 (Int.le_of_lt (Int.pow_pos (by decide)))
    rw [pw, show n + (64 - (Lib.bitLen y.toNat : Int)).toNat = 63 by omega] at h3
    exact h3
  · have h2 : y < ((2 ^ (n + 1) : Nat) : Int) := by omega
    rw [Int.natCast_pow] at h2
    have h3 : y * 2 ^ (64 - (Lib.bitLen y.toNat : Int)).toNat < (2 : Int) ^ (n + 1) * 2 ^ (64 - (Lib.bitLen y.toNat : Int)).toNat := Int.mul_lt_mul_of_pos_right h2 (Int.pow_pos (by decide))
    rw [pw, show n + 1 + (64 - (Lib.bitLen y.toNat : Int)).toNat = 64 by omega] at h3
    exact h3
/-- The whole: a number of two words by a word whose first place is moved to the word's first. -/
theorem long_div (hi lo y p r Y : Int) (h0 : 0 < hi) (h1 : hi < y) (h2 : 0 ≤ lo) (h3 : lo < 18446744073709551616) (p0 : 0 < p) (hpr : p * r = 18446744073709551616) (hY : y * p = Y) (y2 : Y < 18446744073709551616) :
    ∃ H L m : Int, hi * p = H ∧ lo / r = L ∧ lo * p % 18446744073709551616 = m ∧ 0 ≤ H ∧ 0 ≤ L ∧ L < p ∧ 0 ≤ m ∧ m < 18446744073709551616 ∧ H + L < Y ∧ H + p ≤ Y ∧
      (hi * 18446744073709551616 + lo) * p = (H + L) * 18446744073709551616 + m := by
  have r0 : 0 < r := by
    by_cases h : 0 < r
    · exact h
    · have := Int.mul_le_mul_of_nonneg_left (show r ≤ 0 by omega) (Int.le_of_lt p0)
      omega
  have e1 : lo * p / 18446744073709551616 = lo / r := by rw [← hpr, Int.mul_comm p r, Int.mul_ediv_mul_of_pos_left _ _ p0]
  have e2 := Int.mul_ediv_add_emod (lo * p) 18446744073709551616
  rw [e1] at e2
  have hL0 : 0 ≤ lo / r := Int.ediv_nonneg h2 (Int.le_of_lt r0)
  have hLp : lo / r < p := Int.ediv_lt_of_lt_mul r0 (by omega)
  have hH0 : 0 ≤ hi * p := Int.mul_nonneg (by omega) (by omega)
  have hHp : hi * p + p ≤ Y := by
    have := Int.mul_le_mul_of_nonneg_right (show hi + 1 ≤ y by omega) (Int.le_of_lt p0)
    rw [hY, Int.add_mul] at this
    omega
  refine ⟨_, _, _, rfl, rfl, rfl, hH0, hL0, hLp, Int.emod_nonneg _ (by decide), Int.emod_lt_of_pos _ (by decide), by omega, hHp, ?_⟩
  rw [Int.add_mul, Int.mul_right_comm]
  omega

/-- A multiple of a power and less than the power stand side by side. -/
theorem or_of (hi : Int) (k : Nat) (H L : Int) (h0 : 0 ≤ hi) (hH : hi * 2 ^ k = H) (hL0 : 0 ≤ L) (hL : L < 2 ^ k) (h : H + L < 18446744073709551616) : bits .or .u64 H L = H + L := by
  obtain ⟨a, rfl⟩ := Int.eq_ofNat_of_zero_le h0
  obtain ⟨b, rfl⟩ := Int.eq_ofNat_of_zero_le hL0
  have e : H = ((a <<< k : Nat) : Int) := by rw [← hH, Nat.shiftLeft_eq]; simp
  have hb : b < 2 ^ k := by
    have : ((b : Nat) : Int) < ((2 ^ k : Nat) : Int) := by simpa using hL
    omega
  have ho := Nat.shiftLeft_add_eq_or_of_lt hb a
  generalize a <<< k = n at e ho
  subst e
  rw [bits_or_u64_nat _ _ (by omega) (by omega), ← ho]
  simp

/-- Both halves of the quotient, and what is left, put together. -/
theorem halves (V y p Y u a1 a0 Q1 R1 Q0 R0 : Int) (hy : 0 < y) (p0 : 0 < p) (hY : y * p = Y) (hV : V * p = u * 18446744073709551616 + a1 * 4294967296 + a0) (e1 : u * 4294967296 + a1 = Q1 * Y + R1) (e0 : R1 * 4294967296 + a0 = Q0 * Y + R0)
    (r0 : 0 ≤ R0) (r1 : R0 < Y) : V / y = Q1 * 4294967296 + Q0 ∧ V % y = R0 / p := by
  obtain ⟨q, hq⟩ : ∃ q, q = Q1 * 4294967296 + Q0 := ⟨_, rfl⟩
  have e2 : V * p = q * Y + R0 := by
    rw [hq, Int.add_mul, Int.mul_right_comm]
    generalize Q1 * Y = X1 at e1 ⊢
    generalize Q0 * Y = X0 at e0 ⊢
    omega
  obtain ⟨t, ht⟩ : ∃ t, t = V - y * q := ⟨_, rfl⟩
  have e3 : t * p = R0 := by
    rw [ht, Int.sub_mul, e2, ← hY, Int.mul_comm q, Int.mul_right_comm]; omega
  have t0 : 0 ≤ t := by
    by_cases h : 0 ≤ t
    · exact h
    · have := Int.mul_le_mul_of_nonneg_right (show t ≤ -1 by omega) (Int.le_of_lt p0)
      omega
  have t1 : t < y := by
    by_cases h : t < y
    · exact h
    · have := Int.mul_le_mul_of_nonneg_right (show y ≤ t by omega) (Int.le_of_lt p0)
      omega
  have e4 : R0 / p = t := by rw [← e3, Int.mul_ediv_cancel _ (by omega)]
  have := (Int.ediv_emod_unique (a := V) (b := y) (r := t) (q := q) hy).2 ⟨by omega, t0, t1⟩
  rw [e4, ← hq]
  exact this

end Go.Proofs.Ytdanmeemoifapaa
