/- wide: Of, Mul, Compare, split, slim: the contracts. No condition but that all are numbers of their kinds. -/
import Derived.Test.YtdanmeemoifapaaWa
namespace Go.Proofs.Ytdanmeemoifapaa
open Go.RowKit
set_option linter.unusedVariables false

/-- A wide number, by its value. -/
def num (n : Int) : Value := .agg #[.int .i64 (n / 18446744073709551616), .int .u64 (n % 18446744073709551616)]
/-- A number of 128 bits. -/
def I128 (n : Int) : Prop := -170141183460469231731687303715884105728 ≤ n ∧ n ≤ 170141183460469231731687303715884105727
theorem num_parts (h l : Int) (h0 : 0 ≤ l) (h1 : l < 18446744073709551616) : num (h * 18446744073709551616 + l) = .agg #[.int .i64 h, .int .u64 l] := by
  unfold num
  rw [show (h * 18446744073709551616 + l) / 18446744073709551616 = h by omega, show (h * 18446744073709551616 + l) % 18446744073709551616 = l by omega]

theorem num_ext {h l n : Int} (h1 : h = n / 18446744073709551616) (h2 : l = n % 18446744073709551616) : Value.agg #[.int .i64 h, .int .u64 l] = num n := by subst h1 h2; rfl

theorem of_any (a : Int) (w : World) (ha : I64 a) : Calls Try.prog 12 #[.int .i64 a] w fun e w' => e = .returned (num a) ∧ Keeps [] w w' := by
  unfold I64 at ha
  have e1 : a / 9223372036854775808 = a / 18446744073709551616 := by omega
  have e2 : IntKind.u64.wrap a = a % 18446744073709551616 := by rw [IntKind.wrap_u64]
  go_enter Try.func12, Try.ntmps12
  go_wp2
  simp [bodyPost, results, Try.results12, go_sem]
  exact ⟨rfl, (Keeps.refl _ _).alloc _⟩

theorem surplus_neg (a b : Int) (w : World) (h : a < 0) : Calls Try.prog 28 #[.int .i64 a, .int .i64 b] w fun e w' => e = .returned (.int .i64 b) ∧ w = w' := by
  go_enter Try.func28, Try.ntmps28
  go_wp2
  go_ret
  exact ⟨rfl, rfl⟩
theorem surplus_pos (a b : Int) (w : World) (h : 0 ≤ a) : Calls Try.prog 28 #[.int .i64 a, .int .i64 b] w fun e w' => e = .returned (.int .i64 0) ∧ w = w' := by
  have h' : ¬ a < 0 := by omega
  go_enter Try.func28, Try.ntmps28
  go_wp2
  go_ret
  exact ⟨rfl, rfl⟩

/-- The product's range. -/
theorem mul_range (a b : Int) (ha : I64 a) (hb : I64 b) : -85070591730234615865843651857942052864 ≤ a * b ∧ a * b ≤ 85070591730234615865843651857942052864 := by
  unfold I64 at ha hb
  have k := fun (x y : Int) (hx : 0 ≤ x) (hx1 : x ≤ 9223372036854775808) (hy : 0 ≤ y) (hy1 : y ≤ 9223372036854775808) => Int.mul_le_mul hx1 hy1 hy (by decide : (0 : Int) ≤ 9223372036854775808)
  have p := fun (x y : Int) (hx : 0 ≤ x) (hy : 0 ≤ y) => Int.mul_nonneg hx hy
  rcases Int.le_total 0 a with h | h <;> rcases Int.le_total 0 b with h' | h'
  · have := k a b h (by omega) h' (by omega); have := p a b h h'; omega
  · have := k a (-b) h (by omega) (by omega) (by omega); have := p a (-b) h (by omega); rw [Int.mul_neg] at *; omega
  · have := k (-a) b (by omega) (by omega) h' (by omega); have := p (-a) b (by omega) h'; rw [Int.neg_mul] at *; omega
  · have := k (-a) (-b) (by omega) (by omega) (by omega) (by omega); have := p (-a) (-b) (by omega) (by omega); rw [Int.neg_mul_neg] at *; omega

theorem wmul_any (a b : Int) (w : World) (ha : I64 a) (hb : I64 b) : Calls Try.prog 10 #[.int .i64 a, .int .i64 b] w fun e w' => e = .returned (num (a * b)) ∧ Keeps [] w w' := by
  have hr := mul_range a b ha hb
  unfold I64 at ha hb
  obtain ⟨Z, hZ⟩ : ∃ Z, a * b = Z := ⟨_, rfl⟩
  rw [hZ] at hr ⊢
  obtain ⟨x, hx⟩ : ∃ x, IntKind.u64.wrap a = x := ⟨_, rfl⟩
  obtain ⟨y, hy⟩ : ∃ y, IntKind.u64.wrap b = y := ⟨_, rfl⟩
  obtain ⟨X, hX⟩ : ∃ X, x * y = X := ⟨_, rfl⟩
  have hxe := hx
  have hye := hy
  rw [IntKind.wrap_u64] at hxe hye
  have hx0 : 0 ≤ x := by omega
  have hx1 : x < 18446744073709551616 := by omega
  have hy0 : 0 ≤ y := by omega
  have hy1 : y < 18446744073709551616 := by omega
  have hX0 : 0 ≤ X := by rw [← hX]; exact Int.mul_nonneg hx0 hy0
  obtain ⟨h, hh⟩ : ∃ h, X / 18446744073709551616 = h := ⟨_, rfl⟩
  obtain ⟨l, hl⟩ : ∃ l, X % 18446744073709551616 = l := ⟨_, rfl⟩
  have HX : a < 0 ∧ b < 0 ∧ X = Z + (a + b) * 18446744073709551616 + 340282366920938463463374607431768211456 ∨ a < 0 ∧ 0 ≤ b ∧ X = Z + b * 18446744073709551616 ∨ 0 ≤ a ∧ b < 0 ∧ X = Z + a * 18446744073709551616 ∨ 0 ≤ a ∧ 0 ≤ b ∧ X = Z := by
    rcases Int.lt_or_le a 0 with h1 | h1 <;> rcases Int.lt_or_le b 0 with h2 | h2
    · left
      have ex : x = a + 18446744073709551616 := by omega
      have ey : y = b + 18446744073709551616 := by omega
      refine ⟨h1, h2, ?_⟩
      rw [← hX, ex, ey, Int.add_mul, Int.mul_add, hZ]; omega
    · right; left
      have ex : x = a + 18446744073709551616 := by omega
      have ey : y = b := by omega
      refine ⟨h1, h2, ?_⟩
      rw [← hX, ex, ey, Int.add_mul, hZ]; omega
    · right; right; left
      have ex : x = a := by omega
      have ey : y = b + 18446744073709551616 := by omega
      refine ⟨h1, h2, ?_⟩
      rw [← hX, ex, ey, Int.mul_add, hZ]
    · right; right; right
      have ex : x = a := by omega
      have ey : y = b := by omega
      refine ⟨h1, h2, ?_⟩
      rw [← hX, ex, ey, hZ]
  have HXE : Hid (Ending.returned (.tuple #[.int .u64 (x * y / 18446744073709551616), .int .u64 (x * y % 18446744073709551616)]) = .returned (.tuple #[.int .u64 h, .int .u64 l])) := Lib.hid (by rw [hX, hh, hl])
  have HH := Lib.hid hh
  have HL := Lib.hid hl
  have hl0 : 0 ≤ l := by omega
  have hl1 : l < 18446744073709551616 := by omega
  clear hX hxe hye hZ hh hl
  rcases HX with ⟨h1, h2, h3⟩ | ⟨h1, h2, h3⟩ | ⟨h1, h2, h3⟩ | ⟨h1, h2, h3⟩
  · have H1 := Lib.hid h1
    have H2 := Lib.hid h2
    have H3 := Lib.hid h3
    clear h1 h2 h3
    go_enter Try.func10, Try.ntmps10
    go_wp2_with fail
    refine (mul_bits x y _ hx0 hx1 hy0 hy1).mono ?_
    rintro e w1 ⟨he, rfl⟩
    rw [HXE.out] at he
    subst he
    go_wp2_with fail
    refine (surplus_neg a b _ H1.out).mono ?_
    rintro e w1 ⟨rfl, rfl⟩
    go_wp2_with fail
    refine (surplus_neg b a _ H2.out).mono ?_
    rintro e w1 ⟨rfl, rfl⟩
    go_wp2_with fail
    simp [bodyPost, results, Try.results10, go_sem]
    refine ⟨?_, by repeat (first | exact Keeps.refl _ _ | apply Keeps.alloc)⟩
    have h1 := H1.out
    have h2 := H2.out
    have h3 := H3.out
    have hh := HH.out
    have hl := HL.out
    refine num_ext ?_ ?_
    · simp only [wrap64]; omega
    · omega
  · have H1 := Lib.hid h1
    have H2 := Lib.hid h2
    have H3 := Lib.hid h3
    clear h1 h2 h3
    go_enter Try.func10, Try.ntmps10
    go_wp2_with fail
    refine (mul_bits x y _ hx0 hx1 hy0 hy1).mono ?_
    rintro e w1 ⟨he, rfl⟩
    rw [HXE.out] at he
    subst he
    go_wp2_with fail
    refine (surplus_neg a b _ H1.out).mono ?_
    rintro e w1 ⟨rfl, rfl⟩
    go_wp2_with fail
    refine (surplus_pos b a _ H2.out).mono ?_
    rintro e w1 ⟨rfl, rfl⟩
    go_wp2_with fail
    simp [bodyPost, results, Try.results10, go_sem]
    refine ⟨?_, by repeat (first | exact Keeps.refl _ _ | apply Keeps.alloc)⟩
    have h1 := H1.out
    have h2 := H2.out
    have h3 := H3.out
    have hh := HH.out
    have hl := HL.out
    refine num_ext ?_ ?_
    · simp only [wrap64]; omega
    · omega
  · have H1 := Lib.hid h1
    have H2 := Lib.hid h2
    have H3 := Lib.hid h3
    clear h1 h2 h3
    go_enter Try.func10, Try.ntmps10
    go_wp2_with fail
    refine (mul_bits x y _ hx0 hx1 hy0 hy1).mono ?_
    rintro e w1 ⟨he, rfl⟩
    rw [HXE.out] at he
    subst he
    go_wp2_with fail
    refine (surplus_pos a b _ H1.out).mono ?_
    rintro e w1 ⟨rfl, rfl⟩
    go_wp2_with fail
    refine (surplus_neg b a _ H2.out).mono ?_
    rintro e w1 ⟨rfl, rfl⟩
    go_wp2_with fail
    simp [bodyPost, results, Try.results10, go_sem]
    refine ⟨?_, by repeat (first | exact Keeps.refl _ _ | apply Keeps.alloc)⟩
    have h1 := H1.out
    have h2 := H2.out
    have h3 := H3.out
    have hh := HH.out
    have hl := HL.out
    refine num_ext ?_ ?_
    · simp only [wrap64]; omega
    · omega
  · have H1 := Lib.hid h1
    have H2 := Lib.hid h2
    have H3 := Lib.hid h3
    clear h1 h2 h3
    go_enter Try.func10, Try.ntmps10
    go_wp2_with fail
    refine (mul_bits x y _ hx0 hx1 hy0 hy1).mono ?_
    rintro e w1 ⟨he, rfl⟩
    rw [HXE.out] at he
    subst he
    go_wp2_with fail
    refine (surplus_pos a b _ H1.out).mono ?_
    rintro e w1 ⟨rfl, rfl⟩
    go_wp2_with fail
    refine (surplus_pos b a _ H2.out).mono ?_
    rintro e w1 ⟨rfl, rfl⟩
    go_wp2_with fail
    simp [bodyPost, results, Try.results10, go_sem]
    refine ⟨?_, by repeat (first | exact Keeps.refl _ _ | apply Keeps.alloc)⟩
    have h1 := H1.out
    have h2 := H2.out
    have h3 := H3.out
    have hh := HH.out
    have hl := HL.out
    refine num_ext ?_ ?_
    · simp only [wrap64]; omega
    · omega

/-- Which of two is greater. -/
def cmpI (a b : Int) : Int := if a < b then -1 else if a = b then 0 else 1

theorem compare_any (n m : Int) (w : World) : Calls Try.prog 16 #[num n, num m] w fun e w' => e = .returned (.int .i64 (cmpI n m)) ∧ Keeps [] w w' := by
  unfold num
  obtain ⟨a, ha⟩ : ∃ a, a = n / 18446744073709551616 := ⟨_, rfl⟩
  obtain ⟨b, hb⟩ : ∃ b, b = n % 18446744073709551616 := ⟨_, rfl⟩
  obtain ⟨c, hc⟩ : ∃ c, c = m / 18446744073709551616 := ⟨_, rfl⟩
  obtain ⟨d, hd⟩ : ∃ d, d = m % 18446744073709551616 := ⟨_, rfl⟩
  rw [← ha, ← hb, ← hc, ← hd]
  obtain ⟨r, hr⟩ : ∃ r, r = cmpI n m := ⟨_, rfl⟩
  rw [← hr]
  have hcase : a < c ∧ r = -1 ∨ c < a ∧ r = 1 ∨ a = c ∧ b < d ∧ r = -1 ∨ a = c ∧ d < b ∧ r = 1 ∨ a = c ∧ b = d ∧ r = 0 := by
    unfold cmpI at hr
    split at hr
    · omega
    · split at hr <;> omega
  clear ha hb hc hd hr
  rcases hcase with ⟨h1, rfl⟩ | ⟨h1, rfl⟩ | ⟨rfl, h2, rfl⟩ | ⟨rfl, h2, rfl⟩ | ⟨rfl, rfl, rfl⟩
  · have e1 : (a == c) = false := by simp; omega
    go_enter Try.func16, Try.ntmps16
    go_wp2
    go_ret
    exact ⟨rfl, by repeat (first | exact Keeps.refl _ _ | apply Keeps.alloc)⟩
  · have e1 : (a == c) = false := by simp; omega
    have e2 : decide (a < c) = false := by simp; omega
    go_enter Try.func16, Try.ntmps16
    go_wp2
    go_ret
    exact ⟨rfl, by repeat (first | exact Keeps.refl _ _ | apply Keeps.alloc)⟩
  · have e1 : (b == d) = false := by simp; omega
    have e2 : decide (a < a) = false := by simp
    go_enter Try.func16, Try.ntmps16
    go_wp2
    go_ret
    exact ⟨rfl, by repeat (first | exact Keeps.refl _ _ | apply Keeps.alloc)⟩
  · have e1 : (b == d) = false := by simp; omega
    have e2 : decide (a < a) = false := by simp
    have e3 : decide (b < d) = false := by simp; omega
    go_enter Try.func16, Try.ntmps16
    go_wp2
    go_ret
    exact ⟨rfl, by repeat (first | exact Keeps.refl _ _ | apply Keeps.alloc)⟩
  · go_enter Try.func16, Try.ntmps16
    go_wp2
    go_ret
    exact ⟨rfl, by repeat (first | exact Keeps.refl _ _ | apply Keeps.alloc)⟩
end Go.Proofs.Ytdanmeemoifapaa
