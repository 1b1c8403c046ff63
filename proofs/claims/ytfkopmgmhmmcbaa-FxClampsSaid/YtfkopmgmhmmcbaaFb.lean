/- fx: division that rounds: the contracts of split, rounded, Down, Near, Even, Left. No condition but that all are numbers. -/
import Derived.Test.YtfkopmgmhmmcbaaFa
namespace Go.Proofs.Ytfkopmgmhmmcbaa
open Go.RowKit
set_option linter.unusedVariables false

theorem div_same {a b : Int} (hb : 0 < b) (h : ¬ a.tmod b < 0) : a.tdiv b = a / b ∧ a.tmod b = a % b := by
  have h3 := Int.mul_tdiv_add_tmod a b
  have h4 := Int.tmod_lt_of_pos a hb
  have h5 := (Int.ediv_emod_unique (a := a) (r := a.tmod b) (q := a.tdiv b) hb).2 ⟨by omega, by omega, h4⟩
  exact ⟨h5.1.symm, h5.2.symm⟩
theorem div_less {a b : Int} (hb : 0 < b) (h : a.tmod b < 0) : a.tdiv b - 1 = a / b ∧ a.tmod b + b = a % b := by
  have h3 := Int.mul_tdiv_add_tmod a b
  have h4 := Int.lt_tmod_of_pos a hb
  have h5 := (Int.ediv_emod_unique (a := a) (r := a.tmod b + b) (q := a.tdiv b - 1) hb).2 ⟨by rw [Int.mul_sub]; omega, by omega, by omega⟩
  exact ⟨h5.1.symm, h5.2.symm⟩
/-- within bounds -/
theorem div_bd {a b : Int} (hb : 0 < b) (h1 : -9223372036854775808 ≤ a) (h2 : a ≤ 9223372036854775807) : -9223372036854775808 ≤ a / b ∧ a / b ≤ 9223372036854775807 := by
  have h4 := Int.mul_ediv_add_emod a b
  have h5 := Int.emod_nonneg a (show b ≠ 0 by omega)
  have h6 := Int.emod_lt_of_pos a hb
  constructor
  · exact Int.le_ediv_of_mul_le hb (by have := Int.mul_le_mul_of_nonneg_left (show (1:Int) ≤ b by omega) (show (0:Int) ≤ 9223372036854775808 by omega); omega)
  · exact Int.le_of_lt_add_one (Int.ediv_lt_of_lt_mul hb (by have := Int.mul_le_mul_of_nonneg_left (show (1:Int) ≤ b by omega) (show (0:Int) ≤ 9223372036854775808 by omega); omega))

theorem split_any (a b : Int) (w : World) (ha : I64 a) (hb : I64 b) (h1 : 1 ≤ b) :
    Calls Try.prog 37 #[.int .i64 a, .int .i64 b] w fun e w' => e = .returned (.tuple #[.int .i64 (a / b), .int .i64 (a % b)]) ∧ ∃ m, w' = w.drewN m := by
  unfold I64 at ha hb
  have hbd := div_bd (b := b) (by omega) ha.1 ha.2
  have hm0 := Int.emod_nonneg a (show b ≠ 0 by omega)
  have hm1 := Int.emod_lt_of_pos a (show 0 < b by omega)
  obtain ⟨q, hq⟩ : ∃ q, q = a / b := ⟨_, rfl⟩
  obtain ⟨r, hr⟩ : ∃ r, r = a % b := ⟨_, rfl⟩
  rw [← hq] at hbd ⊢
  rw [← hr] at hm0 hm1 ⊢
  by_cases h : a.tmod b < 0
  · obtain ⟨e1, e2⟩ := div_less (by omega) h
    have e3 : a.tdiv b = q + 1 := by omega
    have e4 : a.tmod b = r - b := by omega
    have ha0 : a < 0 := by
      by_cases h0 : a < 0
      · exact h0
      · have := Int.tmod_nonneg b (show 0 ≤ a by omega); omega
    have hq0 : q < 0 := by rw [hq]; exact Int.ediv_neg_of_neg_of_pos ha0 (by omega)
    have hb0 : (b == 0) = false := by simp; omega
    clear e1 e2 hq hr h
    go_enter Try.func37, Try.ntmps37
    go_wp2
    go_quiet (fail)
    go_wp2
    go_ret2
    exact ⟨rfl, _, rfl⟩
  · obtain ⟨e1, e2⟩ := div_same (by omega) h
    have e3 : a.tdiv b = q := by omega
    have e4 : a.tmod b = r := by omega
    have hb0 : (b == 0) = false := by simp; omega
    clear e1 e2 hq hr h
    go_enter Try.func37, Try.ntmps37
    go_wp2
    go_quiet (fail)
    go_wp2
    go_ret2
    exact ⟨rfl, _, rfl⟩

theorem isNaN_any (a : Int) (w : World) : Calls Try.prog 40 #[.int .i64 a] w fun e w' => e = .returned (.bool false) ∧ w = w' := by
  go_enter Try.func40, Try.ntmps40
  go_wp2
  go_ret
  exact ⟨rfl, rfl⟩
/-- How two numbers compare. -/
def cmpI (a b : Int) : Int := if a < b then -1 else if b < a then 1 else 0
theorem cmpI_bd (a b : Int) : -1 ≤ cmpI a b ∧ cmpI a b ≤ 1 := by
  unfold cmpI; split
  · omega
  · split <;> omega
theorem compare_any (a b : Int) (w : World) : Calls Try.prog 39 #[.int .i64 a, .int .i64 b] w fun e w' => e = .returned (.int .i64 (cmpI a b)) ∧ w = w' := by
  rcases Int.lt_trichotomy a b with h | h | h
  · have e : cmpI a b = -1 := by unfold cmpI; rw [if_pos h]
    rw [e]
    clear e
    go_enter Try.func39, Try.ntmps39
    go_wp2_with (go_at_call 40; refine (isNaN_any _ _).mono ?_; rintro e w' ⟨rfl, rfl⟩)
    go_ret
    exact ⟨rfl, rfl⟩
  · subst h
    have e : cmpI a a = 0 := by unfold cmpI; rw [if_neg (by omega), if_neg (by omega)]
    rw [e]
    clear e
    go_enter Try.func39, Try.ntmps39
    go_wp2_with (go_at_call 40; refine (isNaN_any _ _).mono ?_; rintro e w' ⟨rfl, rfl⟩)
    go_ret
    exact ⟨rfl, rfl⟩
  · have e : cmpI a b = 1 := by unfold cmpI; rw [if_neg (by omega), if_pos h]
    rw [e]
    clear e
    go_enter Try.func39, Try.ntmps39
    go_wp2_with (go_at_call 40; refine (isNaN_any _ _).mono ?_; rintro e w' ⟨rfl, rfl⟩)
    go_ret
    exact ⟨rfl, rfl⟩

theorem downC (d h : Int) (w : World) : Calls Try.prog 34 #[.int .i64 d, .int .i64 h] w fun e w' => e = .returned (.bool false) ∧ w = w' := by
  go_enter Try.func34, Try.ntmps34
  go_wp2
  go_ret
  exact ⟨rfl, rfl⟩
/-- Whether Near goes up. -/
def upN (h a : Int) : Bool := decide (0 < h ∨ h = 0 ∧ 0 < a)
theorem nearC (d h a : Int) (p : Addr) (w : World) (hc : w.cell? p = some (.int .i64 a)) : Calls Try.prog 35 #[.int .i64 d, .int .i64 h, .pointer (some p)] w fun e w' => e = .returned (.bool (upN h a)) ∧ w = w' := by
  rcases Int.lt_trichotomy h 0 with h1 | h1 | h1
  · have e : upN h a = false := by unfold upN; rw [decide_eq_false_iff_not]; omega
    rw [e]
    have h2 : decide (0 < h) = false := by simp; omega
    have h3 : (h == 0) = false := by simp; omega
    clear e
    go_enter Try.func35, Try.ntmps35
    go_wp2
    go_ret
    exact ⟨rfl, rfl⟩
  · subst h1
    by_cases h2 : 0 < a
    · have e : upN 0 a = true := by unfold upN; rw [decide_eq_true_iff]; omega
      rw [e]
      clear e
      go_enter Try.func35, Try.ntmps35
      go_wp2
      go_ret
      exact ⟨rfl, rfl⟩
    · have e : upN 0 a = false := by unfold upN; rw [decide_eq_false_iff_not]; omega
      rw [e]
      have h3 : decide (0 < a) = false := by simp; omega
      clear e
      go_enter Try.func35, Try.ntmps35
      go_wp2
      go_ret
      exact ⟨rfl, rfl⟩
  · have e : upN h a = true := by unfold upN; rw [decide_eq_true_iff]; omega
    rw [e]
    have h2 : decide (0 < h) = true := by simp; omega
    clear e
    go_enter Try.func35, Try.ntmps35
    go_wp2
    go_ret
    exact ⟨rfl, rfl⟩
theorem tmod2 (d : Int) : d.tmod 2 = 0 ↔ d % 2 = 0 := by rw [← Int.dvd_iff_tmod_eq_zero, ← Int.dvd_iff_emod_eq_zero]
/-- Whether Even goes up. -/
def upE (h d : Int) : Bool := decide (0 < h ∨ h = 0 ∧ d % 2 ≠ 0)
theorem evenC (d h : Int) (w : World) : Calls Try.prog 36 #[.int .i64 d, .int .i64 h] w fun e w' => e = .returned (.bool (upE h d)) ∧ w = w' := by
  rcases Int.lt_trichotomy h 0 with h1 | h1 | h1
  · have e : upE h d = false := by unfold upE; rw [decide_eq_false_iff_not]; omega
    rw [e]
    have h2 : decide (0 < h) = false := by simp; omega
    have h3 : (h == 0) = false := by simp; omega
    clear e
    go_enter Try.func36, Try.ntmps36
    go_wp2
    go_ret
    exact ⟨rfl, rfl⟩
  · subst h1
    by_cases h2 : d.tmod 2 = 0
    · have e : upE 0 d = false := by unfold upE; rw [decide_eq_false_iff_not]; have := (tmod2 d).1 h2; omega
      rw [e]
      clear e
      go_enter Try.func36, Try.ntmps36
      go_wp2
      go_ret
      exact ⟨rfl, rfl⟩
    · have e : upE 0 d = true := by unfold upE; rw [decide_eq_true_iff]; exact .inr ⟨rfl, fun h => h2 ((tmod2 d).2 h)⟩
      rw [e]
      have h3 : (d.tmod 2 != 0) = true := by simpa using h2
      clear e
      go_enter Try.func36, Try.ntmps36
      go_wp2
      go_ret
      exact ⟨rfl, rfl⟩
  · have e : upE h d = true := by unfold upE; rw [decide_eq_true_iff]; omega
    rw [e]
    have h2 : decide (0 < h) = true := by simp; omega
    clear e
    go_enter Try.func36, Try.ntmps36
    go_wp2
    go_ret
    exact ⟨rfl, rfl⟩

theorem half_bd (b r : Int) : -1 ≤ cmpI r (b - r) ∧ cmpI r (b - r) ≤ 1 := cmpI_bd ..

theorem rounded_down (a b : Int) (w : World) (ha : I64 a) (hb : I64 b) (h1 : 1 ≤ b) :
    Calls Try.prog 33 #[.int .i64 a, .int .i64 b, .func (.func 34) #[] #[]] w fun e w' => e = .returned (.tuple #[.int .i64 (a / b), .int .i64 0]) ∧ ∃ m, w' = w.drewN m := by
  have HA := Lib.hid ha
  have HB := Lib.hid hb
  unfold I64 at ha hb
  have hm0 := Int.emod_nonneg a (show b ≠ 0 by omega)
  have hm1 := Int.emod_lt_of_pos a (show 0 < b by omega)
  obtain ⟨q, hq⟩ : ∃ q, q = a / b := ⟨_, rfl⟩
  obtain ⟨r, hr⟩ : ∃ r, r = a % b := ⟨_, rfl⟩
  rw [← hr] at hm0 hm1
  rw [← hq]
  have HQ := Lib.hid hq
  have HR := Lib.hid hr
  clear hq hr
  go_enter Try.func33, Try.ntmps33
  go_wp2_with fail
  refine (split_any a b _ HA.out HB.out h1).mono ?_
  rintro e w' ⟨he, m, rfl⟩
  rw [← HQ.out, ← HR.out] at he
  subst he
  go_wp2_with fail
  refine (compare_any _ _ _).mono ?_
  rintro e w' ⟨rfl, rfl⟩
  go_wp2_with fail
  refine (downC _ _ _).mono ?_
  rintro e w' ⟨rfl, rfl⟩
  go_wp2_with fail
  go_ret2
  exact ⟨rfl, _, rfl⟩
theorem rounded_no (a b : Int) (f : Fn) (x y : Array Value) (w : World) (h1 : b < 1) :
    Calls Try.prog 33 #[.int .i64 a, .int .i64 b, .func f x y] w fun e w' => e = .returned (.tuple #[.int .i64 0, .int .i64 2]) ∧ w = w' := by
  go_enter Try.func33, Try.ntmps33
  go_wp2
  go_ret2
  exact ⟨rfl, rfl⟩

theorem q_up {a b : Int} (hb : 1 ≤ b) (h1 : -9223372036854775808 ≤ a) (h2 : a ≤ 9223372036854775807) (h : b - a % b ≤ a % b) : a / b + 1 ≤ 9223372036854775807 := by
  have h4 := Int.mul_ediv_add_emod a b
  have h5 := Int.emod_nonneg a (show b ≠ 0 by omega)
  have h6 := Int.emod_lt_of_pos a (show 0 < b by omega)
  have hb2 : 2 ≤ b := by omega
  have h7 : a / b < 4611686018427387904 := Int.ediv_lt_of_lt_mul (by omega) (by have := Int.mul_le_mul_of_nonneg_left hb2 (show (0:Int) ≤ 4611686018427387904 by omega); omega)
  omega
theorem cmpI_ge {a b : Int} (h : 0 ≤ cmpI a b) : b ≤ a := by
  unfold cmpI at h
  split at h
  · omega
  · omega
theorem upN_up {a b r : Int} (h : upN (cmpI r (b - r)) a = true) : b - r ≤ r := cmpI_ge (by unfold upN at h; rw [decide_eq_true_iff] at h; omega)
theorem upE_up {a b r : Int} (h : upE (cmpI r (b - r)) a = true) : b - r ≤ r := cmpI_ge (by unfold upE at h; rw [decide_eq_true_iff] at h; omega)
/-- a by b, to the nearest number, of two to the one farther from 0. -/
def nearI (a b : Int) : Int := a / b + if upN (cmpI (a % b) (b - a % b)) a = true then 1 else 0
/-- a by b, to the nearest number, of two to the even one. -/
def evenI (a b : Int) : Int := a / b + if upE (cmpI (a % b) (b - a % b)) (a / b) = true then 1 else 0

theorem rounded_near (a b : Int) (p : Addr) (w : World) (ha : I64 a) (hb : I64 b) (h1 : 1 ≤ b) (hc : w.cell? p = some (.int .i64 a)) :
    Calls Try.prog 33 #[.int .i64 a, .int .i64 b, .func (.func 35) #[] #[.pointer (some p)]] w fun e w' => e = .returned (.tuple #[.int .i64 (nearI a b), .int .i64 0]) ∧ ∃ m, w' = w.drewN m := by
  have HA := Lib.hid ha
  have HB := Lib.hid hb
  unfold I64 at ha hb
  have hm0 := Int.emod_nonneg a (show b ≠ 0 by omega)
  have hm1 := Int.emod_lt_of_pos a (show 0 < b by omega)
  have hup := q_up (a := a) (b := b) h1 ha.1 ha.2
  have hbd := div_bd (b := b) (by omega) ha.1 ha.2
  obtain ⟨q, hq⟩ : ∃ q, q = a / b := ⟨_, rfl⟩
  obtain ⟨r, hr⟩ : ∃ r, r = a % b := ⟨_, rfl⟩
  obtain ⟨u, hu⟩ : ∃ u, u = upN (cmpI r (b - r)) a := ⟨_, rfl⟩
  have hres : nearI a b = q + if u = true then 1 else 0 := by rw [hu, hr, hq]; rfl
  have hu2 : u = true → q + 1 ≤ 9223372036854775807 := fun e => by
    rw [hr] at hu
    rw [hq]
    exact hup (upN_up (by rw [← hu]; exact e))
  rw [← hr] at hm0 hm1
  rw [← hq] at hbd
  rw [hres]
  have HQ := Lib.hid hq
  have HR := Lib.hid hr
  have HU := Lib.hid hu
  clear hq hr hu hres hup
  have HC := Lib.hid hc
  clear hc
  cases u
  · rw [if_neg (by decide), Int.add_zero]
    clear hu2
    go_enter Try.func33, Try.ntmps33
    go_wp2_with fail
    refine (split_any a b _ HA.out HB.out h1).mono ?_
    rintro e w' ⟨he, m, rfl⟩
    rw [← HQ.out, ← HR.out] at he
    subst he
    go_wp2_with fail
    refine (compare_any _ _ _).mono ?_
    rintro e w' ⟨rfl, rfl⟩
    go_wp2_with fail
    refine (nearC _ _ a p _ (by first | exact HC.out | simpa using HC.out)).mono ?_
    rintro e w' ⟨he, rfl⟩
    rw [← HU.out] at he
    subst he
    go_wp2_with fail
    go_ret2
    exact ⟨rfl, _, rfl⟩
  · rw [if_pos rfl]
    have hu3 := hu2 rfl
    clear hu2
    go_enter Try.func33, Try.ntmps33
    go_wp2_with fail
    refine (split_any a b _ HA.out HB.out h1).mono ?_
    rintro e w' ⟨he, m, rfl⟩
    rw [← HQ.out, ← HR.out] at he
    subst he
    go_wp2_with fail
    refine (compare_any _ _ _).mono ?_
    rintro e w' ⟨rfl, rfl⟩
    go_wp2_with fail
    refine (nearC _ _ a p _ (by first | exact HC.out | simpa using HC.out)).mono ?_
    rintro e w' ⟨he, rfl⟩
    rw [← HU.out] at he
    subst he
    go_wp2_with fail
    go_ret2
    exact ⟨rfl, _, rfl⟩

theorem rounded_even (a b : Int) (w : World) (ha : I64 a) (hb : I64 b) (h1 : 1 ≤ b) :
    Calls Try.prog 33 #[.int .i64 a, .int .i64 b, .func (.func 36) #[] #[]] w fun e w' => e = .returned (.tuple #[.int .i64 (evenI a b), .int .i64 0]) ∧ ∃ m, w' = w.drewN m := by
  have HA := Lib.hid ha
  have HB := Lib.hid hb
  unfold I64 at ha hb
  have hm0 := Int.emod_nonneg a (show b ≠ 0 by omega)
  have hm1 := Int.emod_lt_of_pos a (show 0 < b by omega)
  have hup := q_up (a := a) (b := b) h1 ha.1 ha.2
  have hbd := div_bd (b := b) (by omega) ha.1 ha.2
  obtain ⟨q, hq⟩ : ∃ q, q = a / b := ⟨_, rfl⟩
  obtain ⟨r, hr⟩ : ∃ r, r = a % b := ⟨_, rfl⟩
  obtain ⟨u, hu⟩ : ∃ u, u = upE (cmpI r (b - r)) q := ⟨_, rfl⟩
  have hres : evenI a b = q + if u = true then 1 else 0 := by rw [hu, hr, hq]; rfl
  have hu2 : u = true → q + 1 ≤ 9223372036854775807 := fun e => by
    rw [hr] at hu
    rw [hq]
    exact hup (upE_up (by rw [← hu]; exact e))
  rw [← hr] at hm0 hm1
  rw [← hq] at hbd
  rw [hres]
  have HQ := Lib.hid hq
  have HR := Lib.hid hr
  have HU := Lib.hid hu
  clear hq hr hu hres hup
  cases u
  · rw [if_neg (by decide), Int.add_zero]
    clear hu2
    go_enter Try.func33, Try.ntmps33
    go_wp2_with fail
    refine (split_any a b _ HA.out HB.out h1).mono ?_
    rintro e w' ⟨he, m, rfl⟩
    rw [← HQ.out, ← HR.out] at he
    subst he
    go_wp2_with fail
    refine (compare_any _ _ _).mono ?_
    rintro e w' ⟨rfl, rfl⟩
    go_wp2_with fail
    refine (evenC _ _ _).mono ?_
    rintro e w' ⟨he, rfl⟩
    rw [← HU.out] at he
    subst he
    go_wp2_with fail
    go_ret2
    exact ⟨rfl, _, rfl⟩
  · rw [if_pos rfl]
    have hu3 := hu2 rfl
    clear hu2
    go_enter Try.func33, Try.ntmps33
    go_wp2_with fail
    refine (split_any a b _ HA.out HB.out h1).mono ?_
    rintro e w' ⟨he, m, rfl⟩
    rw [← HQ.out, ← HR.out] at he
    subst he
    go_wp2_with fail
    refine (compare_any _ _ _).mono ?_
    rintro e w' ⟨rfl, rfl⟩
    go_wp2_with fail
    refine (evenC _ _ _).mono ?_
    rintro e w' ⟨he, rfl⟩
    rw [← HU.out] at he
    subst he
    go_wp2_with fail
    go_ret2
    exact ⟨rfl, _, rfl⟩
end Go.Proofs.Ytfkopmgmhmmcbaa
