/- FxHalves walked. -/
import Derived.Test.YtfkopmgmhmmcbaaFe
import Derived.Test.YtfkopmgmhmmcbaaAm
namespace Go.Proofs.Ytfkopmgmhmmcbaa
open Go.RowKit
set_option linter.unusedVariables false

theorem cmpI_cases (r b : Int) : (r < b - r ∧ cmpI r (b - r) = -1) ∨ (r = b - r ∧ cmpI r (b - r) = 0) ∨ (b - r < r ∧ cmpI r (b - r) = 1) := by
  unfold cmpI
  by_cases h : r < b - r
  · rw [if_pos h]; omega
  · rw [if_neg h]
    by_cases h2 : b - r < r
    · rw [if_pos h2]; omega
    · rw [if_neg h2]; omega
theorem near_fact (a b : Int) : ∃ u, (u = 0 ∨ u = 1) ∧ nearI a b = a / b + u ∧ (u = 0 → 2 * (a % b) ≤ b) ∧ (u = 1 → b ≤ 2 * (a % b)) ∧ (2 * (a % b) < b → u = 0) ∧ (b < 2 * (a % b) → u = 1) := by
  unfold nearI
  refine ⟨_, ?_, rfl, ?_⟩
  · split
    · exact .inr rfl
    · exact .inl rfl
  · rcases cmpI_cases (a % b) b with ⟨h, e⟩ | ⟨h, e⟩ | ⟨h, e⟩
    · rw [e]
      have : upN (-1) a = false := decide_eq_false_iff_not.2 (by omega)
      rw [this]; simp; omega
    · rw [e]
      split <;> omega
    · rw [e]
      have : upN 1 a = true := decide_eq_true_iff.2 (by omega)
      rw [this]; simp; omega
theorem even_fact (a b : Int) : ∃ u, (u = 0 ∨ u = 1) ∧ evenI a b = a / b + u ∧ (u = 0 → 2 * (a % b) ≤ b) ∧ (u = 1 → b ≤ 2 * (a % b)) ∧ (2 * (a % b) < b → u = 0) ∧ (b < 2 * (a % b) → u = 1) ∧ (2 * (a % b) = b → (a / b + u) % 2 = 0) := by
  unfold evenI
  refine ⟨_, ?_, rfl, ?_⟩
  · split
    · exact .inr rfl
    · exact .inl rfl
  · rcases cmpI_cases (a % b) b with ⟨h, e⟩ | ⟨h, e⟩ | ⟨h, e⟩
    · rw [e]
      have : upE (-1) (a / b) = false := decide_eq_false_iff_not.2 (by omega)
      rw [this]; simp; omega
    · rw [e]
      by_cases ho : (a / b) % 2 = 0
      · have : upE 0 (a / b) = false := decide_eq_false_iff_not.2 (by omega)
        rw [this]; simp; omega
      · have : upE 0 (a / b) = true := decide_eq_true_iff.2 (by omega)
        rw [this]; simp; omega
    · rw [e]
      have : upE 1 (a / b) = true := decide_eq_true_iff.2 (by omega)
      rw [this]; simp; omega

/-- What the statement asks of the two roundings. -/
structure Halves (A B N V R x y : Int) : Prop where
  nb : N * B = A + x
  vb : V * B = A + y
  x1 : x ≤ B - x
  x2 : -x ≤ B + x
  y1 : y ≤ B - y
  y2 : -y ≤ B + y
  xb : -B ≤ x ∧ x ≤ B
  yb : -B ≤ y ∧ y ≤ B
  off : R ≠ B - R → N = V
  near : N - V ≤ 1 ∧ V - N ≤ 1
  ev : R = B - R → V.tmod 2 = 0

theorem halves (A B : Int) (hB : 1 ≤ B) : ∃ x y, Halves A B (nearI A B) (evenI A B) (A % B) x y := by
  obtain ⟨u, hu, e1, u0, u1, u2, u3⟩ := near_fact A B
  obtain ⟨v, hv, e2, v0, v1, v2, v3, v4⟩ := even_fact A B
  have h4 := Int.mul_ediv_add_emod A B
  have h5 := Int.emod_nonneg A (show B ≠ 0 by omega)
  have h6 := Int.emod_lt_of_pos A (show 0 < B by omega)
  rw [e1, e2]
  refine ⟨u * B - A % B, v * B - A % B, ?_⟩
  have hm : ∀ t, (A / B + t) * B = A + (t * B - A % B) := fun t => by rw [Int.add_mul, Int.mul_comm (A / B)]; omega
  have ub : u * B = if u = 0 then 0 else B := by rcases hu with rfl | rfl <;> simp
  have vb : v * B = if v = 0 then 0 else B := by rcases hv with rfl | rfl <;> simp
  refine ⟨hm u, hm v, ?_, ?_, ?_, ?_, ?_, ?_, ?_, by omega, fun h => (tmod2 _).2 (v4 (by omega))⟩
  · rw [ub]; split <;> omega
  · rw [ub]; split <;> omega
  · rw [vb]; split <;> omega
  · rw [vb]; split <;> omega
  · rw [ub]; split <;> omega
  · rw [vb]; split <;> omega
  · omega

theorem i64_of {x : Int} (h1 : -1152921504606846976 ≤ x) (h2 : x ≤ 1152921504606846976) : I64 x := by unfold I64; omega
theorem near_bd {A B : Int} (hB : 1 ≤ B) (h1 : -1152921504606846976 < A) (h2 : A < 1152921504606846976) : -1152921504606846976 ≤ nearI A B ∧ nearI A B ≤ 1152921504606846976 := by
  obtain ⟨u, hu, e1, _⟩ := near_fact A B
  have h4 := Int.mul_ediv_add_emod A B
  have h5 := Int.emod_nonneg A (show B ≠ 0 by omega)
  have h6 := Int.emod_lt_of_pos A (show 0 < B by omega)
  rw [e1]
  have h7 : -1152921504606846976 ≤ A / B := Int.le_ediv_of_mul_le (by omega) (by have := Int.mul_le_mul_of_nonneg_left hB (show (0:Int) ≤ 1152921504606846976 by omega); omega)
  have h8 : A / B < 1152921504606846976 := Int.ediv_lt_of_lt_mul (by omega) (by have := Int.mul_le_mul_of_nonneg_left hB (show (0:Int) ≤ 1152921504606846976 by omega); omega)
  omega
theorem even_bd {A B : Int} (hB : 1 ≤ B) (h1 : -1152921504606846976 < A) (h2 : A < 1152921504606846976) : -1152921504606846976 ≤ evenI A B ∧ evenI A B ≤ 1152921504606846976 := by
  obtain ⟨u, hu, e1, _⟩ := even_fact A B
  have h7 : -1152921504606846976 ≤ A / B := Int.le_ediv_of_mul_le (by omega) (by have := Int.mul_le_mul_of_nonneg_left hB (show (0:Int) ≤ 1152921504606846976 by omega); omega)
  have h8 : A / B < 1152921504606846976 := Int.ediv_lt_of_lt_mul (by omega) (by have := Int.mul_le_mul_of_nonneg_left hB (show (0:Int) ≤ 1152921504606846976 by omega); omega)
  rw [e1]
  omega
theorem tmod_small (a : Int) : -1152921504606846976 < a.tmod 1152921504606846976 ∧ a.tmod 1152921504606846976 < 1152921504606846976 :=
  ⟨Int.lt_tmod_of_pos a (by omega), Int.tmod_lt_of_pos a (by omega)⟩

theorem no_undef {P : Prop} {b : Bool} (h : some undef = some (Value.bool b)) : P := by
  injection h with h
  exact absurd h (by unfold undef; intro h; cases h)

set_option maxRecDepth 100000 in
set_option maxHeartbeats 4000000 in
theorem halves_any (a b : Int) (w : World) (ha : I64 a) (hb : I64 b) :
    Calls Try.prog 8 #[.int .i64 a, .int .i64 b] w fun e w' => e = .returned (.bool true) ∧ Keeps [] w w' := by
  have hA := tmod_small a
  obtain ⟨A, eA⟩ : ∃ A, a.tmod 1152921504606846976 = A := ⟨_, rfl⟩
  rw [eA] at hA
  have hB0 := amongI_lt b 1152921504606846976 (by omega) (by omega)
  obtain ⟨B0, eB0⟩ : ∃ B0, B0 = amongI b 1152921504606846976 := ⟨_, rfl⟩
  rw [← eB0] at hB0
  obtain ⟨x, y, H⟩ := halves A (1 + B0) (by omega)
  have hNb := near_bd (A := A) (B := 1 + B0) (by omega) hA.1 hA.2
  have hVb := even_bd (A := A) (B := 1 + B0) (by omega) hA.1 hA.2
  have hR0 := Int.emod_nonneg A (show 1 + B0 ≠ 0 by omega)
  have hR1 := Int.emod_lt_of_pos A (show 0 < 1 + B0 by omega)
  obtain ⟨N, eN⟩ : ∃ N, N = nearI A (1 + B0) := ⟨_, rfl⟩
  obtain ⟨V, eV⟩ : ∃ V, V = evenI A (1 + B0) := ⟨_, rfl⟩
  obtain ⟨R, eR⟩ : ∃ R, R = A % (1 + B0) := ⟨_, rfl⟩
  rw [← eN, ← eV, ← eR] at H
  rw [← eN] at hNb
  rw [← eV] at hVb
  rw [← eR] at hR0 hR1
  obtain ⟨nb, vb, x1, x2, y1, y2, xb, yb, off, near, ev⟩ := H
  obtain ⟨P, eP⟩ : ∃ P, P = A + x := ⟨_, rfl⟩
  obtain ⟨Q, eQ⟩ : ∃ Q, Q = A + y := ⟨_, rfl⟩
  obtain rfl : x = P - A := by omega
  obtain rfl : y = Q - A := by omega
  rw [← eP] at nb
  rw [← eQ] at vb
  have d1 : decide (P - A ≤ 1 + B0 - (P - A)) = true := by simpa using x1
  have d2 : decide (-(P - A) ≤ 1 + B0 + (P - A)) = true := decide_eq_true_iff.2 x2
  have d3 : decide (Q - A ≤ 1 + B0 - (Q - A)) = true := by simpa using y1
  have d4 : decide (-(Q - A) ≤ 1 + B0 + (Q - A)) = true := decide_eq_true_iff.2 y2
  have p1 : -4611686018427387904 ≤ P := by omega
  have p2 : P ≤ 4611686018427387904 := by omega
  have q1 : -4611686018427387904 ≤ Q := by omega
  have q2 : Q ≤ 4611686018427387904 := by omega
  have EA := Lib.hid (show I64 A from i64_of (by omega) (by omega))
  have EB := Lib.hid (show I64 (1 + B0) from i64_of (by omega) (by omega))
  have EB0 := Lib.hid eB0
  have EN := Lib.hid eN
  have EV := Lib.hid eV
  have ER := Lib.hid eR
  clear eB0 eN eV eR eP eQ
  by_cases hh : R = 1 + B0 - R
  · have c1 : (R == 1 + B0 - R) = true := by simpa using hh
    have ev2 := ev hh
    have c3 : decide (N - V ≤ 1) = true := by simp; omega
    have c4 : decide (V - N ≤ 1) = true := by simp; omega
    have n1 := near.1
    have n2 := near.2
    have HH := Lib.hid hh
    clear off near ev hh
    by_cases he : N = V
    · have c2 : (N == V) = true := by simpa using he
      have HE := Lib.hid he
      clear he
      go_enter Try.func8, Try.ntmps8
      go_wp2_with fail
      refine (works_any _).mono ?_
      rintro e w1 ⟨rfl, k1⟩
      go_wp2_with fail
      refine (among_any b _ _ (by omega) (by omega)).mono ?_
      rintro e w2 ⟨he, rfl⟩
      rw [← EB0.out] at he
      subst he
      go_wp2_with fail
      refine (near_yes A (1 + B0) _ EA.out EB.out (by omega)).mono ?_
      rintro e w2 ⟨he, k2⟩
      rw [← EN.out] at he
      subst he
      go_wp2_with fail
      refine (even_yes A (1 + B0) _ EA.out EB.out (by omega)).mono ?_
      rintro e w3 ⟨he, k3⟩
      rw [← EV.out] at he
      subst he
      go_wp2_with fail
      refine (left_yes A (1 + B0) _ EA.out EB.out (by omega)).mono ?_
      rintro e w4 ⟨he, k4⟩
      rw [← ER.out] at he
      subst he
      go_wp2_with fail
      all_goals first | (go_ret; exact ⟨rfl, ((k1.trans0 k2).trans0 k3).trans0 k4⟩) | exact no_undef (by assumption)
    · have c2 : (N == V) = false := by simpa using he
      have HE := Lib.hid he
      clear he
      go_enter Try.func8, Try.ntmps8
      go_wp2_with fail
      refine (works_any _).mono ?_
      rintro e w1 ⟨rfl, k1⟩
      go_wp2_with fail
      refine (among_any b _ _ (by omega) (by omega)).mono ?_
      rintro e w2 ⟨he, rfl⟩
      rw [← EB0.out] at he
      subst he
      go_wp2_with fail
      refine (near_yes A (1 + B0) _ EA.out EB.out (by omega)).mono ?_
      rintro e w2 ⟨he, k2⟩
      rw [← EN.out] at he
      subst he
      go_wp2_with fail
      refine (even_yes A (1 + B0) _ EA.out EB.out (by omega)).mono ?_
      rintro e w3 ⟨he, k3⟩
      rw [← EV.out] at he
      subst he
      go_wp2_with fail
      refine (left_yes A (1 + B0) _ EA.out EB.out (by omega)).mono ?_
      rintro e w4 ⟨he, k4⟩
      rw [← ER.out] at he
      subst he
      go_wp2_with fail
      all_goals first | (go_ret; exact ⟨rfl, ((k1.trans0 k2).trans0 k3).trans0 k4⟩) | exact no_undef (by assumption)
  · have c1 : (R == 1 + B0 - R) = false := by simpa using hh
    have he := off hh
    have c2 : (N == V) = true := by simpa using he
    have HE := Lib.hid he
    have HH := Lib.hid hh
    clear off near ev he hh
    go_enter Try.func8, Try.ntmps8
    go_wp2_with fail
    refine (works_any _).mono ?_
    rintro e w1 ⟨rfl, k1⟩
    go_wp2_with fail
    refine (among_any b _ _ (by omega) (by omega)).mono ?_
    rintro e w2 ⟨he, rfl⟩
    rw [← EB0.out] at he
    subst he
    go_wp2_with fail
    refine (near_yes A (1 + B0) _ EA.out EB.out (by omega)).mono ?_
    rintro e w2 ⟨he, k2⟩
    rw [← EN.out] at he
    subst he
    go_wp2_with fail
    refine (even_yes A (1 + B0) _ EA.out EB.out (by omega)).mono ?_
    rintro e w3 ⟨he, k3⟩
    rw [← EV.out] at he
    subst he
    go_wp2_with fail
    refine (left_yes A (1 + B0) _ EA.out EB.out (by omega)).mono ?_
    rintro e w4 ⟨he, k4⟩
    rw [← ER.out] at he
    subst he
    go_wp2_with fail
    all_goals first | (go_ret; exact ⟨rfl, ((k1.trans0 k2).trans0 k3).trans0 k4⟩) | exact no_undef (by assumption)
end Go.Proofs.Ytfkopmgmhmmcbaa
