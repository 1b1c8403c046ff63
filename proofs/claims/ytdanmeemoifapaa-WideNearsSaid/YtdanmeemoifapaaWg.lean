/- WideBack, WideNears walked. -/
import Derived.Test.YtdanmeemoifapaaWf
import Derived.Test.YtdanmeemoifapaaAm
namespace Go.Proofs.Ytdanmeemoifapaa
open Go.RowKit
set_option linter.unusedVariables false

set_option maxRecDepth 100000 in
theorem back_walk (a b : Int) (w : World) (ha : I64 a) :
    Calls Try.prog 7 #[.int .i64 a, .int .i64 b] w fun e w' => e = .returned (.bool true) ∧ Keeps [] w w' := by
  have hB0 := amongI_lt b 9223372036854775807 (by omega) (by omega)
  obtain ⟨B, eB⟩ : ∃ F, F = amongI b 9223372036854775807 := ⟨_, rfl⟩
  rw [← eB] at hB0
  have EB := Lib.hid eB
  obtain ⟨c, hc⟩ : ∃ c, 1 + B = c := ⟨_, rfl⟩
  have hc1 : 1 ≤ c := by omega
  have hc2 : c ≤ 9223372036854775807 := by omega
  have d1 : a * c / c = a := Int.mul_ediv_cancel a (by omega)
  have d2 : a * c % c = 0 := Int.mul_emod_left a c
  have d3 : slimI a = a := by unfold I64 at ha; unfold slimI; rw [if_pos ha]
  have d4 : slimE a = 0 := by unfold I64 at ha; unfold slimE; rw [if_pos ha]
  have d5 : nearW (a * c) c = a := by unfold nearW; rw [d1, d2, if_neg (by omega)]
  have d6 : c * a / c = a := by rw [Int.mul_comm]; exact d1
  have D1 := Lib.hid d1
  have D3 := Lib.hid d3
  have D4 := Lib.hid d4
  have D5 := Lib.hid d5
  have D6 := Lib.hid d6
  have HA := Lib.hid ha
  obtain ⟨n, hn⟩ : ∃ n, n = a * c := ⟨_, rfl⟩
  have HN := Lib.hid hn
  have hcI : I64 c := by unfold I64; omega
  have HC := Lib.hid hcI
  clear eB d1 d2 d3 d4 d5 d6 ha hn hcI
  go_enter Try.func7, Try.ntmps7
  go_wp2_with fail
  refine (works_any _).mono ?_
  rintro e w1 ⟨rfl, k1⟩
  go_wp2_with fail
  refine (among_any b _ _ (by omega) (by omega)).mono ?_
  rintro e w2 ⟨he, rfl⟩
  rw [← EB.out] at he
  subst he
  go_wp2_with fail
  refine (wmul_any a c _ HA.out HC.out).mono ?_
  rintro e w3 ⟨he, k3⟩
  rw [← HN.out, num_unfold] at he
  subst he
  go_wp2_with fail
  rw [← num_unfold n]
  refine (down_yes n c _ (by rw [HN.out]; exact mul_I128 a c HA.out HC.out) hc1 hc2).mono ?_
  rintro e w4 ⟨he, k4⟩
  rw [HN.out, D1.out, D3.out, D4.out] at he
  subst he
  go_wp2_with fail
  refine (wmul_any a c _ HA.out HC.out).mono ?_
  rintro e w5 ⟨he, k5⟩
  rw [← HN.out, num_unfold] at he
  subst he
  go_wp2_with fail
  rw [← num_unfold n]
  refine (near_yes n c _ (by rw [HN.out]; exact mul_I128 a c HA.out HC.out) hc1 hc2).mono ?_
  rintro e w6 ⟨he, k6⟩
  rw [HN.out, D5.out, D3.out, D4.out] at he
  subst he
  go_wp2_with fail
  refine (muldown_yes c a c _ HC.out HA.out hc1 hc2).mono ?_
  rintro e w7 ⟨he, k7⟩
  rw [D6.out, D3.out, D4.out] at he
  subst he
  go_wp2_with fail
  go_ret
  exact ⟨rfl, ((((k1.trans0 k3).trans0 k4).trans0 k5).trans0 k6).trans0 k7⟩

/-- Rounding down and to the nearest: what they are to each other, and to those of the number turned over. -/
theorem near_facts (n c : Int) (hc : 1 ≤ c) : (nearW n c = n / c ∨ nearW n c = n / c + 1) ∧ nearW (-n) c = - nearW n c := by
  have e1 := Int.ediv_mul_add_emod n c
  have e2 := Int.ediv_mul_add_emod (-n) c
  have a1 := Int.emod_nonneg n (show c ≠ 0 by omega)
  have a2 := Int.emod_lt_of_pos n (show 0 < c by omega)
  have b1 := Int.emod_nonneg (-n) (show c ≠ 0 by omega)
  have b2 := Int.emod_lt_of_pos (-n) (show 0 < c by omega)
  have key : (n % c = 0 ∧ -n % c = 0 ∧ -n / c = - (n / c)) ∨ (0 < n % c ∧ -n % c = c - n % c ∧ -n / c = - (n / c) - 1) := by
    by_cases h : n % c = 0
    · left
      have := (Int.ediv_emod_unique (a := -n) (b := c) (r := 0) (q := - (n / c)) (by omega)).2 ⟨by rw [Int.mul_neg, Int.mul_comm]; omega, by omega, by omega⟩
      exact ⟨h, this.2, this.1⟩
    · right
      have := (Int.ediv_emod_unique (a := -n) (b := c) (r := c - n % c) (q := - (n / c) - 1) (by omega)).2 ⟨by rw [Int.mul_sub, Int.mul_neg, Int.mul_comm]; omega, by omega, by omega⟩
      exact ⟨by omega, this.2, this.1⟩
  constructor
  · unfold nearW; split <;> omega
  · unfold nearW
    rcases key with ⟨h1, h2, h3⟩ | ⟨h1, h2, h3⟩
    · rw [h1, h2, h3, if_neg (by omega), if_neg (by omega)]
    · rw [h2, h3]
      obtain ⟨r, hr⟩ : ∃ r, r = n % c := ⟨_, rfl⟩
      rw [← hr] at *
      by_cases c1 : c - r < r
      · have p : ¬ (c - (c - r) < c - r ∨ (c - r = c - (c - r) ∧ 0 ≤ -n)) := by omega
        have q : (c - r < r ∨ (r = c - r ∧ 0 ≤ n)) := Or.inl c1
        rw [if_neg p, if_pos q]; omega
      · by_cases c2 : r = c - r
        · by_cases c3 : 0 ≤ n
          · have q : (c - r < r ∨ (r = c - r ∧ 0 ≤ n)) := Or.inr ⟨c2, c3⟩
            have p : ¬ (c - (c - r) < c - r ∨ (c - r = c - (c - r) ∧ 0 ≤ -n)) := by
              intro h
              rcases h with h | ⟨h, h'⟩
              · omega
              · have : n = 0 := by omega
                rw [this, Int.zero_emod] at h1
                omega
            rw [if_neg p, if_pos q]; omega
          · have q : ¬ (c - r < r ∨ (r = c - r ∧ 0 ≤ n)) := by omega
            have p : (c - (c - r) < c - r ∨ (c - r = c - (c - r) ∧ 0 ≤ -n)) := Or.inr ⟨by omega, by omega⟩
            rw [if_pos p, if_neg q]; omega
        · have q : ¬ (c - r < r ∨ (r = c - r ∧ 0 ≤ n)) := by omega
          have p : (c - (c - r) < c - r ∨ (c - r = c - (c - r) ∧ 0 ≤ -n)) := Or.inl (by omega)
          rw [if_pos p, if_neg q]; omega

set_option maxRecDepth 100000 in
set_option maxHeartbeats 1000000 in
theorem nears_walk (a b c : Int) (w : World) (ha : I64 a) (hb : I64 b) :
    Calls Try.prog 8 #[.int .i64 a, .int .i64 b, .int .i64 c] w fun e w' => e = .returned (.bool true) ∧ Keeps [] w w' := by
  have hC0 := amongI_lt c 4611686018427387904 (by omega) (by omega)
  obtain ⟨C, eC⟩ : ∃ F, F = amongI c 4611686018427387904 := ⟨_, rfl⟩
  rw [← eC] at hC0
  have EC := Lib.hid eC
  obtain ⟨d, hd⟩ : ∃ c, 1 + C = c := ⟨_, rfl⟩
  have hd1 : 1 ≤ d := by omega
  have hd2 : d ≤ 4611686018427387904 := by omega
  have ta1 := Int.tmod_lt_of_pos a (show (0 : Int) < 4611686018427387904 by decide)
  have ta2 := Int.lt_tmod_of_pos a (show (0 : Int) < 4611686018427387904 by decide)
  have tb1 := Int.tmod_lt_of_pos b (show (0 : Int) < 4611686018427387904 by decide)
  have tb2 := Int.lt_tmod_of_pos b (show (0 : Int) < 4611686018427387904 by decide)
  obtain ⟨x, hx⟩ : ∃ x, a.tmod 4611686018427387904 = x := ⟨_, rfl⟩
  obtain ⟨y, hy⟩ : ∃ x, b.tmod 4611686018427387904 = x := ⟨_, rfl⟩
  rw [hx] at ta1 ta2
  rw [hy] at tb1 tb2
  have hxI : I64 x := by unfold I64; omega
  have hmI : I64 (-x) := by unfold I64; omega
  have hyI : I64 y := by unfold I64; omega
  obtain ⟨f1, f2⟩ := near_facts (x * y) d hd1
  obtain ⟨q, hq⟩ : ∃ q, q = x * y / d := ⟨_, rfl⟩
  obtain ⟨N, hN⟩ : ∃ q, q = nearW (x * y) d := ⟨_, rfl⟩
  rw [← hq, ← hN] at f1
  rw [← hN, ← Int.neg_mul] at f2
  obtain ⟨u, hu⟩ : ∃ u, u = slimI q := ⟨_, rfl⟩
  obtain ⟨ue, hue⟩ : ∃ u, u = slimE q := ⟨_, rfl⟩
  obtain ⟨v, hv⟩ : ∃ u, u = slimI N := ⟨_, rfl⟩
  obtain ⟨ve, hve⟩ : ∃ u, u = slimE N := ⟨_, rfl⟩
  obtain ⟨z, hz⟩ : ∃ u, u = slimI (-N) := ⟨_, rfl⟩
  obtain ⟨ze, hze⟩ : ∃ u, u = slimE (-N) := ⟨_, rfl⟩
  have hcase : (ue = 3) ∨ (ue = 0 ∧ ve = 3) ∨ (ue = 0 ∧ ve = 0 ∧ ze = 3) ∨ (ue = 0 ∧ ve = 0 ∧ ze = 0 ∧ v = u ∧ z = -v ∧ I64 v ∧ I64 (-v)) ∨ (ue = 0 ∧ ve = 0 ∧ ze = 0 ∧ v = u + 1 ∧ z = -v ∧ I64 v ∧ I64 (-v)) := by
    unfold slimI at hu hv hz
    unfold slimE at hue hve hze
    unfold I64
    split at hu <;> split at hv <;> split at hz <;> split at hue <;> split at hve <;> split at hze <;> omega
  have HQ := Lib.hid hq
  have HN := Lib.hid hN
  have HF := Lib.hid f2
  have HU := Lib.hid hu
  have HUE := Lib.hid hue
  have HV := Lib.hid hv
  have HVE := Lib.hid hve
  have HZ := Lib.hid hz
  have HZE := Lib.hid hze
  have HXI := Lib.hid hxI
  have HMI := Lib.hid hmI
  have HYI := Lib.hid hyI
  clear eC hq hN f1 f2 hu hue hv hve hz hze hxI hmI hyI
  rcases hcase with h | ⟨h, h'⟩ | ⟨h, h', h''⟩ | ⟨h, h', h'', h3, h4, h5, h6⟩ | ⟨h, h', h'', h3, h4, h5, h6⟩
  · subst h
    go_enter Try.func8, Try.ntmps8
    go_wp2_with fail
    refine (works_any _).mono ?_
    rintro e w1 ⟨rfl, k1⟩
    go_wp2_with fail
    refine (among_any c _ _ (by omega) (by omega)).mono ?_
    rintro e w2 ⟨he, rfl⟩
    rw [← EC.out] at he
    subst he
    go_wp2_with fail
    refine (muldown_yes x y d _ HXI.out HYI.out hd1 (by omega)).mono ?_
    rintro e w3 ⟨he, k3⟩
    rw [← HQ.out, ← HU.out, ← HUE.out] at he
    subst he
    go_wp2_with fail
    refine (mulnear_yes x y d _ HXI.out HYI.out hd1 (by omega)).mono ?_
    rintro e w4 ⟨he, k4⟩
    rw [← HN.out, ← HV.out, ← HVE.out] at he
    subst he
    go_wp2_with fail
    refine (mulnear_yes (-x) y d _ HMI.out HYI.out hd1 (by omega)).mono ?_
    rintro e w5 ⟨he, k5⟩
    rw [HF.out, ← HZ.out, ← HZE.out] at he
    subst he
    go_wp2_with fail
    go_ret
    exact ⟨rfl, ((k1.trans0 k3).trans0 k4).trans0 k5⟩
  · subst h h'
    go_enter Try.func8, Try.ntmps8
    go_wp2_with fail
    refine (works_any _).mono ?_
    rintro e w1 ⟨rfl, k1⟩
    go_wp2_with fail
    refine (among_any c _ _ (by omega) (by omega)).mono ?_
    rintro e w2 ⟨he, rfl⟩
    rw [← EC.out] at he
    subst he
    go_wp2_with fail
    refine (muldown_yes x y d _ HXI.out HYI.out hd1 (by omega)).mono ?_
    rintro e w3 ⟨he, k3⟩
    rw [← HQ.out, ← HU.out, ← HUE.out] at he
    subst he
    go_wp2_with fail
    refine (mulnear_yes x y d _ HXI.out HYI.out hd1 (by omega)).mono ?_
    rintro e w4 ⟨he, k4⟩
    rw [← HN.out, ← HV.out, ← HVE.out] at he
    subst he
    go_wp2_with fail
    refine (mulnear_yes (-x) y d _ HMI.out HYI.out hd1 (by omega)).mono ?_
    rintro e w5 ⟨he, k5⟩
    rw [HF.out, ← HZ.out, ← HZE.out] at he
    subst he
    go_wp2_with fail
    go_ret
    exact ⟨rfl, ((k1.trans0 k3).trans0 k4).trans0 k5⟩
  · subst h h' h''
    go_enter Try.func8, Try.ntmps8
    go_wp2_with fail
    refine (works_any _).mono ?_
    rintro e w1 ⟨rfl, k1⟩
    go_wp2_with fail
    refine (among_any c _ _ (by omega) (by omega)).mono ?_
    rintro e w2 ⟨he, rfl⟩
    rw [← EC.out] at he
    subst he
    go_wp2_with fail
    refine (muldown_yes x y d _ HXI.out HYI.out hd1 (by omega)).mono ?_
    rintro e w3 ⟨he, k3⟩
    rw [← HQ.out, ← HU.out, ← HUE.out] at he
    subst he
    go_wp2_with fail
    refine (mulnear_yes x y d _ HXI.out HYI.out hd1 (by omega)).mono ?_
    rintro e w4 ⟨he, k4⟩
    rw [← HN.out, ← HV.out, ← HVE.out] at he
    subst he
    go_wp2_with fail
    refine (mulnear_yes (-x) y d _ HMI.out HYI.out hd1 (by omega)).mono ?_
    rintro e w5 ⟨he, k5⟩
    rw [HF.out, ← HZ.out, ← HZE.out] at he
    subst he
    go_wp2_with fail
    go_ret
    exact ⟨rfl, ((k1.trans0 k3).trans0 k4).trans0 k5⟩
  · subst h h' h'' h3 h4
    unfold I64 at h5 h6
    go_enter Try.func8, Try.ntmps8
    go_wp2_with fail
    refine (works_any _).mono ?_
    rintro e w1 ⟨rfl, k1⟩
    go_wp2_with fail
    refine (among_any c _ _ (by omega) (by omega)).mono ?_
    rintro e w2 ⟨he, rfl⟩
    rw [← EC.out] at he
    subst he
    go_wp2_with fail
    refine (muldown_yes x y d _ HXI.out HYI.out hd1 (by omega)).mono ?_
    rintro e w3 ⟨he, k3⟩
    rw [← HQ.out, ← HU.out, ← HUE.out] at he
    subst he
    go_wp2_with fail
    refine (mulnear_yes x y d _ HXI.out HYI.out hd1 (by omega)).mono ?_
    rintro e w4 ⟨he, k4⟩
    rw [← HN.out, ← HV.out, ← HVE.out] at he
    subst he
    go_wp2_with fail
    refine (mulnear_yes (-x) y d _ HMI.out HYI.out hd1 (by omega)).mono ?_
    rintro e w5 ⟨he, k5⟩
    rw [HF.out, ← HZ.out, ← HZE.out] at he
    subst he
    go_wp2_with fail
    go_ret
    exact ⟨rfl, ((k1.trans0 k3).trans0 k4).trans0 k5⟩
  · subst h h' h''
    have n1 : (v == u) = false := by simp; omega
    have n2 : I64 u := by have := HU.out; unfold slimI at this; unfold I64; split at this <;> omega
    unfold I64 at h5 h6 n2
    subst h4
    have n3 : u + 1 = v := by omega
    clear h3
    go_enter Try.func8, Try.ntmps8
    go_wp2_with fail
    refine (works_any _).mono ?_
    rintro e w1 ⟨rfl, k1⟩
    go_wp2_with fail
    refine (among_any c _ _ (by omega) (by omega)).mono ?_
    rintro e w2 ⟨he, rfl⟩
    rw [← EC.out] at he
    subst he
    go_wp2_with fail
    refine (muldown_yes x y d _ HXI.out HYI.out hd1 (by omega)).mono ?_
    rintro e w3 ⟨he, k3⟩
    rw [← HQ.out, ← HU.out, ← HUE.out] at he
    subst he
    go_wp2_with fail
    refine (mulnear_yes x y d _ HXI.out HYI.out hd1 (by omega)).mono ?_
    rintro e w4 ⟨he, k4⟩
    rw [← HN.out, ← HV.out, ← HVE.out] at he
    subst he
    go_wp2_with fail
    refine (mulnear_yes (-x) y d _ HMI.out HYI.out hd1 (by omega)).mono ?_
    rintro e w5 ⟨he, k5⟩
    rw [HF.out, ← HZ.out, ← HZE.out] at he
    subst he
    go_wp2_with fail
    go_ret
    exact ⟨rfl, ((k1.trans0 k3).trans0 k4).trans0 k5⟩
end Go.Proofs.Ytdanmeemoifapaa
