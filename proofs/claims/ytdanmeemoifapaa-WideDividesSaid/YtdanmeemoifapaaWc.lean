/- wide: split, slim, Down, Near, MulDown, MulNear: the contracts. No condition but that all are numbers of their kinds. -/
import Derived.Test.YtdanmeemoifapaaWb
import Derived.Deep.RegionHeld3
namespace Go.Proofs.Ytdanmeemoifapaa
open Go.RowKit
set_option linter.unusedVariables false

/-- Of n by c: how the parts are reckoned. -/
theorem split_plain (n c h l : Int) (hc : 1 ≤ c) (hn : n = h * 18446744073709551616 + l) :
    n / c = h / c * 18446744073709551616 + (h % c * 18446744073709551616 + l) / c ∧ n % c = (h % c * 18446744073709551616 + l) % c := by
  have e1 := Int.mul_ediv_add_emod h c
  have e2 : n = (h % c * 18446744073709551616 + l) + c * (h / c * 18446744073709551616) := by
    rw [hn, ← Int.mul_assoc]
    generalize c * (h / c) = X at e1 ⊢
    omega
  constructor
  · rw [e2, Int.add_mul_ediv_left _ _ (by omega)]; omega
  · rw [e2, Int.add_mul_emod_self_left]

/-- Go's own division goes towards 0. -/
theorem split_toward (h c : Int) (hc : 1 ≤ c) : (0 ≤ h.tmod c ∧ h.tdiv c = h / c ∧ h.tmod c = h % c) ∨ (h.tmod c < 0 ∧ h.tdiv c = h / c + 1 ∧ h.tmod c = h % c - c) := by
  have e1 := Int.tmod_add_tdiv_mul h c
  have b1 := Int.tmod_lt_of_pos h (show 0 < c by omega)
  have b2 := Int.lt_tmod_of_pos h (show 0 < c by omega)
  by_cases h0 : 0 ≤ h.tmod c
  · left
    have := (Int.ediv_emod_unique (a := h) (b := c) (r := h.tmod c) (q := h.tdiv c) (by omega)).2 ⟨by rw [Int.mul_comm]; exact e1, h0, b1⟩
    exact ⟨h0, this.1.symm, this.2.symm⟩
  · right
    have := (Int.ediv_emod_unique (a := h) (b := c) (r := h.tmod c + c) (q := h.tdiv c - 1) (by omega)).2 ⟨by rw [Int.mul_comm, Int.sub_mul]; omega, by omega, by omega⟩
    exact ⟨by omega, by omega, by omega⟩

set_option maxHeartbeats 1000000 in
theorem split_any (n c : Int) (w : World) (hn : I128 n) (hc : 1 ≤ c) (hc1 : c ≤ 9223372036854775807) :
    Calls Try.prog 37 #[num n, .int .i64 c] w fun e w' => e = .returned (.tuple #[num (n / c), .int .i64 (n % c)]) ∧ Keeps [] w w' := by
  unfold I128 at hn
  obtain ⟨h, hh⟩ : ∃ h, h = n / 18446744073709551616 := ⟨_, rfl⟩
  obtain ⟨l, hl⟩ : ∃ l, l = n % 18446744073709551616 := ⟨_, rfl⟩
  have hnl : n = h * 18446744073709551616 + l := by omega
  obtain ⟨f1, f2⟩ := split_plain n c h l hc hnl
  obtain ⟨q, hq⟩ : ∃ q, q = h / c := ⟨_, rfl⟩
  obtain ⟨r, hr⟩ : ∃ r, r = h % c := ⟨_, rfl⟩
  have hr0 : 0 ≤ r := by rw [hr]; exact Int.emod_nonneg _ (by omega)
  have hr1 : r < c := by rw [hr]; exact Int.emod_lt_of_pos _ (by omega)
  have hl0 : 0 ≤ l := by omega
  have hl1 : l < 18446744073709551616 := by omega
  have hdv : q * c + r = h := by rw [hq, hr]; exact Int.ediv_mul_add_emod h c
  have hqb : -9223372036854775808 ≤ q ∧ q ≤ 9223372036854775807 := by
    have hb : -9223372036854775808 ≤ h ∧ h ≤ 9223372036854775807 := by omega
    constructor
    · rw [hq]; exact Int.le_ediv_of_mul_le (by omega) (by
        have := Int.mul_le_mul_of_nonneg_left hc (show (0 : Int) ≤ 9223372036854775808 by decide); omega)
    · rw [hq]; exact Int.le_of_lt_add_one (Int.ediv_lt_of_lt_mul (by omega) (by
        have := Int.mul_le_mul_of_nonneg_left hc (show (0 : Int) ≤ 9223372036854775808 by decide); omega))
  have ht := split_toward h c hc
  rw [← hq, ← hr] at ht f1
  rw [← hr] at f2
  obtain ⟨d, hd⟩ : ∃ d, d = (r * 18446744073709551616 + l) / c := ⟨_, rfl⟩
  obtain ⟨z, hz⟩ : ∃ z, z = (r * 18446744073709551616 + l) % c := ⟨_, rfl⟩
  have hd0 : 0 ≤ d := by rw [hd]; exact Int.ediv_nonneg (by omega) (by omega)
  have hd1 : d < 18446744073709551616 := by rw [hd]; exact Int.ediv_lt_of_lt_mul (by omega) (by omega)
  have hz0 : 0 ≤ z := by rw [hz]; exact Int.emod_nonneg _ (by omega)
  have hz1 : z < c := by rw [hz]; exact Int.emod_lt_of_pos _ (by omega)
  rw [f1, f2, ← hd, ← hz, num_parts q d hd0 hd1]
  have en : num n = .agg #[.int .i64 h, .int .u64 l] := by unfold num; rw [← hh, ← hl]
  rw [en]
  have HZ : Hid (Ending.returned (.tuple #[.int .u64 ((r * 18446744073709551616 + l) / c), .int .u64 ((r * 18446744073709551616 + l) % c)]) = .returned (.tuple #[.int .u64 d, .int .u64 z])) := Lib.hid (by rw [hd, hz])
  have hcc : (c == 0) = false := by simp; omega
  have HB : Hid (h ≤ 9223372036854775807) := Lib.hid (by omega)
  have HQ := Lib.hid hq
  have HDV := Lib.hid hdv
  clear hh hl hnl f1 f2 hq hr hd hz en hdv hn
  rcases ht with ⟨h1, h2, h3⟩ | ⟨h1, h2, h3⟩
  · rw [h3] at h1
    have e1 : decide (r < 0) = false := by simp; omega
    clear h1
    go_enter Try.func37, Try.ntmps37
    go_upto_region 1 with fail
    go_quiet (fail)
    go_wp2_with fail
    refine (div_bits r l c _ hr0 hr1 hl0 hl1 (by omega)).mono ?_
    rintro e w1 ⟨m, he, rfl⟩
    rw [HZ.out] at he
    subst he
    go_wp2_with fail
    simp [bodyPost, results, Try.results37, go_sem]
    repeat (first | exact Keeps.refl _ _ | apply Keeps.alloc | apply Keeps.drewN | apply Keeps.drew | (refine Keeps.setCell ?_ (.inr (by simp)) _))
  · rw [h3] at h1
    have e1 : r - c < 0 := h1
    have hq2 : -9223372036854775808 ≤ q + 1 ∧ q + 1 ≤ 9223372036854775807 := by
      refine ⟨by omega, ?_⟩
      by_cases hq : q = 9223372036854775807
      · exfalso
        have := HB.out
        have hc2 : 2 ≤ c := by
          by_cases hc2 : 2 ≤ c
          · exact hc2
          · have : c = 1 := by omega
            subst this
            rw [Int.tdiv_one] at h2
            have := HQ.out
            rw [Int.ediv_one] at this
            omega
        have h4 := Int.mul_le_mul_of_nonneg_left hc2 (show (0 : Int) ≤ 9223372036854775807 by decide)
        have h5 := HDV.out
        rw [hq] at h5
        omega
      · omega
    clear h1
    go_enter Try.func37, Try.ntmps37
    go_upto_region 1 with fail
    go_quiet (fail)
    go_wp2_with fail
    refine (div_bits r l c _ hr0 hr1 hl0 hl1 (by omega)).mono ?_
    rintro e w1 ⟨m, he, rfl⟩
    rw [HZ.out] at he
    subst he
    go_wp2_with fail
    simp [bodyPost, results, Try.results37, go_sem]
    repeat (first | exact Keeps.refl _ _ | apply Keeps.alloc | apply Keeps.drewN | apply Keeps.drew | (refine Keeps.setCell ?_ (.inr (by simp)) _))

/-- Of a value that is a number: that, and no error. -/
def slimI (n : Int) : Int := if -9223372036854775808 ≤ n ∧ n ≤ 9223372036854775807 then n else 0
def slimE (n : Int) : Int := if -9223372036854775808 ≤ n ∧ n ≤ 9223372036854775807 then 0 else 3

theorem slim_any (n : Int) (w : World) (hn : I128 n) : Calls Try.prog 38 #[num n] w fun e w' => e = .returned (.tuple #[.int .i64 (slimI n), .int .i64 (slimE n)]) ∧ Keeps [] w w' := by
  unfold I128 at hn
  obtain ⟨h, hh⟩ : ∃ h, h = n / 18446744073709551616 := ⟨_, rfl⟩
  obtain ⟨l, hl⟩ : ∃ l, l = n % 18446744073709551616 := ⟨_, rfl⟩
  have en : num n = .agg #[.int .i64 h, .int .u64 l] := by unfold num; rw [← hh, ← hl]
  obtain ⟨a, ha⟩ : ∃ a, IntKind.i64.wrap l = a := ⟨_, rfl⟩
  have ha1 : I64 a := by rw [← ha, IntKind.wrap_i64]; unfold I64; omega
  have hae := ha
  rw [IntKind.wrap_i64] at hae
  by_cases hin : -9223372036854775808 ≤ n ∧ n ≤ 9223372036854775807
  · have e1 : slimI n = a := by unfold slimI; rw [if_pos hin]; omega
    have e2 : slimE n = 0 := by unfold slimE; rw [if_pos hin]
    have e3 : num a = .agg #[.int .i64 h, .int .u64 l] := by rw [← en]; congr 1; omega
    rw [e1, e2, en]
    have H3 := Lib.hid e3
    have hS : ∀ wz, Keeps [] (w.alloc (.cells #[.int .i64 h, .int .u64 l] 25)) wz → wz.cell? ⟨w.heap.size, 0, none⟩ = some (.int .i64 h) ∧ wz.cell? ⟨w.heap.size, 1, none⟩ = some (.int .u64 l) := by
      intro wz hz
      exact ⟨(hz.cell (by simp) (by simp)).trans (by simp [go_sem]), (hz.cell (by simp) (by simp)).trans (by simp [go_sem])⟩
    have HS := Lib.hid hS
    clear hS hh hl hae en hn hin e1 e2 e3
    go_enter Try.func38, Try.ntmps38
    go_upto_region 2 with fail
    go_region_held3 (fun w' => w'.cell? ⟨w.heap.size, 0, none⟩ = some (.int .i64 h) ∧ w'.cell? ⟨w.heap.size, 1, none⟩ = some (.int .u64 l)) (first | exact ⟨p1.1, p1.2⟩ | go_keep)
      (first | (go_at_call 12; refine (of_any a _ ha1).mono ?_; rintro e w1 ⟨he, k1⟩; rw [H3.out] at he; subst he; have K1 : Keeps [] (w.alloc (.cells #[.int .i64 h, .int .u64 l] 25)) w1 := (by first | exact k1 | exact ((Keeps.refl _ _).drew).trans0 k1 | exact ((Keeps.refl _ _).drewN _).trans0 k1); have p1 := HS.out w1 K1; clear k1; have HK1 := Lib.hid K1; clear K1))
    go_wp2_with fail
    go_ret2
    exact ⟨rfl, ((Keeps.refl _ _).alloc _).trans0 HK1.out⟩
  · have e1 : slimI n = 0 := by unfold slimI; rw [if_neg hin]
    have e2 : slimE n = 3 := by unfold slimE; rw [if_neg hin]
    obtain ⟨u, hue⟩ : ∃ u, u = a / 18446744073709551616 := ⟨_, rfl⟩
    have hu : (u == h) = false := by simp; omega
    have e3 : num a = .agg #[.int .i64 u, .int .u64 l] := by unfold num; rw [← hue, show a % 18446744073709551616 = l by omega]
    rw [e1, e2, en]
    have H3 := Lib.hid e3
    have hS : ∀ wz, Keeps [] (w.alloc (.cells #[.int .i64 h, .int .u64 l] 25)) wz → wz.cell? ⟨w.heap.size, 0, none⟩ = some (.int .i64 h) ∧ wz.cell? ⟨w.heap.size, 1, none⟩ = some (.int .u64 l) := by
      intro wz hz
      exact ⟨(hz.cell (by simp) (by simp)).trans (by simp [go_sem]), (hz.cell (by simp) (by simp)).trans (by simp [go_sem])⟩
    have HS := Lib.hid hS
    clear hS hh hl hae en hn hin e1 e2 e3 hue
    go_enter Try.func38, Try.ntmps38
    go_upto_region 2 with fail
    go_region_held3 (fun w' => w'.cell? ⟨w.heap.size, 0, none⟩ = some (.int .i64 h) ∧ w'.cell? ⟨w.heap.size, 1, none⟩ = some (.int .u64 l)) (first | exact ⟨p1.1, p1.2⟩ | go_keep)
      (first | (go_at_call 12; refine (of_any a _ ha1).mono ?_; rintro e w1 ⟨he, k1⟩; rw [H3.out] at he; subst he; have K1 : Keeps [] (w.alloc (.cells #[.int .i64 h, .int .u64 l] 25)) w1 := (by first | exact k1 | exact ((Keeps.refl _ _).drew).trans0 k1 | exact ((Keeps.refl _ _).drewN _).trans0 k1); have p1 := HS.out w1 K1; clear k1; have HK1 := Lib.hid K1; clear K1))
    go_wp2_with fail
    go_ret2
    exact ⟨rfl, ((Keeps.refl _ _).alloc _).trans0 HK1.out⟩
end Go.Proofs.Ytdanmeemoifapaa
