/- WideRaw walked. -/
import Derived.Test.YtdanmeemoifapaaWh
import Derived.Deep.CutRange
import Derived.Deep.RegionWith
namespace Go.Proofs.Ytdanmeemoifapaa
open Go.RowKit
set_option linter.unusedVariables false

/-- Where a quotient is no number, the dividend lies beyond what the greatest, or the least, makes. -/
theorem beyond (n c : Int) (hc : 1 ≤ c) (h : slimE (n / c) ≠ 0) : slimE (n / c) = 3 ∧
    ((9223372036854775807 * c + (c - 1) < n) ∨ (n < -9223372036854775808 * c ∧ n < 9223372036854775807 * c + (c - 1))) := by
  have e1 := Int.ediv_mul_add_emod n c
  have a1 := Int.emod_nonneg n (show c ≠ 0 by omega)
  have a2 := Int.emod_lt_of_pos n (show 0 < c by omega)
  unfold slimE at h ⊢
  split at h
  · omega
  · rename_i h1
    rw [if_neg h1]
    refine ⟨rfl, ?_⟩
    by_cases h2 : 9223372036854775807 < n / c
    · left
      have := Int.mul_le_mul_of_nonneg_right (show 9223372036854775808 ≤ n / c by omega) (show 0 ≤ c by omega)
      omega
    · right
      have := Int.mul_le_mul_of_nonneg_right (show n / c ≤ -9223372036854775809 by omega) (show 0 ≤ c by omega)
      omega

theorem cmp_less {a b : Int} (h : a < b) : cmpI a b = -1 := by unfold cmpI; rw [if_pos h]
theorem cmp_more {a b : Int} (h : b < a) : cmpI a b = 1 := by unfold cmpI; rw [if_neg (by omega), if_neg (by omega)]
theorem cmp_le {a b : Int} (h : a ≤ b) : cmpI a b ≤ 0 := by
  unfold cmpI
  split
  · omega
  · rw [if_pos (by omega)]; omega

theorem raw_want (a b c d n m : Int) (hn : n = a * 18446744073709551616 + b) (hm : m = c * 18446744073709551616 + d) (b0 : 0 ≤ b) (b1 : b < 18446744073709551616) (d0 : 0 ≤ d) (d1 : d < 18446744073709551616) :
    (a < c ∧ cmpI n m = -1) ∨ (c < a ∧ cmpI n m = 1) ∨ (a = c ∧ b < d ∧ cmpI n m = -1) ∨ (a = c ∧ d < b ∧ cmpI n m = 1) ∨ (a = c ∧ b = d ∧ cmpI n m = 0) := by
  unfold cmpI
  split
  · omega
  · split <;> omega

theorem lt_of_cell {w : World} {b o : Nat} {v : Value} (h : w.cell? ⟨b, o, none⟩ = some v) : b < w.heap.size := block_lt_of_cell h

set_option maxRecDepth 100000 in
set_option maxHeartbeats 6000000 in
theorem raw_walk (n m c : Int) (w : World) (hn : I128 n) (hm : I128 m) (hc : I64 c) :
    Calls Try.prog 5 #[num n, num m, .int .i64 c] w fun e w' => e = .returned (.bool true) ∧ Keeps [] w w' := by
  have hw := raw_want (n / 18446744073709551616) (n % 18446744073709551616) (m / 18446744073709551616) (m % 18446744073709551616) n m (by omega) (by omega) (by omega) (by omega) (by omega) (by omega)
  obtain ⟨ah, hah⟩ : ∃ x, x = n / 18446744073709551616 := ⟨_, rfl⟩
  obtain ⟨al, hal⟩ : ∃ x, x = n % 18446744073709551616 := ⟨_, rfl⟩
  obtain ⟨bh, hbh⟩ : ∃ x, x = m / 18446744073709551616 := ⟨_, rfl⟩
  obtain ⟨bl, hbl⟩ : ∃ x, x = m % 18446744073709551616 := ⟨_, rfl⟩
  have en : num n = .agg #[.int .i64 ah, .int .u64 al] := by rw [num_unfold, ← hah, ← hal]
  have em : num m = .agg #[.int .i64 bh, .int .u64 bl] := by rw [num_unfold, ← hbh, ← hbl]
  rw [← hah, ← hal, ← hbh, ← hbl] at hw
  obtain ⟨r, hr⟩ : ∃ r, r = cmpI n m := ⟨_, rfl⟩
  rw [← hr] at hw
  rw [en, em]
  have EN := Lib.hid en
  have EM := Lib.hid em
  have HR := Lib.hid hr
  have HW := Lib.hid hw
  have HNI := Lib.hid hn
  have HMI := Lib.hid hm
  have HC := Lib.hid hc
  clear hah hal hbh hbl en em hr hw hn hm hc
  go_enter Try.func5, Try.ntmps5
  go_wp2_with fail
  refine (works_any _).mono ?_
  rintro e w1 ⟨rfl, k1⟩
  have hsz : w.heap.size + 1 < w1.heap.size := by have := k1.size; simp at this; omega
  have ba : w1.heap[w.heap.size]? = some (.cells #[.int .i64 ah, .int .u64 al] 25 (0, 0)) := k1.held (heap_alloc2_old w _ _) (by simp)
  have bb : w1.heap[w.heap.size + 1]? = some (.cells #[.int .i64 bh, .int .u64 bl] 25 (0, 0)) := k1.held (heap_alloc2_new w _ _) (by simp)
  have c1 := cell_of_block ba (o := 0) (v := .int .i64 ah) rfl
  have c2 := cell_of_block ba (o := 1) (v := .int .u64 al) rfl
  have c3 := cell_of_block bb (o := 0) (v := .int .i64 bh) rfl
  have c4 := cell_of_block bb (o := 1) (v := .int .u64 bl) rfl
  have K1 := Lib.hid (((Keeps.refl [] w).alloc _ |>.alloc _) |>.trans0 k1)
  have BA := Lib.hid ba
  clear k1 ba bb
  go_upto_if 17 with fail
  go_cut [7] from 17 to 32 (fun v wx => v = .int .i64 r ∧ w1 = wx)
  case first =>
    rcases HW.out with ⟨h1, rfl⟩ | ⟨h1, rfl⟩ | ⟨rfl, h2, rfl⟩ | ⟨rfl, h2, rfl⟩ | ⟨rfl, rfl, rfl⟩
    · have n1 : (ah != bh) = true := by simp; omega
      go_wp2_with fail
      go_meet
      exact ⟨rfl, rfl⟩
    · have n1 : (ah != bh) = true := by simp; omega
      have n2 : decide (ah < bh) = false := by simp; omega
      go_wp2_with fail
      go_meet
      exact ⟨rfl, rfl⟩
    · have n1 : (al != bl) = true := by simp; omega
      go_wp2_with fail
      go_meet
      exact ⟨rfl, rfl⟩
    · have n1 : (al != bl) = true := by simp; omega
      have n2 : decide (al < bl) = false := by simp; omega
      go_wp2_with fail
      go_meet
      exact ⟨rfl, rfl⟩
    · go_wp2_with fail
      go_meet
      exact ⟨rfl, rfl⟩
  case rest =>
    obtain ⟨rfl, rfl⟩ := hcut
    clear HW
    have hcn : ∀ wz, Calls Try.prog 16 #[.agg #[.int .i64 ah, .int .u64 al], .agg #[.int .i64 bh, .int .u64 bl]] wz fun e w' => e = .returned (.int .i64 r) ∧ Keeps [] wz w' := by
      intro wz
      rw [← EN.out, ← EM.out, HR.out]
      exact compare_any n m wz
    have HCN := Lib.hid hcn
    clear hcn
    go_wp2_with fail
    refine (HCN.out _).mono ?_
    rintro e w2 ⟨rfl, k2⟩
    have ba2 := k2.held BA.out (by simp)
    have c5 := cell_of_block ba2 (o := 0) (v := .int .i64 ah) rfl
    have c6 := cell_of_block ba2 (o := 1) (v := .int .u64 al) rfl
    have BA2 := Lib.hid ba2
    have K2 := Lib.hid (K1.out.trans0 k2)
    have hsz2 : w.heap.size < w2.heap.size := lt_of_block ba2
    clear ba2 k2 c1 c2 c3 c4 hsz
    by_cases hc : c < 1
    · have hdn : ∀ wz, Calls Try.prog 23 #[.agg #[.int .i64 ah, .int .u64 al], .int .i64 c] wz fun e w' => e = .returned (.tuple #[.int .i64 0, .int .i64 2]) ∧ Keeps [] wz w' := by
        intro wz
        rw [← EN.out]
        exact down_no n c wz hc
      have HDN := Lib.hid hdn
      clear hdn
      go_wp2_with fail
      refine (HDN.out _).mono ?_
      rintro e w3 ⟨rfl, k3⟩
      go_wp2_with fail
      go_ret
      exact ⟨rfl, K2.out.trans0 k3⟩
    · have hc1 : 1 ≤ c := by omega
      have hc2 : c ≤ 9223372036854775807 := by have := HC.out; unfold I64 at this; omega
      obtain ⟨q, hq⟩ : ∃ q, q = n / c := ⟨_, rfl⟩
      obtain ⟨u, hu⟩ : ∃ u, u = slimI q := ⟨_, rfl⟩
      obtain ⟨ue, hue⟩ : ∃ u, u = slimE q := ⟨_, rfl⟩
      have hdn : ∀ wz, Calls Try.prog 23 #[.agg #[.int .i64 ah, .int .u64 al], .int .i64 c] wz fun e w' => e = .returned (.tuple #[.int .i64 u, .int .i64 ue]) ∧ Keeps [] wz w' := by
        intro wz
        rw [← EN.out, hu, hue, hq]
        exact down_yes n c wz HNI.out hc1 hc2
      have HDN := Lib.hid hdn
      clear hdn
      obtain ⟨d, hd⟩ : ∃ d, c - 1 = d := ⟨_, rfl⟩
      have hd0 : 0 ≤ d := by omega
      have hd1 : d ≤ 9223372036854775806 := by omega
      have hdI : I64 d := by unfold I64; omega
      have hwd : IntKind.i64.wrap d = d := by rw [IntKind.wrap_i64]; omega
      have HDI := Lib.hid hdI
      clear hdI
      by_cases he0 : slimE q = 0
      · have hin : -9223372036854775808 ≤ q ∧ q ≤ 9223372036854775807 := by
          unfold slimE at he0
          split at he0
          · assumption
          · omega
        have huq : u = q := by rw [hu]; unfold slimI; rw [if_pos hin]
        have hu0 : ue = 0 := by rw [hue, he0]
        subst hu0
        obtain ⟨P, hP⟩ : ∃ P, P = u * c := ⟨_, rfl⟩
        have hPr : I128 P := by rw [hP]; exact mul_I128 u c (by unfold I64; omega) HC.out
        have hPr2 := mul_range u c (by unfold I64; omega) HC.out
        rw [← hP] at hPr2
        have hdm := Int.ediv_mul_add_emod n c
        rw [← hq, ← huq, ← hP] at hdm
        have hm0 := Int.emod_nonneg n (show c ≠ 0 by omega)
        have hm1 := Int.emod_lt_of_pos n (show 0 < c by omega)
        have hTI : w128 (plainSum [P, d]) = P + d := by
          have : plainSum [P, d] = P + d := by simp [plainSum]
          rw [this, w128_in (by unfold I128; omega)]
        obtain ⟨v1, hv1⟩ : ∃ v, v = cmpI P n := ⟨_, rfl⟩
        obtain ⟨v2, hv2⟩ : ∃ v, v = cmpI n (P + d) := ⟨_, rfl⟩
        have g1 : v1 ≤ 0 := by rw [hv1]; exact cmp_le (by omega)
        have g2 : v2 ≤ 0 := by rw [hv2]; exact cmp_le (by omega)
        obtain ⟨T, hT⟩ : ∃ T, T = P + d := ⟨_, rfl⟩
        rw [← hT] at hTI hv2
        have hcm1 : ∀ wz, Calls Try.prog 16 #[.agg #[.int .i64 (P / 18446744073709551616), .int .u64 (P % 18446744073709551616)], .agg #[.int .i64 ah, .int .u64 al]] wz fun e w' => e = .returned (.int .i64 v1) ∧ Keeps [] wz w' := by
          intro wz
          rw [← EN.out, hv1]
          exact compare_any P n wz
        have hcm2 : ∀ wz, Calls Try.prog 16 #[.agg #[.int .i64 ah, .int .u64 al], .agg #[.int .i64 (T / 18446744073709551616), .int .u64 (T % 18446744073709551616)]] wz fun e w' => e = .returned (.int .i64 v2) ∧ Keeps [] wz w' := by
          intro wz
          rw [← EN.out, hv2]
          exact compare_any n T wz
        have HM1 := Lib.hid hcm1
        have HM2 := Lib.hid hcm2
        have HTI := Lib.hid hTI
        have HP := Lib.hid hP
        have HPR := Lib.hid hPr
        have HUI : Hid (I64 u) := Lib.hid (by unfold I64; omega)
        clear hcm1 hcm2 hTI hP hPr hPr2 hdm hm0 hm1 hv1 hv2 hT huq hin he0 hue hu hq
        go_wp2_with fail
        refine (HDN.out _).mono ?_
        rintro e w3 ⟨rfl, k3⟩
        go_wp2_with fail
        refine (wmul_any u c _ HUI.out HC.out).mono ?_
        rintro e w4 ⟨he, k4⟩
        rw [← HP.out, num_unfold] at he
        subst he
        go_upto_region 20 with fail
        have ba4 := (k3.trans0 k4).held BA2.out (by simp)
        have hS : ∀ wz, Keeps [] (w4.alloc (.cells #[.int .i64 (P / 18446744073709551616), .int .u64 (P % 18446744073709551616)] 25)) wz → wz.cell? ⟨w.heap.size, 0, none⟩ = some (.int .i64 ah) ∧ wz.cell? ⟨w.heap.size, 1, none⟩ = some (.int .u64 al) ∧ wz.cell? ⟨w4.heap.size, 0, none⟩ = some (.int .i64 (P / 18446744073709551616)) ∧ wz.cell? ⟨w4.heap.size, 1, none⟩ = some (.int .u64 (P % 18446744073709551616)) := by
          intro wz hz
          have h1 := hz.held (heap_alloc_held ba4 _) (by simp)
          have h2 := hz.held (heap_alloc_new w4 (.cells #[.int .i64 (P / 18446744073709551616), .int .u64 (P % 18446744073709551616)] 25)) (by simp)
          exact ⟨cell_of_block h1 rfl, cell_of_block h1 rfl, cell_of_block h2 rfl, cell_of_block h2 rfl⟩
        have HS := Lib.hid hS
        have K4 := Lib.hid ((K2.out.trans0 k3).trans0 k4)
        have q0 := hS _ (Keeps.refl _ _)
        clear hS ba4 k3 k4 c5 c6
        go_region_held3 (fun w' => w'.cell? ⟨w.heap.size, 0, none⟩ = some (.int .i64 ah) ∧ w'.cell? ⟨w.heap.size, 1, none⟩ = some (.int .u64 al) ∧ w'.cell? ⟨w4.heap.size, 0, none⟩ = some (.int .i64 (P / 18446744073709551616)) ∧ w'.cell? ⟨w4.heap.size, 1, none⟩ = some (.int .u64 (P % 18446744073709551616))) (first | exact q0 | exact p1 | exact p2 | exact p3 | exact p4 | go_keep)
          (first
            | (go_at_call 16; have _ := K7; (with_reducible refine (HM2.out _).mono ?_); rintro e w8 ⟨he, k8⟩; subst he; have K8 := Lib.hid (K7.out.trans0 k8); have p4 := HS.out _ K8.out; clear k8)
            | (go_at_call 16; (with_reducible refine (HM1.out _).mono ?_); rintro e w5 ⟨he, k5⟩; subst he; have K5 := Lib.hid (((Keeps.refl [] _).drewN _).trans0 k5); have p1 := HS.out _ K5.out; clear k5)
            | (go_at_call 12; refine (of_any d _ HDI.out).mono ?_; rintro e w6 ⟨he, k6⟩; rw [num_unfold] at he; subst he; have K6 := Lib.hid (K5.out.trans0 k6); have p2 := HS.out _ K6.out; clear k6)
            | (go_at_call 14; refine (add_any [P, d] _ 2 _ _ (by intro z hz; simp at hz; rcases hz with rfl | rfl; exact HPR.out; exact I128_of HDI.out) rfl (by omega) (nums2 _ P d)).mono ?_; rintro e w7 ⟨he, k7⟩; rw [HTI.out, num_unfold] at he; subst he; have K7 := Lib.hid ((K6.out.alloc _).trans0 k7); have p3 := HS.out _ K7.out; clear k7))
        all_goals go_wp2_with fail
        all_goals go_ret
        all_goals exact ⟨rfl, (K4.out.alloc _).trans0 K8.out⟩
      · obtain ⟨g0, g1⟩ := beyond n c hc1 (by rw [← hq]; exact he0)
        rw [← hq] at g0
        have hu0 : ue = 3 := by rw [hue, g0]
        subst hu0
        obtain ⟨M, hM⟩ : ∃ M, 9223372036854775807 * c = M := ⟨_, rfl⟩
        obtain ⟨N, hN⟩ : ∃ M, -9223372036854775808 * c = M := ⟨_, rfl⟩
        have hMr := mul_range 9223372036854775807 c (by unfold I64; omega) HC.out
        have hMR := mul_I128 9223372036854775807 c (by unfold I64; omega) HC.out
        have hNr : True := trivial
        rw [hM] at hMr hMR
        obtain ⟨T, hT⟩ : ∃ T, M + d = T := ⟨_, rfl⟩
        have hTI : w128 (plainSum [M, d]) = T := by
          have : plainSum [M, d] = T := by rw [← hT]; simp [plainSum]
          rw [this, w128_in (by unfold I128; omega)]
        rw [hM, hN, hd, hT] at g1
        have HMM := Lib.hid hM
        have HNN := Lib.hid hN
        have HMR := Lib.hid hMR
        have HTI := Lib.hid hTI
        clear hMR hTI g0 hue hu hq he0
        rcases g1 with h1 | h1
        · obtain ⟨v1, hv1⟩ : ∃ v, v = cmpI n T := ⟨_, rfl⟩
          have g2 : v1 = 1 := by rw [hv1]; exact cmp_more (by omega)
          subst g2
          have hcm1 : ∀ wz, Calls Try.prog 16 #[.agg #[.int .i64 ah, .int .u64 al], .agg #[.int .i64 (T / 18446744073709551616), .int .u64 (T % 18446744073709551616)]] wz fun e w' => e = .returned (.int .i64 1) ∧ Keeps [] wz w' := by
            intro wz
            rw [← EN.out, hv1]
            exact compare_any n T wz
          have HM1 := Lib.hid hcm1
          clear hcm1 hv1 h1 hMr hNr hM hN hT
          go_wp2_with fail
          refine (HDN.out _).mono ?_
          rintro e w3 ⟨rfl, k3⟩
          go_upto_region 18 with fail
          have ba3 := k3.held BA2.out (by simp)
          have hS : ∀ wz, Keeps [] w3 wz → wz.cell? ⟨w.heap.size, 0, none⟩ = some (.int .i64 ah) ∧ wz.cell? ⟨w.heap.size, 1, none⟩ = some (.int .u64 al) := by
            intro wz hz
            have h1 := hz.held ba3 (by simp)
            exact ⟨cell_of_block h1 rfl, cell_of_block h1 rfl⟩
          have HS := Lib.hid hS
          have K3 := Lib.hid (K2.out.trans0 k3)
          have q0 := hS _ (Keeps.refl _ _)
          clear hS ba3 k3 c5 c6
          first | (go_region_with (first
              | (go_at_call 10; refine (wmul_any 9223372036854775807 c _ (by unfold I64; omega) HC.out).mono ?_; rintro e w5 ⟨he, k5⟩; rw [HMM.out, num_unfold] at he; subst he; have K5 := Lib.hid (((Keeps.refl [] _).drewN _).trans0 k5); have p1 := HS.out _ K5.out; clear k5)
              | (go_at_call 12; refine (of_any d _ HDI.out).mono ?_; rintro e w6 ⟨he, k6⟩; rw [num_unfold] at he; subst he; have K6 := Lib.hid (K5.out.trans0 k6); have p2 := HS.out _ K6.out; have s6 := lt_of_cell p2.1; clear k6)
              | (go_at_call 14; refine (add_any [M, d] _ 2 _ _ (by intro z hz; simp at hz; rcases hz with rfl | rfl; exact HMR.out; exact I128_of HDI.out) rfl (by omega) (nums2 _ M d)).mono ?_; rintro e w7 ⟨he, k7⟩; rw [HTI.out, num_unfold] at he; subst he; have K7 := Lib.hid ((K6.out.alloc _).trans0 k7); have p3 := HS.out _ K7.out; clear k7)
              | (go_at_call 16; (with_reducible refine (HM1.out _).mono ?_); rintro e w8 ⟨he, k8⟩; subst he; have K8 := Lib.hid (K7.out.trans0 k8); have p4 := HS.out _ K8.out; clear k8))) | fail
          all_goals go_wp2_with fail
          all_goals go_ret
          all_goals exact ⟨rfl, K3.out.trans0 K8.out⟩
        · obtain ⟨v1, hv1⟩ : ∃ v, v = cmpI n T := ⟨_, rfl⟩
          have g2 : v1 = -1 := by rw [hv1]; exact cmp_less (by omega)
          have hcm2 : ∀ wz, Calls Try.prog 16 #[.agg #[.int .i64 ah, .int .u64 al], .agg #[.int .i64 (N / 18446744073709551616), .int .u64 (N % 18446744073709551616)]] wz fun e w' => e = .returned (.int .i64 (-1)) ∧ Keeps [] wz w' := by
            intro wz
            rw [← EN.out, show (-1 : Int) = cmpI n N from (cmp_less (by omega)).symm]
            exact compare_any n N wz
          have HM2 := Lib.hid hcm2
          clear hcm2
          subst g2
          have hcm1 : ∀ wz, Calls Try.prog 16 #[.agg #[.int .i64 ah, .int .u64 al], .agg #[.int .i64 (T / 18446744073709551616), .int .u64 (T % 18446744073709551616)]] wz fun e w' => e = .returned (.int .i64 (-1)) ∧ Keeps [] wz w' := by
            intro wz
            rw [← EN.out, hv1]
            exact compare_any n T wz
          have HM1 := Lib.hid hcm1
          clear hcm1 hv1 h1 hMr hNr hM hN hT
          go_wp2_with fail
          refine (HDN.out _).mono ?_
          rintro e w3 ⟨rfl, k3⟩
          go_upto_region 18 with fail
          have ba3 := k3.held BA2.out (by simp)
          have hS : ∀ wz, Keeps [] w3 wz → wz.cell? ⟨w.heap.size, 0, none⟩ = some (.int .i64 ah) ∧ wz.cell? ⟨w.heap.size, 1, none⟩ = some (.int .u64 al) := by
            intro wz hz
            have h1 := hz.held ba3 (by simp)
            exact ⟨cell_of_block h1 rfl, cell_of_block h1 rfl⟩
          have HS := Lib.hid hS
          have K3 := Lib.hid (K2.out.trans0 k3)
          have q0 := hS _ (Keeps.refl _ _)
          clear hS ba3 k3 c5 c6
          go_region_held3 (fun w' => w'.cell? ⟨w.heap.size, 0, none⟩ = some (.int .i64 ah) ∧ w'.cell? ⟨w.heap.size, 1, none⟩ = some (.int .u64 al)) (first | exact q0 | exact p1 | exact p2 | exact p3 | exact p4 | exact p5 | exact p6 | go_keep)
            (first
              | (go_at_call 10; have _ := K8; refine (wmul_any (-9223372036854775808) c _ (by unfold I64; omega) HC.out).mono ?_; rintro e w9 ⟨he, k9⟩; rw [HNN.out, num_unfold] at he; subst he; have K9 := Lib.hid (K8.out.trans0 k9); have p5 := HS.out _ K9.out; clear k9)
              | (go_at_call 16; have _ := K9; (with_reducible refine (HM2.out _).mono ?_); rintro e wa ⟨he, ka⟩; subst he; have KA := Lib.hid (K9.out.trans0 ka); have p6 := HS.out _ KA.out; clear ka)
              | (go_at_call 10; refine (wmul_any 9223372036854775807 c _ (by unfold I64; omega) HC.out).mono ?_; rintro e w5 ⟨he, k5⟩; rw [HMM.out, num_unfold] at he; subst he; have K5 := Lib.hid (((Keeps.refl [] _).drewN _).trans0 k5); have p1 := HS.out _ K5.out; clear k5)
              | (go_at_call 12; refine (of_any d _ HDI.out).mono ?_; rintro e w6 ⟨he, k6⟩; rw [num_unfold] at he; subst he; have K6 := Lib.hid (K5.out.trans0 k6); have p2 := HS.out _ K6.out; clear k6)
              | (go_at_call 14; refine (add_any [M, d] _ 2 _ _ (by intro z hz; simp at hz; rcases hz with rfl | rfl; exact HMR.out; exact I128_of HDI.out) rfl (by omega) (nums2 _ M d)).mono ?_; rintro e w7 ⟨he, k7⟩; rw [HTI.out, num_unfold] at he; subst he; have K7 := Lib.hid ((K6.out.alloc _).trans0 k7); have p3 := HS.out _ K7.out; clear k7)
              | (go_at_call 16; (with_reducible refine (HM1.out _).mono ?_); rintro e w8 ⟨he, k8⟩; subst he; have K8 := Lib.hid (K7.out.trans0 k8); have p4 := HS.out _ K8.out; clear k8))
          all_goals go_wp2_with fail
          all_goals go_ret
          all_goals exact ⟨rfl, K3.out.trans0 KA.out⟩
end Go.Proofs.Ytdanmeemoifapaa
