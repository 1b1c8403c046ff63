
/- pack: get, Get, GetPlain: contracts. -/
import Derived.Test.YtihpmnnbiabggaaDoorPc
namespace Go.Proofs.YtihpmnnbiabggaaDoor
open Go.RowKit
set_option maxRecDepth 100000
set_option linter.unusedVariables false

theorem or_word (m x : Nat) (hx : x < 65536) : m * 65536 ||| x = m * 65536 + x := by
  have := Nat.two_pow_add_eq_or_of_lt (i := 16) (b := x) (by omega) m
  rw [show (2:Nat) ^ 16 = 65536 from rfl] at this
  rw [Nat.mul_comm, ← this]
theorem bits_orI (V x : Int) (h0 : 0 ≤ x) (h1 : x ≤ 65535) : bits .or .i64 (wrap64 (wrap64 V * 65536)) x = wrap64 (V * 65536 + x) := by
  show IntKind.i64.wrap ((BitVec.ofInt 64 (wrap64 (wrap64 V * 65536)) ||| BitVec.ofInt 64 x).toNat : Int) = _
  obtain ⟨j, hj⟩ : ∃ j, j = (V % 281474976710656).toNat := ⟨_, rfl⟩
  have e1 : (BitVec.ofInt 64 (wrap64 (wrap64 V * 65536))).toNat = j * 65536 := by
    rw [BitVec.toNat_ofInt]
    show (wrap64 (wrap64 V * 65536) % 18446744073709551616).toNat = _
    unfold wrap64
    omega
  have e2 : (BitVec.ofInt 64 x).toNat = x.toNat := by
    rw [BitVec.toNat_ofInt]
    show (x % 18446744073709551616).toNat = _
    omega
  rw [BitVec.toNat_or, e1, e2, or_word _ _ (by omega), IntKind.wrap_i64]
  unfold wrap64
  omega
theorem bits_orU (V x : Int) (h0 : 0 ≤ x) (h1 : x ≤ 65535) (hV : 0 ≤ V) (hV2 : V < 281474976710656) : bits .or .u64 (V * 65536) x = V * 65536 + x := by
  show IntKind.u64.wrap ((BitVec.ofInt 64 (V * 65536) ||| BitVec.ofInt 64 x).toNat : Int) = _
  have e1 : (BitVec.ofInt 64 (V * 65536)).toNat = V.toNat * 65536 := by
    rw [BitVec.toNat_ofInt]
    show ((V * 65536) % 18446744073709551616).toNat = _
    omega
  have e2 : (BitVec.ofInt 64 x).toNat = x.toNat := by
    rw [BitVec.toNat_ofInt]
    show (x % 18446744073709551616).toNat = _
    omega
  rw [BitVec.toNat_or, e1, e2, or_word _ _ (by omega)]
  simp [IntKind.wrap, IntKind.bits, IntKind.signed]
  omega
theorem firstC_cases (k : Nat) (xs : List Int) : firstC k xs = 2 ∨ firstC k xs = 7 ∨ firstC k xs = 0 ∧ (∀ x ∈ xs.take k, 0 ≤ x ∧ x ≤ 65535) ∧ k ≤ xs.length := by
  unfold firstC
  by_cases h : ∀ x ∈ xs.take k, 0 ≤ x ∧ x ≤ 65535
  · rw [if_neg (fun hn => hn h)]
    by_cases h2 : xs.length < k
    · rw [if_pos h2]; exact .inr (.inl rfl)
    · rw [if_neg h2]; exact .inr (.inr ⟨rfl, h, by omega⟩)
  · rw [if_pos h]; exact .inl rfl
theorem getR_no {k : Int} {s : Bool} {xs : List Int} (h : ¬ (1 ≤ k ∧ k ≤ 4)) : getR k s xs = (2, 0) := by
  unfold getR
  rw [if_pos h]
theorem getR_first {k : Nat} {s : Bool} {xs : List Int} (h1 : 1 ≤ k) (h4 : k ≤ 4) (h : firstC k xs ≠ 0) : getR k s xs = (firstC k xs, 0) := by
  unfold getR
  rw [if_neg (by omega), Int.toNat_natCast]
  unfold firstC at h ⊢
  by_cases h2 : ¬ ∀ x ∈ xs.take k, 0 ≤ x ∧ x ≤ 65535
  · rw [if_pos h2, if_pos h2]
  · rw [if_neg h2] at h ⊢
    rw [if_neg h2]
    by_cases h3 : xs.length < k
    · rw [if_pos h3, if_pos h3]
    · rw [if_neg h3] at h
      exact absurd rfl h
theorem getR_true {k : Nat} {xs : List Int} (h1 : 1 ≤ k) (h4 : k ≤ 4) (h : ∀ x ∈ xs.take k, 0 ≤ x ∧ x ≤ 65535) (hl : k ≤ xs.length) : getR k true xs = (0, keptS k (valL (xs.take k))) := by
  unfold getR
  rw [if_neg (by omega), Int.toNat_natCast, if_neg (fun hn => hn h), if_neg (by omega), if_pos rfl]
theorem getR_long {k : Nat} {xs : List Int} (h1 : 1 ≤ k) (h4 : k ≤ 4) (h : ∀ x ∈ xs.take k, 0 ≤ x ∧ x ≤ 65535) (hl : k ≤ xs.length) (hv : 9223372036854775807 < valL (xs.take k)) : getR k false xs = (3, 0) := by
  unfold getR
  rw [if_neg (by omega), Int.toNat_natCast, if_neg (fun hn => hn h), if_neg (by omega), if_neg (by decide), if_pos hv]
theorem getR_false {k : Nat} {xs : List Int} (h1 : 1 ≤ k) (h4 : k ≤ 4) (h : ∀ x ∈ xs.take k, 0 ≤ x ∧ x ≤ 65535) (hl : k ≤ xs.length) (hv : ¬ 9223372036854775807 < valL (xs.take k)) : getR k false xs = (0, valL (xs.take k)) := by
  unfold getR
  rw [if_neg (by omega), Int.toNat_natCast, if_neg (fun hn => hn h), if_neg (by omega), if_neg (by decide), if_neg hv]
theorem kept_wrap {k : Nat} (h1 : 1 ≤ k) (h4 : k ≤ 4) (V : Int) : keptS k (wrap64 V) = keptS k V := by
  obtain rfl | rfl | rfl | rfl : k = 1 ∨ k = 2 ∨ k = 3 ∨ k = 4 := by omega
  all_goals
    simp only [keptS, full1, full2, full3, full4, wrap64]
    omega
theorem kept_fit {k : Nat} (h1 : 1 ≤ k) (V : Int) : fitB k true (keptS k V) = true := by
  unfold fitB
  rw [if_pos rfl, decide_eq_true_iff]
  exact kept_bd V h1
theorem take_all {k i : Nat} {xs : List Int} (h : ∀ x ∈ xs.take k, 0 ≤ x ∧ x ≤ 65535) (hi : i ≤ k) : ∀ x ∈ xs.take i, 0 ≤ x ∧ x ≤ 65535 := by
  intro x hx
  refine h x ?_
  have : xs.take i = (xs.take k).take i := by rw [List.take_take, Nat.min_eq_left hi]
  rw [this] at hx
  exact List.mem_of_mem_take hx
theorem take_word {k i : Nat} {xs : List Int} (h : ∀ x ∈ xs.take k, 0 ≤ x ∧ x ≤ 65535) (hi : i < k) (hl : k ≤ xs.length) : 0 ≤ xs.getD i 0 ∧ xs.getD i 0 ≤ 65535 := by
  refine h _ ?_
  have h1 : (xs.take k)[i]? = some (xs.getD i 0) := by
    rw [List.getElem?_take, if_pos hi]
    simp [List.getD, show i < xs.length by omega]
  exact List.mem_of_getElem? h1
theorem full_le {i : Nat} (h : i ≤ 4) : fullN i ≤ 18446744073709551616 := by
  obtain rfl | rfl | rfl | rfl | rfl : i = 0 ∨ i = 1 ∨ i = 2 ∨ i = 3 ∨ i = 4 := by omega
  all_goals decide
theorem val_small {k i : Nat} {xs : List Int} (h : ∀ x ∈ xs.take k, 0 ≤ x ∧ x ≤ 65535) (hi : i ≤ k) (hl : k ≤ xs.length) : 0 ≤ valL (xs.take i) ∧ valL (xs.take i) < fullN i := by
  have := valL_bd (take_all h hi)
  rwa [List.length_take, show min i xs.length = i by omega] at this
theorem val_step {i : Nat} {xs : List Int} (hi : i < xs.length) : valL (xs.take (i + 1)) = valL (xs.take i) * 65536 + xs.getD i 0 := by
  rw [List.take_succ_eq_append_getElem hi, valL_snoc]
  simp [List.getD, hi]

set_option maxHeartbeats 2000000 in
theorem getU_yes (k : Nat) (p : Addr) (a : Option Addr) (n c : Nat) (xs : List Int) (w : World) (h1 : 1 ≤ k) (h4 : k ≤ 4) (hcp : w.cell? p = some (.int .i64 k)) (hi : IntsAt w a n xs) (hn : n ≤ c) (hc : c ≤ maxLen) :
    Calls Tryd.prog 53 #[.int .i64 k, .func (.func 51) #[] #[.pointer (some p)], .slice a n c] w fun e w' => e = .returned (.tuple #[.int .i64 (getR k false xs).2, .int .i64 (getR k false xs).1]) ∧ w = w' := by
  have HI := Lib.hid hi
  have HCP := Lib.hid hcp
  have HLEN := Lib.hid (show n = xs.length from hi.1)
  have hdec : decide (1 ≤ (k : Int) ∧ (k : Int) ≤ 4) = true := by simp; omega
  have HD := Lib.hid hdec
  have HN := Lib.hid hn
  have HC := Lib.hid hc
  clear hi hcp hdec hn hc
  rcases firstC_cases k xs with hC | hC | ⟨hC, hall, hkl⟩
  · have hR := getR_first (s := false) h1 h4 (xs := xs) (by rw [hC]; decide)
    rw [hC] at hR
    rw [hR]
    have HFC := Lib.hid hC
    clear hC hR
    go_enter Tryd.func53, Tryd.ntmps53
    go_wp2_with fail
    refine (within_any _ _ _ _).mono ?_
    rintro e w' ⟨he, rfl⟩
    rw [HD.out] at he
    subst he
    go_wp2_with fail
    refine (first_any k a n c xs _ HI.out HN.out HC.out (by omega)).mono ?_
    rintro e w' ⟨he, rfl⟩
    rw [HFC.out] at he
    subst he
    go_wp2_with fail
    go_ret2
    exact ⟨rfl, rfl⟩
  · have hR := getR_first (s := false) h1 h4 (xs := xs) (by rw [hC]; decide)
    rw [hC] at hR
    rw [hR]
    have HFC := Lib.hid hC
    clear hC hR
    go_enter Tryd.func53, Tryd.ntmps53
    go_wp2_with fail
    refine (within_any _ _ _ _).mono ?_
    rintro e w' ⟨he, rfl⟩
    rw [HD.out] at he
    subst he
    go_wp2_with fail
    refine (first_any k a n c xs _ HI.out HN.out HC.out (by omega)).mono ?_
    rintro e w' ⟨he, rfl⟩
    rw [HFC.out] at he
    subst he
    go_wp2_with fail
    go_ret2
    exact ⟨rfl, rfl⟩
  · have HFC := Lib.hid hC
    have HALL := Lib.hid hall
    have hkx : k ≤ n := by rw [HLEN.out]; exact hkl
    have HKL := Lib.hid hkl
    clear hC hall hkl
    go_enter Tryd.func53, Tryd.ntmps53
    go_wp2_with fail
    refine (within_any _ _ _ _).mono ?_
    rintro e w' ⟨he, rfl⟩
    rw [HD.out] at he
    subst he
    go_wp2_with fail
    refine (first_any k a n c xs _ HI.out HN.out HC.out (by omega)).mono ?_
    rintro e w' ⟨he, rfl⟩
    rw [HFC.out] at he
    have hfv : firstV a k 0 = .slice a k k := rfl
    rw [hfv] at he
    clear hfv
    subst he
    go_wp2_with fail
    go_loop [10, 27] (fun vn vi => ∃ i : Nat, i ≤ k ∧ vi = .int .i64 i ∧ vn = .int .u64 (valL (xs.take i))) (fun _ vi => k - (intOf vi).toNat)
    case atStart => exact ⟨0, Nat.zero_le _, rfl, by simp [valL]⟩
    case round =>
      obtain ⟨i, hik, rfl, rfl⟩ := hrel
      have hvs := val_small HALL.out hik HKL.out
      have hfl := full_le (Nat.le_trans hik h4)
      obtain ⟨V, hV⟩ : ∃ V, V = valL (xs.take i) := ⟨_, rfl⟩
      rw [← hV] at hvs ⊢
      have HV := Lib.hid hV
      clear hV
      by_cases hlt : i < k
      · have hix : i < xs.length := Nat.lt_of_lt_of_le hlt HKL.out
        rcases a with _ | ⟨lb, lo', ls⟩
        · have := HI.out.2.1 rfl; rw [this] at hix; simp at hix
        obtain ⟨rfl, hlc⟩ := HI.out.2.2 lb lo' ls rfl (List.ne_nil_of_length_pos (by omega))
        have hx := hlc i hix
        have hxb := take_word HALL.out hlt HKL.out
        have hst := val_step hix
        obtain ⟨x, ex⟩ : ∃ x, x = xs.getD i 0 := ⟨_, rfl⟩
        rw [← ex] at hx hxb hst
        rw [← HV.out] at hst
        have HST := Lib.hid hst
        have hV48 : V < 281474976710656 := by
          have hfi : fullN i ≤ 281474976710656 := by
            obtain rfl | rfl | rfl | rfl : i = 0 ∨ i = 1 ∨ i = 2 ∨ i = 3 := by omega
            all_goals decide
          omega
        have hV0 := hvs.1
        have hor := bits_orU V x hxb.1 hxb.2 hvs.1 hV48
        obtain ⟨M, hM⟩ : ∃ M, M = V * 65536 + x := ⟨_, rfl⟩
        rw [← hM] at hor
        have HM := Lib.hid hM
        clear hM
        clear hlc ex hst hix hvs hfl
        go_wp2_with fail
        go_round
        case rel => exact ⟨i + 1, by omega, by go_num, by rw [HST.out, ← HM.out]⟩
        case measure => simp [intOf]; omega
      · have hik2 : i = k := by omega
        have HIK := Lib.hid hik2
        have hVk : V = valL (xs.take k) := by rw [HV.out, hik2]
        have HVK := Lib.hid hVk
        rw [hik2] at hvs
        clear hik2 hVk
        have hV64 : V < 18446744073709551616 := by have := full_le h4; omega
        have hkw : V % fullN k = V := Int.emod_eq_of_lt hvs.1 hvs.2
        have HKW := Lib.hid hkw
        have hV0 := hvs.1
        have HV1 := Lib.hid hvs.2
        by_cases hmax : 9223372036854775807 < V
        · have hR := getR_long h1 h4 HALL.out HKL.out (by rw [← HVK.out]; exact hmax)
          have hft : fitP k V = false := by unfold fitP; simp; omega
          have HR := Lib.hid hR
          have HFT := Lib.hid hft
          clear hR hkw hft hvs hfl
          go_wp2_with fail
          refine (keptU_any V k h1 h4 hV0 hV64 _).mono ?_
          rintro e w' ⟨he, rfl⟩
          rw [HKW.out] at he
          subst he
          go_wp2_with fail
          refine (plain1_any V k _ h1 h4 hV0 hV64 _ HCP.out).mono ?_
          rintro e w' ⟨he, rfl⟩
          rw [HFT.out] at he
          subst he
          go_wp2_with fail
          go_ret2
          exact ⟨by rw [HR.out]; rfl, rfl⟩
        · have hR := getR_false h1 h4 HALL.out HKL.out (by rw [← HVK.out]; exact hmax)
          rw [← HVK.out] at hR
          have hft : fitP k V = true := by unfold fitP; simp; omega
          have HR := Lib.hid hR
          have HFT := Lib.hid hft
          clear hR hkw hft hvs hfl
          go_wp2_with fail
          refine (keptU_any V k h1 h4 hV0 hV64 _).mono ?_
          rintro e w' ⟨he, rfl⟩
          rw [HKW.out] at he
          subst he
          go_wp2_with fail
          refine (plain1_any V k _ h1 h4 hV0 hV64 _ HCP.out).mono ?_
          rintro e w' ⟨he, rfl⟩
          rw [HFT.out] at he
          subst he
          go_wp2_with fail
          go_ret2
          exact ⟨by rw [HR.out]; rfl, rfl⟩
theorem getU_no (k : Int) (f : Value) (v : Value) (w : World) (h : ¬ (1 ≤ k ∧ k ≤ 4)) :
    Calls Tryd.prog 53 #[.int .i64 k, f, v] w fun e w' => e = .returned (.tuple #[.int .i64 0, .int .i64 2]) ∧ w = w' := by
  have hdec : decide (1 ≤ k ∧ k ≤ 4) = false := by simpa using h
  have HD := Lib.hid hdec
  clear hdec h
  go_enter Tryd.func53, Tryd.ntmps53
  go_wp2_with fail
  refine (within_any _ _ _ _).mono ?_
  rintro e w' ⟨he, rfl⟩
  rw [HD.out] at he
  subst he
  go_wp2_with fail
  go_ret2
  exact ⟨rfl, rfl⟩
theorem GetPlain_any (k : Int) (a : Option Addr) (n c : Nat) (xs : List Int) (w : World) (hi : IntsAt w a n xs) (hn : n ≤ c) (hc : c ≤ maxLen) :
    Calls Tryd.prog 48 #[.int .i64 k, .slice a n c] w fun e w' => e = .returned (.tuple #[.int .i64 (getR k false xs).2, .int .i64 (getR k false xs).1]) ∧ Keeps [] w w' := by
  have HI := Lib.hid hi
  have HN := Lib.hid hn
  have HC := Lib.hid hc
  clear hi hn hc
  have hcl : (w.alloc (.cells #[.int .i64 k] 3)).cell? ⟨w.heap.size, 0, none⟩ = some (.int .i64 k) := by rw [World.cell?_alloc_new]; rfl
  have HCL := Lib.hid hcl
  clear hcl
  by_cases h : 1 ≤ k ∧ k ≤ 4
  · obtain ⟨j, rfl⟩ := Int.eq_ofNat_of_zero_le (show 0 ≤ k by omega)
    have hj1 : 1 ≤ j := by omega
    have hj4 : j ≤ 4 := by omega
    obtain ⟨r1, hr1⟩ : ∃ r, r = (getR j false xs).1 := ⟨_, rfl⟩
    obtain ⟨r2, hr2⟩ : ∃ r, r = (getR j false xs).2 := ⟨_, rfl⟩
    rw [← hr1, ← hr2]
    have R1 := Lib.hid hr1
    have R2 := Lib.hid hr2
    clear h hr1 hr2
    go_enter Tryd.func48, Tryd.ntmps48
    go_wp2_with fail
    refine (plain_any _ _).mono ?_
    rintro e w' ⟨rfl, rfl⟩
    go_wp2_with fail
    refine (getU_yes j _ a n c xs _ hj1 hj4 HCL.out (HI.out.keep0 ((Keeps.refl _ _).alloc _)) HN.out HC.out).mono ?_
    rintro e w2 ⟨he, rfl⟩
    rw [← R1.out, ← R2.out] at he
    subst he
    go_wp2_with fail
    go_ret2
    exact ⟨rfl, ((Keeps.refl _ _).alloc _)⟩
  · have hno : getR k false xs = (2, 0) := getR_no h
    rw [hno]
    have HH := Lib.hid h
    clear h hno
    go_enter Tryd.func48, Tryd.ntmps48
    go_wp2_with fail
    refine (plain_any _ _).mono ?_
    rintro e w' ⟨rfl, rfl⟩
    go_wp2_with fail
    refine (getU_no k _ _ _ HH.out).mono ?_
    rintro e w2 ⟨rfl, rfl⟩
    go_wp2_with fail
    go_ret2
    exact ⟨rfl, ((Keeps.refl _ _).alloc _)⟩
end Go.Proofs.YtihpmnnbiabggaaDoor
