
/- pack: kept, signed, plain, within, first, lay: contracts. -/
import Derived.Test.YtihpmnnbiabggaaDoorAp
import Derived.Test.YtihpmnnbiabggaaDoorPa
namespace Go.Proofs.YtihpmnnbiabggaaDoor
open Go.RowKit
set_option maxRecDepth 100000
set_option linter.unusedVariables false

theorem within_any (l h n : Int) (w : World) :
    Calls Tryd.prog 49 #[.int .i64 l, .int .i64 h, .int .i64 n] w fun e w' => e = .returned (.bool (decide (l ≤ n ∧ n ≤ h))) ∧ w = w' := by
  by_cases h1 : l ≤ n
  · by_cases h2 : n ≤ h
    · have hf : decide (l ≤ n ∧ n ≤ h) = true := by simp [h1, h2]
      rw [hf]
      clear hf
      go_enter Tryd.func49, Tryd.ntmps49
      go_wp2
      go_ret
      exact ⟨rfl, rfl⟩
    · have hf : decide (l ≤ n ∧ n ≤ h) = false := by simp [h2]
      rw [hf]
      have h3 : decide (n ≤ h) = false := by simpa using h2
      clear hf h2
      go_enter Tryd.func49, Tryd.ntmps49
      go_wp2
      go_ret
      exact ⟨rfl, rfl⟩
  · have hf : decide (l ≤ n ∧ n ≤ h) = false := by simp [h1]
    rw [hf]
    have h3 : decide (l ≤ n) = false := by simpa using h1
    clear hf h1
    go_enter Tryd.func49, Tryd.ntmps49
    go_wp2
    go_ret
    exact ⟨rfl, rfl⟩

theorem keptU_any (n : Int) (k : Nat) (h1 : 1 ≤ k) (h4 : k ≤ 4) (h0 : 0 ≤ n) (hn : n < 18446744073709551616) (w : World)  :
    Calls Tryd.prog 52 #[.int .i64 k, .int .u64 n] w fun e w' => e = .returned (.int .u64 (n % fullN k)) ∧ w = w' := by
  obtain ⟨m, hm⟩ : ∃ m, m = n % fullN k := ⟨_, rfl⟩
  rw [← hm]
  have HM := Lib.hid hm
  clear hm
  obtain rfl | rfl | rfl | rfl : k = 1 ∨ k = 2 ∨ k = 3 ∨ k = 4 := by omega
  all_goals
    go_enter Tryd.func52, Tryd.ntmps52
    go_wp2
    go_ret
    refine ⟨?_, rfl⟩
    rw [HM.out]
    simp only [full1, full2, full3, full4, Array.getD]
    simp [IntKind.wrap, IntKind.bits, IntKind.signed]
    omega
theorem fit_s {k : Nat} {n : Int} (h1 : 1 ≤ k) : (keptS k n == n) = fitB k true n := by
  have h2 := kept_bd (k := k) n h1
  unfold fitB
  rw [if_pos rfl]
  by_cases h : -(fullN k / 2) ≤ n ∧ n < fullN k / 2
  · rw [kept_in h1 h]
    simp [h]
  · have : keptS k n ≠ n := fun e => h (by rw [e] at h2; exact h2)
    simp [h, this]
/-- Does what an uint holds go into k words? -/
def fitP (k : Nat) (n : Int) : Bool := decide (n < fullN k ∧ n ≤ 9223372036854775807)
theorem fit_p (k : Nat) {n : Int} (h : I64 n) : fitP k (IntKind.u64.wrap n) = fitB k false n := by
  unfold I64 at h
  have e : IntKind.u64.wrap n = n % 18446744073709551616 := by simp [IntKind.wrap, IntKind.bits, IntKind.signed]
  rw [e]
  unfold fitP fitB
  rw [if_neg (by decide)]
  apply decide_eq_decide.2
  have := full_pos k
  omega
theorem plain1_any (n : Int) (k : Nat) (p : Addr) (h1 : 1 ≤ k) (h4 : k ≤ 4) (h0 : 0 ≤ n) (hn : n < 18446744073709551616) (w : World) (hc : w.cell? p = some (.int .i64 k)) :
    Calls Tryd.prog 51 #[.int .u64 n, .pointer (some p)] w fun e w' => e = .returned (.bool (fitP k n)) ∧ w = w' := by
  have hp := full_pos k
  have hb1 := Int.emod_nonneg n (show fullN k ≠ 0 by omega)
  have hb2 := Int.emod_lt_of_pos n hp
  by_cases hlt : n < fullN k
  · have e1 : n % fullN k = n := Int.emod_eq_of_lt h0 hlt
    have E1 := Lib.hid e1
    by_cases hm : n ≤ 9223372036854775807
    · have e2 : fitP k n = true := by unfold fitP; simp [hlt, hm]
      rw [e2]
      clear e1 e2 hlt hb1 hb2 hp
      go_enter Tryd.func51, Tryd.ntmps51
      go_wp2_with fail
      refine (keptU_any n k h1 h4 h0 hn _).mono ?_
      rintro e w' ⟨he, rfl⟩
      rw [E1.out] at he
      subst he
      go_wp2_with fail
      go_ret
      exact ⟨rfl, rfl⟩
    · have e2 : fitP k n = false := by unfold fitP; simp; omega
      rw [e2]
      have hm2 : decide (n ≤ 9223372036854775807) = false := by simpa using hm
      clear e1 e2 hlt hb1 hb2 hp hm
      go_enter Tryd.func51, Tryd.ntmps51
      go_wp2_with fail
      refine (keptU_any n k h1 h4 h0 hn _).mono ?_
      rintro e w' ⟨he, rfl⟩
      rw [E1.out] at he
      subst he
      go_wp2_with fail
      go_ret
      exact ⟨rfl, rfl⟩
  · have e2 : fitP k n = false := by unfold fitP; simp; omega
    rw [e2]
    obtain ⟨m, hm⟩ : ∃ m, m = n % fullN k := ⟨_, rfl⟩
    rw [← hm] at hb1 hb2
    have hne : (m == n) = false := by simp; omega
    have HM := Lib.hid hm
    clear e2 hm hlt hb2 hp
    go_enter Tryd.func51, Tryd.ntmps51
    go_wp2_with fail
    refine (keptU_any n k h1 h4 h0 hn _).mono ?_
    rintro e w' ⟨he, rfl⟩
    rw [← HM.out] at he
    subst he
    go_wp2_with fail
    go_ret
    exact ⟨rfl, rfl⟩

theorem bits_lowP (x : Int) : bits .and .i64 x 65535 = x % 65536 := by
  show IntKind.i64.wrap ((BitVec.ofInt 64 x &&& BitVec.ofInt 64 65535).toNat : Int) = _
  have e1 : (BitVec.ofInt 64 65535).toNat = 2 ^ 16 - 1 := by decide
  have e2 : (BitVec.ofInt 64 x).toNat = (x % 18446744073709551616).toNat := by rw [BitVec.toNat_ofInt]; rfl
  rw [BitVec.toNat_and, e1, Nat.and_two_pow_sub_one_eq_mod, e2, IntKind.wrap_i64]
  omega

/-- Behind lay's first rounds. -/
def layL (xs : List Int) (o i k : Nat) (n : Int) : List Int := xs.take (o + i) ++ (wd k n).drop i ++ xs.drop (o + k)
theorem wd_drop (k i : Nat) (n : Int) (h : i < k) : (wd k n).drop i = (n / fullN (k - 1 - i) % 65536) :: (wd k n).drop (i + 1) := by
  induction k generalizing i with
  | zero => omega
  | succ k ih =>
    rw [wd_cons]
    rcases i with _ | i
    · rfl
    · rw [List.drop_succ_cons, List.drop_succ_cons, ih i (by omega), show k + 1 - 1 - (i + 1) = k - 1 - i by omega]
theorem layL_step (xs : List Int) (o i k : Nat) (n : Int) (h : i < k) (hl : o + k ≤ xs.length) : (layL xs o (i + 1) k n).set (o + i) (n / fullN (k - 1 - i) % 65536) = layL xs o i k n := by
  unfold layL
  have e : xs.take (o + (i + 1)) = xs.take (o + i) ++ [xs.getD (o + i) 0] := by
    rw [show o + (i + 1) = (o + i) + 1 by omega, List.take_succ_eq_append_getElem (by omega)]
    simp [List.getD, show o + i < xs.length by omega]
  rw [e, wd_drop k i n h]
  have hl2 : (xs.take (o + i)).length = o + i := by simp; omega
  simp only [List.append_assoc]
  rw [List.set_append_right _ _ (by omega), hl2, Nat.sub_self]
  rfl
theorem layL_len (xs : List Int) (o i k : Nat) (n : Int) (hi : i ≤ k) (hl : o + k ≤ xs.length) : (layL xs o i k n).length = xs.length := by
  unfold layL
  simp [wd_len]
  omega
set_option maxHeartbeats 1000000 in
theorem lay_any (n : Int) (g o k c cc : Nat) (xs : List Int) (w : World) (hn : I64 n) (hA : Arr w g cc xs) (hk1 : 1 ≤ k) (hk : k ≤ 4) (hl : o + k ≤ xs.length) (hc : k ≤ c) (hcm : c ≤ 1000000) :
    Calls Tryd.prog 50 #[.int .i64 n, .slice (some ⟨g, o, none⟩) k c] w fun e w' => e = .returned (.tuple #[]) ∧ Arr w' g cc (xs.take o ++ wd k n ++ xs.drop (o + k)) ∧ Keeps [g] w w' := by
  have HA := Lib.hid hA
  have hlt := hA.lt
  unfold I64 at hn
  clear hA
  go_enter Tryd.func50, Tryd.ntmps50
  go_wp2
  go_loopw [0, 4] (fun vn vi wr => ∃ i : Nat, i ≤ k ∧ vi = .int .i64 ((i : Int) - 1) ∧ vn = .int .i64 (n / fullN (k - i)) ∧ Arr wr g cc (layL xs o i k n) ∧ Keeps [g] w wr) (fun _ vi _ => (intOf vi + 1).toNat)
  case atStart =>
    refine ⟨k, Nat.le_refl _, rfl, ?_, ?_, Keeps.refl _ _⟩
    · rw [Nat.sub_self]; simp [fullN]
    · have e : layL xs o k k n = xs := by
        unfold layL
        rw [List.drop_eq_nil_of_le (by rw [wd_len]; exact Nat.le_refl _), List.append_nil, List.take_append_drop]
      rw [e]; exact HA.out
  case round =>
    obtain ⟨i, hi, rfl, rfl, hA1, hk1'⟩ := hrel
    have HA1 := Lib.hid hA1
    clear hA1
    rcases i with _ | i
    · go_wp2
      go_end0
      refine ⟨rfl, ?_, hk1'⟩
      have := HA1.out
      unfold layL at this
      rwa [Nat.add_zero, List.drop_zero] at this
    · obtain ⟨m, hm⟩ : ∃ m : Int, m = n / fullN (k - (i + 1)) := ⟨_, rfl⟩
      rw [← hm]
      have HM := Lib.hid hm
      have hfz := HA1.out.frozen (o + i)
      have hcl := HA1.out.cell (i := o + i) (by rw [layL_len _ _ _ _ _ hi hl]; omega)
      obtain ⟨y, hy⟩ : ∃ y, y = (layL xs o (i + 1) k n).getD (o + i) 0 := ⟨_, rfl⟩
      rw [← hy] at hcl
      clear hy hm
      have hbl := bits_lowP m
      obtain ⟨d, hd⟩ : ∃ d, d = m % 65536 := ⟨_, rfl⟩
      rw [← hd] at hbl
      have HD := Lib.hid hd
      clear hd
      go_wp2
      go_roundw
      case measure => simp [intOf]
      refine ⟨i, by omega, rfl, ?_, ?_, hk1'.setCell (by simp) _⟩
      · rw [HM.out, show k - i = (k - (i + 1)) + 1 by omega]
        simp only [fullN]
        rw [Int.ediv_ediv_of_nonneg (by have := full_pos (k - (i + 1)); omega), Int.mul_comm]
      · have h1 := HA1.out.set (i := o + i) (by rw [layL_len _ _ _ _ _ hi hl]; omega) d
        have h2 := layL_step xs o i k n hi hl
        rw [show k - 1 - i = k - (i + 1) by omega, ← HM.out, ← HD.out] at h2
        rwa [h2] at h1
/-- The first so many words, and whether they may be. -/
def firstC (k : Nat) (xs : List Int) : Int := if ¬ ∀ x ∈ xs.take k, 0 ≤ x ∧ x ≤ 65535 then 2 else if xs.length < k then 7 else 0
def firstV (a : Option Addr) (k : Nat) (c : Int) : Value := if c = 0 then .slice a k k else .slice none 0 0
set_option maxHeartbeats 1000000 in
theorem first_any (k : Nat) (a : Option Addr) (n c : Nat) (xs : List Int) (w : World) (hi : IntsAt w a n xs) (hn : n ≤ c) (hc : c ≤ maxLen) (hk : k ≤ 1000000) :
    Calls Tryd.prog 54 #[.int .i64 k, .slice a n c] w fun e w' => (e = .returned (.tuple #[firstV a k (firstC k xs), .int .i64 (firstC k xs)])) ∧ w = w' := by
  unfold maxLen at hc
  have HI := Lib.hid hi
  have HLEN := Lib.hid (show n = xs.length from hi.1)
  have h2 := (hi.take (k := min n k) (by omega))
  clear hi
  obtain ⟨t, ht⟩ : ∃ t, t = min n k := ⟨_, rfl⟩
  have htk : xs.take (min n k) = xs.take k := by
    by_cases h : n ≤ k
    · rw [List.take_of_length_le (by have := HLEN.out; omega), List.take_of_length_le (by have := HLEN.out; omega)]
    · rw [show min n k = k by omega]
  rw [htk, ← ht] at h2
  obtain ⟨ys, hys⟩ : ∃ ys, ys = xs.take k := ⟨_, rfl⟩
  rw [← hys] at h2
  have hkn : xs.length < k ↔ n < k := by rw [HLEN.out]
  have HKN := Lib.hid hkn
  have HYS := Lib.hid hys
  have HYL := Lib.hid (show t = ys.length from h2.1)
  have HY := Lib.hid h2
  have htc : t ≤ c := by omega
  clear htk h2 hys hkn
  have hloop : ∀ x, x ∈ ys ↔ x ∈ xs.take k := by intro x; rw [HYS.out]
  have HL := Lib.hid hloop
  clear hloop
  clear HI HLEN
  rcases Nat.lt_trichotomy n k with h | h | h
  · obtain rfl : t = n := by omega
    clear ht
    go_enter Tryd.func54, Tryd.ntmps54
    go_wp2_with fail
    go_loop [20] (fun vi => ∃ i : Nat, i ≤ t ∧ vi = .int .i64 i ∧ ∀ x ∈ ys.take i, 0 ≤ x ∧ x ≤ 65535) (fun vi => t - (intOf vi).toNat)
    case atStart => exact ⟨0, Nat.zero_le _, rfl, by simp⟩
    case round =>
      obtain ⟨i, hi, rfl, hall⟩ := hrel
      have HALL := Lib.hid hall
      clear hall
      by_cases hlt : i < t
      · have hix : i < ys.length := by rw [← HYL.out]; exact hlt
        rcases a with _ | ⟨lb, lo', ls⟩
        · have := HY.out.2.1 rfl; rw [this] at hix; simp at hix
        obtain ⟨rfl, hlc⟩ := HY.out.2.2 lb lo' ls rfl (List.ne_nil_of_length_pos (by omega))
        have hx := hlc i hix
        obtain ⟨x, ex⟩ : ∃ x, x = ys.getD i 0 := ⟨_, rfl⟩
        rw [← ex] at hx
        have EX := Lib.hid ex
        have HIX := Lib.hid hix
        clear hlc ex hix
        obtain ⟨b, hb⟩ : ∃ b, b = decide (0 ≤ x ∧ x ≤ 65535) := ⟨_, rfl⟩
        have HB := Lib.hid hb
        clear hb
        go_wp2_with fail
        refine (within_any _ _ _ _).mono ?_
        rintro e w' ⟨he, rfl⟩
        rw [← HB.out] at he
        subst he
        cases b
        · have hbad : firstC k xs = 2 := by
            unfold firstC
            rw [if_pos]
            intro hh
            have := HB.out
            rw [eq_comm, decide_eq_false_iff_not] at this
            exact this (hh x ((HL.out _).1 (by rw [EX.out]; simp [List.getD, HIX.out])))
          have HBAD := Lib.hid hbad
          clear hbad
          go_wp2_with fail
          go_ret2
          exact ⟨by rw [HBAD.out]; rfl, rfl⟩
        · go_wp2_with fail
          go_round
          case rel =>
            refine ⟨i + 1, by omega, by go_num, ?_⟩
            intro y hy
            rw [List.take_succ_eq_append_getElem HIX.out, List.mem_append, List.mem_singleton] at hy
            rcases hy with hy | hy
            · exact HALL.out y hy
            · have := HB.out
              rw [eq_comm, decide_eq_true_iff] at this
              have e : ys[i]'HIX.out = x := by rw [EX.out]; simp [List.getD, HIX.out]
              rw [hy, e]; exact this
          case measure => simp [intOf]; omega
      · have hfin : firstC k xs = 7 := by
          unfold firstC
          have h1 := HALL.out
          rw [List.take_of_length_le (by have := HYL.out; omega)] at h1
          rw [if_neg (by intro hn; exact hn (fun x hx => h1 x ((HL.out _).2 hx)))]
          rw [if_pos (HKN.out.2 h)]
        have HF := Lib.hid hfin
        clear hfin
        go_wp2_with fail
        go_ret2
        exact ⟨by rw [HF.out]; rfl, rfl⟩
  · subst h
    obtain rfl : t = n := by omega
    clear ht
    go_enter Tryd.func54, Tryd.ntmps54
    go_wp2_with fail
    go_loop [20] (fun vi => ∃ i : Nat, i ≤ t ∧ vi = .int .i64 i ∧ ∀ x ∈ ys.take i, 0 ≤ x ∧ x ≤ 65535) (fun vi => t - (intOf vi).toNat)
    case atStart => exact ⟨0, Nat.zero_le _, rfl, by simp⟩
    case round =>
      obtain ⟨i, hi, rfl, hall⟩ := hrel
      have HALL := Lib.hid hall
      clear hall
      by_cases hlt : i < t
      · have hix : i < ys.length := by rw [← HYL.out]; exact hlt
        rcases a with _ | ⟨lb, lo', ls⟩
        · have := HY.out.2.1 rfl; rw [this] at hix; simp at hix
        obtain ⟨rfl, hlc⟩ := HY.out.2.2 lb lo' ls rfl (List.ne_nil_of_length_pos (by omega))
        have hx := hlc i hix
        obtain ⟨x, ex⟩ : ∃ x, x = ys.getD i 0 := ⟨_, rfl⟩
        rw [← ex] at hx
        have EX := Lib.hid ex
        have HIX := Lib.hid hix
        clear hlc ex hix
        obtain ⟨b, hb⟩ : ∃ b, b = decide (0 ≤ x ∧ x ≤ 65535) := ⟨_, rfl⟩
        have HB := Lib.hid hb
        clear hb
        go_wp2_with fail
        refine (within_any _ _ _ _).mono ?_
        rintro e w' ⟨he, rfl⟩
        rw [← HB.out] at he
        subst he
        cases b
        · have hbad : firstC t xs = 2 := by
            unfold firstC
            rw [if_pos]
            intro hh
            have := HB.out
            rw [eq_comm, decide_eq_false_iff_not] at this
            exact this (hh x ((HL.out _).1 (by rw [EX.out]; simp [List.getD, HIX.out])))
          have HBAD := Lib.hid hbad
          clear hbad
          go_wp2_with fail
          go_ret2
          exact ⟨by rw [HBAD.out]; rfl, rfl⟩
        · go_wp2_with fail
          go_round
          case rel =>
            refine ⟨i + 1, by omega, by go_num, ?_⟩
            intro y hy
            rw [List.take_succ_eq_append_getElem HIX.out, List.mem_append, List.mem_singleton] at hy
            rcases hy with hy | hy
            · exact HALL.out y hy
            · have := HB.out
              rw [eq_comm, decide_eq_true_iff] at this
              have e : ys[i]'HIX.out = x := by rw [EX.out]; simp [List.getD, HIX.out]
              rw [hy, e]; exact this
          case measure => simp [intOf]; omega
      · have hfin : firstC t xs = 0 := by
          unfold firstC
          have h1 := HALL.out
          rw [List.take_of_length_le (by have := HYL.out; omega)] at h1
          rw [if_neg (by intro hn; exact hn (fun x hx => h1 x ((HL.out _).2 hx)))]
          rw [if_neg (fun hh => absurd (HKN.out.1 hh) (by omega))]
        have HF := Lib.hid hfin
        clear hfin
        go_wp2_with fail
        go_ret2
        exact ⟨by rw [HF.out]; rfl, rfl⟩
  · obtain rfl : t = k := by omega
    clear ht
    go_enter Tryd.func54, Tryd.ntmps54
    go_wp2_with fail
    go_loop [20] (fun vi => ∃ i : Nat, i ≤ t ∧ vi = .int .i64 i ∧ ∀ x ∈ ys.take i, 0 ≤ x ∧ x ≤ 65535) (fun vi => t - (intOf vi).toNat)
    case atStart => exact ⟨0, Nat.zero_le _, rfl, by simp⟩
    case round =>
      obtain ⟨i, hi, rfl, hall⟩ := hrel
      have HALL := Lib.hid hall
      clear hall
      by_cases hlt : i < t
      · have hix : i < ys.length := by rw [← HYL.out]; exact hlt
        rcases a with _ | ⟨lb, lo', ls⟩
        · have := HY.out.2.1 rfl; rw [this] at hix; simp at hix
        obtain ⟨rfl, hlc⟩ := HY.out.2.2 lb lo' ls rfl (List.ne_nil_of_length_pos (by omega))
        have hx := hlc i hix
        obtain ⟨x, ex⟩ : ∃ x, x = ys.getD i 0 := ⟨_, rfl⟩
        rw [← ex] at hx
        have EX := Lib.hid ex
        have HIX := Lib.hid hix
        clear hlc ex hix
        obtain ⟨b, hb⟩ : ∃ b, b = decide (0 ≤ x ∧ x ≤ 65535) := ⟨_, rfl⟩
        have HB := Lib.hid hb
        clear hb
        go_wp2_with fail
        refine (within_any _ _ _ _).mono ?_
        rintro e w' ⟨he, rfl⟩
        rw [← HB.out] at he
        subst he
        cases b
        · have hbad : firstC t xs = 2 := by
            unfold firstC
            rw [if_pos]
            intro hh
            have := HB.out
            rw [eq_comm, decide_eq_false_iff_not] at this
            exact this (hh x ((HL.out _).1 (by rw [EX.out]; simp [List.getD, HIX.out])))
          have HBAD := Lib.hid hbad
          clear hbad
          go_wp2_with fail
          go_ret2
          exact ⟨by rw [HBAD.out]; rfl, rfl⟩
        · go_wp2_with fail
          go_round
          case rel =>
            refine ⟨i + 1, by omega, by go_num, ?_⟩
            intro y hy
            rw [List.take_succ_eq_append_getElem HIX.out, List.mem_append, List.mem_singleton] at hy
            rcases hy with hy | hy
            · exact HALL.out y hy
            · have := HB.out
              rw [eq_comm, decide_eq_true_iff] at this
              have e : ys[i]'HIX.out = x := by rw [EX.out]; simp [List.getD, HIX.out]
              rw [hy, e]; exact this
          case measure => simp [intOf]; omega
      · have hfin : firstC t xs = 0 := by
          unfold firstC
          have h1 := HALL.out
          rw [List.take_of_length_le (by have := HYL.out; omega)] at h1
          rw [if_neg (by intro hn; exact hn (fun x hx => h1 x ((HL.out _).2 hx)))]
          rw [if_neg (fun hh => absurd (HKN.out.1 hh) (by omega))]
        have HF := Lib.hid hfin
        clear hfin
        go_wp2_with fail
        go_ret2
        exact ⟨by rw [HF.out]; rfl, rfl⟩
end Go.Proofs.YtihpmnnbiabggaaDoor
