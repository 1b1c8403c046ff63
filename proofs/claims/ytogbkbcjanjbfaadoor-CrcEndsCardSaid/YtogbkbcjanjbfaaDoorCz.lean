/- CrcTurns walked. -/
import Derived.Test.YtogbkbcjanjbfaaDoorCy
namespace Go.Proofs.YtogbkbcjanjbfaaDoor
open Go.RowKit
set_option linter.unusedVariables false
variable {w w' : World} {F : List Nat}

def tnV (sum size at_ bit : Int) : Int := if okT size at_ bit = true then turnedV sum size at_ bit else 0
def tnE (size at_ bit : Int) : Int := if okT size at_ bit = true then 0 else 2
theorem turned_any (sum size at_ bit : Int) (w : World) (ht : Turns w) :
    Calls Tryd.prog 17 #[.int .i64 sum, .int .i64 size, .int .i64 at_, .int .i64 bit] w fun e w' => e = .returned (.tuple #[.int .i64 (tnV sum size at_ bit), .int .i64 (tnE size at_ bit)]) ∧ Keeps [] w w' := by
  unfold tnV tnE
  by_cases h : okT size at_ bit = true
  · rw [if_pos h, if_pos h]; exact turned_ok sum size at_ bit w ht h
  · rw [if_neg h, if_neg h]
    refine (turned_bad sum size at_ bit w (by simpa using h)).mono ?_
    rintro e w' ⟨he, rfl⟩
    exact ⟨he, Keeps.refl _ _⟩
theorem refTurned_any (sum size at_ bit : Int) (w : World) (h64 : I64 sum) :
    Calls Tryd.prog 18 #[.int .i64 sum, .int .i64 size, .int .i64 at_, .int .i64 bit] w fun e w' => e = .returned (.tuple #[.int .i64 (tnV sum size at_ bit), .int .i64 (tnE size at_ bit)]) ∧ Keeps [] w w' := by
  unfold tnV tnE
  by_cases h : okT size at_ bit = true
  · rw [if_pos h, if_pos h]; exact refTurned_ok sum size at_ bit w h64 h
  · rw [if_neg h, if_neg h]
    refine (refTurned_bad sum size at_ bit w (by simpa using h)).mono ?_
    rintro e w' ⟨he, rfl⟩
    exact ⟨he, Keeps.refl _ _⟩
theorem bit_up {u : Int} {s : Nat} (hu : 0 ≤ u ∧ u < 65536) (hs : s < 16) : bits .xor .i64 u (wrap64 (2 ^ s)) = ((lo u ^^^ 2 ^ s : Nat) : Int) := by
  obtain ⟨U, rfl⟩ := Int.eq_ofNat_of_zero_le hu.1
  have e : ((2 : Int) ^ s) = ((2 ^ s : Nat) : Int) := by rw [Int.natCast_pow]; rfl
  have h1 : 2 ^ s ≤ 2 ^ 15 := Nat.pow_le_pow_right (by omega) (by omega)
  obtain ⟨Z, hZ⟩ : ∃ Z, Z = 2 ^ s := ⟨_, rfl⟩
  rw [e, ← hZ]
  rw [← hZ] at h1
  have e4 : lo (U : Int) = U := lo_nat (by omega)
  rw [IntWalk.wrap64_in _ (by omega), bits_xor16 U _ (by omega) (by omega), e4]

set_option maxRecDepth 100000 in
set_option maxHeartbeats 2000000 in
theorem turns_any (a : Option Addr) (n c : Nat) (xs : List Int) (at_ bit sum size : Int) (w : World) (ht : Turns w) (hi : IntsAt w a n xs) (hn : n ≤ maxLen) (h64 : I64 sum) :
    Calls Tryd.prog 4 #[.slice a n c, .int .i64 at_, .int .i64 bit, .int .i64 sum, .int .i64 size] w fun e w' => e = .returned (.bool true) ∧ Keeps [] w w' := by
  have HI := Lib.hid hi
  have HT := Lib.hid ht
  have H64 := Lib.hid h64
  clear hi ht h64
  obtain ⟨ys, hys⟩ : ∃ ys, ys = wordsL xs := ⟨_, rfl⟩
  have hyin : ∀ y ∈ ys, 0 ≤ y ∧ y < 65536 := by rw [hys]; exact wordsL_in
  have hyl : ys.length ≤ 300 := by rw [hys]; simp [wordsL]; omega
  obtain ⟨n1, hn1⟩ : ∃ n1, n1 = ys.length := ⟨_, rfl⟩
  have hn3 : n1 ≤ 300 := by omega
  have HYS := Lib.hid hys
  have HYI := Lib.hid hyin
  have HN1 := Lib.hid hn1
  clear hys hn1 hyin
  obtain ⟨V, hV⟩ : ∃ V, V = tnV sum size at_ bit := ⟨_, rfl⟩
  obtain ⟨E, hE⟩ : ∃ E, E = tnE size at_ bit := ⟨_, rfl⟩
  have HV := Lib.hid hV
  have HE := Lib.hid hE
  clear hV hE
  go_enter Tryd.func4, Tryd.ntmps4
  go_wp2_with fail
  refine (turned_any _ _ _ _ _ HT.out).mono ?_
  rintro e w1 ⟨he, k1⟩
  rw [← HV.out, ← HE.out] at he
  subst he
  go_wp2_with fail
  refine (refTurned_any _ _ _ _ _ H64.out).mono ?_
  rintro e w2 ⟨he, k2⟩
  rw [← HV.out, ← HE.out] at he
  subst he
  have k02 := k1.trans0 k2
  go_wp2_with fail
  refine (words_any a n c xs _ (HI.out.keep0 k02) hn).mono ?_
  rintro e w3 ⟨v, rfl, g, c1, rfl, hg, hA, k3⟩
  rw [← HYS.out] at hA ⊢
  rw [← HN1.out]
  have k03 := k02.trans0 k3
  have hcl := hA.le
  have hcm := hA.cm
  unfold maxLen at hcm
  have hcm2 : c1 ≤ 9223372036854775807 := hcm

  obtain ⟨n2, hn2⟩ : ∃ n2, n2 = min n1 256 := ⟨_, rfl⟩
  obtain ⟨zs, hzs⟩ : ∃ zs, zs = ys.take n2 := ⟨_, rfl⟩
  have hzl : zs.length = n2 := by have := HN1.out; rw [hzs]; simp; omega
  have hzin : ∀ z ∈ zs, 0 ≤ z ∧ z < 65536 := by rw [hzs]; exact fun z hz => HYI.out z (List.mem_of_mem_take hz)
  have hiz : IntsAt w3 (some ⟨g, 0, none⟩) n2 zs := by rw [hzs]; exact hA.ints.take (by have := HN1.out; omega)
  have hn1c : n1 ≤ c1 := by have := HN1.out; omega
  have HIZ := Lib.hid hiz
  have HZI := Lib.hid hzin
  have HZL := Lib.hid hzl
  have HN2 := Lib.hid hn2
  have hn256 : n2 ≤ 256 := by omega
  clear hA hzs hzl hzin hiz hcl hn2
  by_cases h256 : (n1 : Int) ≤ 256
  · obtain rfl : n2 = n1 := by have := HN2.out; omega
    by_cases h0 : n2 = 0
    · subst h0
      go_wp2_with fail
      refine (works_any _ (HT.out.keep k03)).mono ?_
      rintro e w4 ⟨rfl, k4⟩
      go_wp2_with fail
      go_ret
      exact ⟨rfl, k03.trans0 k4⟩
    · have hb0 : ((n2 : Int) == 0) = false := by simp; omega
      have hpos : 0 < n2 := by omega
      clear h0
      obtain ⟨k, hk, hk2⟩ := among_ex at_ (n2 : Nat) (by omega) (by omega)
      obtain ⟨s, hs, hs2⟩ := among_ex bit 16 (by omega) (by omega)
      obtain ⟨S, hS⟩ : ∃ S : Int, S = crcI 65535 zs := ⟨_, rfl⟩
      obtain ⟨R, hR⟩ : ∃ R : Int, R = crcI 65535 (turn1 zs k (2 ^ s)) := ⟨_, rfl⟩
      have hok : okT ((n2 : Nat) : Int) k s = true := okT_iff.2 (by omega)
      have hkz : k < zs.length := by have := HZL.out; omega
      have hRT : turnedV S ((n2 : Nat) : Int) k s = R := by
        have h1 := turned_math hkz (show (0 : Int) ≤ s by omega) hs2
        rw [Int.toNat_natCast] at h1
        rw [hR, ← h1, hS]
        unfold turnedV
        rw [lo_nat crc_le, HZL.out, show (((n2 : Nat) : Int) - k).toNat = (n2 : Nat) - k by omega]
      have HK := Lib.hid hk
      have HS := Lib.hid hs
      have HSS := Lib.hid hS
      have HRR := Lib.hid hR
      have HRT := Lib.hid hRT
      have HOK := Lib.hid hok
      clear hk hs hS hR hRT hok
      go_wp2_with fail
      refine (among_nat _ _ _ (by omega) (by omega) k HK.out).mono ?_
      rintro e w' ⟨rfl, rfl⟩
      go_wp2_with fail
      refine (among_nat _ _ _ (by omega) (by omega) s HS.out).mono ?_
      rintro e w' ⟨rfl, rfl⟩
      go_wp2_with fail
      refine (of_any _ (n2 : Nat) _ zs _ (HT.out.keep k03) HIZ.out (by unfold maxLen; omega)).mono ?_
      rintro e w' ⟨he, rfl⟩
      rw [← HSS.out] at he
      subst he
      go_wp2_with fail
      refine (turned_ok S ((n2 : Nat) : Int) k s _ (HT.out.keep k03) HOK.out).mono ?_
      rintro e w4 ⟨he, k4⟩
      rw [HRT.out] at he
      subst he
      have k04 := k03.trans0 k4
      go_wp2_with fail
      refine (ints_any _ (n2 : Nat) _ zs _ (HIZ.out.keep0 k4) (by omega)).mono ?_
      rintro e w5 ⟨v, rfl, g5, c5, rfl, hg5, hA5, k5⟩
      rw [HZL.out]
      have q1 := hA5.cell hkz
      have q2 := hA5.frozen k
      obtain ⟨u, hu⟩ : ∃ u, u = zs.getD k 0 := ⟨_, rfl⟩
      rw [← hu] at q1
      have hu2 : 0 ≤ u ∧ u < 65536 := HZI.out u (by rw [hu]; simp [List.getD, hkz])
      obtain ⟨A1, hA1⟩ : ∃ A1, bits .xor .i64 u (wrap64 (2 ^ s)) = A1 := ⟨_, rfl⟩
      have hz2 : zs.set k A1 = turn1 zs k (2 ^ s) := by rw [← hA1, bit_up hu2 (by omega), hu]; rfl
      have hA6 := hA5.set hkz A1
      rw [hz2] at hA6
      have hs4 := k04.size
      have k6 : Keeps [] w (w5.setCell ⟨g5, k, none⟩ (.int .i64 A1)) := (k04.trans0 k5).setCell (.inr (by simp only; omega)) _
      have hl6 : (turn1 zs k (2 ^ s)).length = (n2 : Nat) := by rw [← hz2, List.length_set, HZL.out]
      have HA6 := Lib.hid hA6
      have HL6 := Lib.hid hl6
      have K6 := Lib.hid k6
      clear hu hA5 hz2 hA6 k6 hu2 hl6 hkz k5
      go_wp2_with fail
      refine (of_any _ (n2 : Nat) _ (turn1 zs k (2 ^ s)) _ (HT.out.keep K6.out) (by have := HA6.out.ints; rw [HL6.out] at this; exact this) (by unfold maxLen; omega)).mono ?_
      rintro e w' ⟨he, rfl⟩
      rw [← HRR.out] at he
      subst he
      go_wp2_with fail
      refine (works_any _ (HT.out.keep K6.out)).mono ?_
      rintro e w7 ⟨rfl, k7⟩
      go_wp2_with fail
      go_ret
      exact ⟨rfl, K6.out.trans0 k7⟩
  · have h256' : (256 : Int) < n1 := by omega
    obtain rfl : n2 = 256 := by have := HN2.out; omega
    have hpos : 0 < 256 := by omega
    obtain ⟨k, hk, hk2⟩ := among_ex at_ (256 : Nat) (by omega) (by omega)
    obtain ⟨s, hs, hs2⟩ := among_ex bit 16 (by omega) (by omega)
    obtain ⟨S, hS⟩ : ∃ S : Int, S = crcI 65535 zs := ⟨_, rfl⟩
    obtain ⟨R, hR⟩ : ∃ R : Int, R = crcI 65535 (turn1 zs k (2 ^ s)) := ⟨_, rfl⟩
    have hok : okT ((256 : Nat) : Int) k s = true := okT_iff.2 (by omega)
    have hkz : k < zs.length := by have := HZL.out; omega
    have hRT : turnedV S ((256 : Nat) : Int) k s = R := by
      have h1 := turned_math hkz (show (0 : Int) ≤ s by omega) hs2
      rw [Int.toNat_natCast] at h1
      rw [hR, ← h1, hS]
      unfold turnedV
      rw [lo_nat crc_le, HZL.out, show (((256 : Nat) : Int) - k).toNat = (256 : Nat) - k by omega]
    have HK := Lib.hid hk
    have HS := Lib.hid hs
    have HSS := Lib.hid hS
    have HRR := Lib.hid hR
    have HRT := Lib.hid hRT
    have HOK := Lib.hid hok
    clear hk hs hS hR hRT hok
    go_wp2_with fail
    refine (among_nat _ _ _ (by omega) (by omega) k HK.out).mono ?_
    rintro e w' ⟨rfl, rfl⟩
    go_wp2_with fail
    refine (among_nat _ _ _ (by omega) (by omega) s HS.out).mono ?_
    rintro e w' ⟨rfl, rfl⟩
    go_wp2_with fail
    refine (of_any _ (256 : Nat) _ zs _ (HT.out.keep k03) HIZ.out (by unfold maxLen; omega)).mono ?_
    rintro e w' ⟨he, rfl⟩
    rw [← HSS.out] at he
    subst he
    go_wp2_with fail
    refine (turned_ok S ((256 : Nat) : Int) k s _ (HT.out.keep k03) HOK.out).mono ?_
    rintro e w4 ⟨he, k4⟩
    rw [HRT.out] at he
    subst he
    have k04 := k03.trans0 k4
    go_wp2_with fail
    refine (ints_any _ (256 : Nat) _ zs _ (HIZ.out.keep0 k4) (by omega)).mono ?_
    rintro e w5 ⟨v, rfl, g5, c5, rfl, hg5, hA5, k5⟩
    rw [HZL.out]
    have q1 := hA5.cell hkz
    have q2 := hA5.frozen k
    obtain ⟨u, hu⟩ : ∃ u, u = zs.getD k 0 := ⟨_, rfl⟩
    rw [← hu] at q1
    have hu2 : 0 ≤ u ∧ u < 65536 := HZI.out u (by rw [hu]; simp [List.getD, hkz])
    obtain ⟨A1, hA1⟩ : ∃ A1, bits .xor .i64 u (wrap64 (2 ^ s)) = A1 := ⟨_, rfl⟩
    have hz2 : zs.set k A1 = turn1 zs k (2 ^ s) := by rw [← hA1, bit_up hu2 (by omega), hu]; rfl
    have hA6 := hA5.set hkz A1
    rw [hz2] at hA6
    have hs4 := k04.size
    have k6 : Keeps [] w (w5.setCell ⟨g5, k, none⟩ (.int .i64 A1)) := (k04.trans0 k5).setCell (.inr (by simp only; omega)) _
    have hl6 : (turn1 zs k (2 ^ s)).length = (256 : Nat) := by rw [← hz2, List.length_set, HZL.out]
    have HA6 := Lib.hid hA6
    have HL6 := Lib.hid hl6
    have K6 := Lib.hid k6
    clear hu hA5 hz2 hA6 k6 hu2 hl6 hkz k5
    go_wp2_with fail
    refine (of_any _ (256 : Nat) _ (turn1 zs k (2 ^ s)) _ (HT.out.keep K6.out) (by have := HA6.out.ints; rw [HL6.out] at this; exact this) (by unfold maxLen; omega)).mono ?_
    rintro e w' ⟨he, rfl⟩
    rw [← HRR.out] at he
    subst he
    go_wp2_with fail
    refine (works_any _ (HT.out.keep K6.out)).mono ?_
    rintro e w7 ⟨rfl, k7⟩
    go_wp2_with fail
    go_ret
    exact ⟨rfl, K6.out.trans0 k7⟩
end Go.Proofs.YtogbkbcjanjbfaaDoor
