/- CrcFinds walked. -/
import Derived.Test.YtogbkbcjanjbfaaDoorCx
namespace Go.Proofs.YtogbkbcjanjbfaaDoor
open Go.RowKit
set_option linter.unusedVariables false
variable {w w' : World} {F : List Nat}

theorem shift_down {u X : Int} {s : Nat} (hu : 0 ≤ u ∧ u < 65536) (hX : 0 ≤ X ∧ X < 65536) : bits .xor .i64 u (X / 2 ^ s) = ((lo u ^^^ X.toNat / 2 ^ s : Nat) : Int) := by
  obtain ⟨U, rfl⟩ := Int.eq_ofNat_of_zero_le hu.1
  obtain ⟨Y, rfl⟩ := Int.eq_ofNat_of_zero_le hX.1
  have e : ((Y : Int) / 2 ^ s) = ((Y / 2 ^ s : Nat) : Int) := by rw [Int.natCast_ediv, Int.natCast_pow]; rfl
  have hY : Y / 2 ^ s < 65536 := Nat.lt_of_le_of_lt (Nat.div_le_self _ _) (by omega)
  rw [e, bits_xor16 U _ (by omega) hY, lo_nat (by omega), Int.toNat_natCast]
theorem shift_up {v X : Int} {s : Nat} (hv : 0 ≤ v ∧ v < 65536) (hX : 0 ≤ X ∧ X < 65536) (hs : s ≤ 16) :
    bits .xor .i64 v (bits .and .i64 (wrap64 (X * 2 ^ (16 - s))) 65535) = ((lo v ^^^ (X.toNat * 2 ^ (16 - s) % 65536) : Nat) : Int) := by
  obtain ⟨V, rfl⟩ := Int.eq_ofNat_of_zero_le hv.1
  obtain ⟨Y, rfl⟩ := Int.eq_ofNat_of_zero_le hX.1
  have e : ((Y : Int) * 2 ^ (16 - s)) = ((Y * 2 ^ (16 - s) : Nat) : Int) := by rw [Int.natCast_mul, Int.natCast_pow]; rfl
  have h1 : 2 ^ (16 - s) ≤ 2 ^ 16 := Nat.pow_le_pow_right (by omega) (by omega)
  have h2 : Y * 2 ^ (16 - s) ≤ 65535 * 65536 := Nat.mul_le_mul (by omega) h1
  obtain ⟨Z, hZ⟩ : ∃ Z, Z = Y * 2 ^ (16 - s) := ⟨_, rfl⟩
  rw [e, ← hZ]
  rw [← hZ] at h2
  have e3 : lo (Z : Int) = Z % 65536 := by unfold lo; omega
  have e4 : lo (V : Int) = V := lo_nat (by omega)
  rw [IntWalk.wrap64_in _ (by omega), bits_low, bits_xor16 V _ (by omega) (lo_lt _), e3, e4, Int.toNat_natCast, ← hZ]

theorem among_nat (x n : Int) (w : World) (h1 : 1 ≤ n) (h2 : n ≤ 1000000000) (q : Nat) (hq : (q : Int) = amongI x n) : Calls Tryd.prog 20 #[.int .i64 x, .int .i64 n] w fun e w' => e = .returned (.int .i64 q) ∧ w = w' := by
  rw [hq]; exact among_any x n w h1 h2
theorem among_ex (x n : Int) (h1 : 1 ≤ n) (h2 : n ≤ 1000000000) : ∃ q : Nat, (q : Int) = amongI x n ∧ (q : Int) < n := by
  have h := amongI_lt x n h1 h2
  exact ⟨(amongI x n).toNat, by omega, by omega⟩

set_option maxRecDepth 100000 in
set_option maxHeartbeats 2000000 in
theorem finds_any (a : Option Addr) (n c : Nat) (xs : List Int) (at_ shift x : Int) (w : World) (ht : Turns w) (hi : IntsAt w a n xs) (hn : n ≤ maxLen) :
    Calls Tryd.prog 7 #[.slice a n c, .int .i64 at_, .int .i64 shift, .int .i64 x] w fun e w' => e = .returned (.bool true) ∧ Keeps [] w w' := by
  have HI := Lib.hid hi
  have HT := Lib.hid ht
  clear hi ht
  obtain ⟨ys, hys⟩ : ∃ ys, ys = wordsL xs := ⟨_, rfl⟩
  have hyin : ∀ y ∈ ys, 0 ≤ y ∧ y < 65536 := by rw [hys]; exact wordsL_in
  have hyl : ys.length ≤ 300 := by rw [hys]; simp [wordsL]; omega
  obtain ⟨n1, hn1⟩ : ∃ n1, n1 = ys.length := ⟨_, rfl⟩
  have hn3 : n1 ≤ 300 := by omega
  have HYS := Lib.hid hys
  have HYI := Lib.hid hyin
  have HN1 := Lib.hid hn1
  clear hys hn1 hyin
  go_enter Tryd.func7, Tryd.ntmps7
  go_wp2_with fail
  refine (works_any _ HT.out).mono ?_
  rintro e w0 ⟨rfl, k0⟩
  go_wp2_with fail
  refine (words_any a n c xs _ (HI.out.keep0 k0) hn).mono ?_
  rintro e w1 ⟨v, rfl, g, c1, rfl, hg, hA, k1⟩
  rw [← HYS.out] at hA ⊢
  rw [← HN1.out]
  have k01 := k0.trans0 k1
  have HA := Lib.hid hA
  clear hA
  by_cases h2 : n1 < 2
  · go_wp2_with fail
    go_ret
    exact ⟨rfl, k01⟩
  · obtain ⟨k, hk, hk2⟩ := among_ex at_ ((n1 : Int) - 1) (by omega) (by omega)
    obtain ⟨s, hs, hs2⟩ := among_ex shift 16 (by omega) (by omega)
    obtain ⟨X, hX⟩ : ∃ X : Int, X = amongI x 65536 := ⟨_, rfl⟩
    have hX2 := amongI_lt x 65536 (by omega) (by omega)
    rw [← hX] at hX2
    have HK := Lib.hid hk
    have HS := Lib.hid hs
    have HX := Lib.hid hX
    clear hk hs hX
    go_wp2_with fail
    refine (among_nat _ _ _ (by omega) (by omega) k HK.out).mono ?_
    rintro e w' ⟨rfl, rfl⟩
    go_wp2_with fail
    refine (among_nat _ _ _ (by omega) (by omega) s HS.out).mono ?_
    rintro e w' ⟨rfl, rfl⟩
    go_wp2_with fail
    refine (among_any _ _ _ (by omega) (by omega)).mono ?_
    rintro e w' ⟨he, rfl⟩
    rw [← HX.out] at he
    subst he
    go_wp2_with fail
    refine (ints_any _ n1 _ ys _ (by rw [HN1.out]; exact HA.out.ints) (by omega)).mono ?_
    rintro e w2 ⟨v, rfl, g2, c2, rfl, hg2, hA2, k2⟩
    rw [← HN1.out]
    have hkl : k < ys.length := by have := HN1.out; omega
    have hkl2 : k + 1 < ys.length := by have := HN1.out; omega
    have q1 := hA2.cell hkl
    have q2 := hA2.frozen k
    obtain ⟨u, hu⟩ : ∃ u, u = ys.getD k 0 := ⟨_, rfl⟩
    rw [← hu] at q1
    have q3 := hA2.cell hkl2
    have q4 := hA2.frozen (k + 1)
    obtain ⟨v, hv⟩ : ∃ v, v = ys.getD (k + 1) 0 := ⟨_, rfl⟩
    rw [← hv] at q3
    have hu2 : 0 ≤ u ∧ u < 65536 := HYI.out u (by rw [hu]; simp [List.getD, hkl])
    have hv2 : 0 ≤ v ∧ v < 65536 := HYI.out v (by rw [hv]; simp [List.getD, hkl2])
    obtain ⟨A1, hA1⟩ : ∃ A1, bits .xor .i64 u (X / 2 ^ s) = A1 := ⟨_, rfl⟩
    obtain ⟨B1, hB1⟩ : ∃ B1, bits .xor .i64 v (bits .and .i64 (wrap64 (X * 2 ^ (16 - s))) 65535) = B1 := ⟨_, rfl⟩
    obtain ⟨B, hB⟩ : ∃ B, B = bits .and .i64 (wrap64 (X * 2 ^ (16 - s))) 65535 := ⟨_, rfl⟩
    have hB' := hB.symm
    rw [hB'] at hB1
    have eA : A1 = ((lo u ^^^ X.toNat / 2 ^ s : Nat) : Int) := by rw [← hA1]; exact shift_down hu2 hX2
    have eB : B1 = ((lo v ^^^ (X.toNat * 2 ^ (16 - s) % 65536) : Nat) : Int) := by rw [← hB1, ← hB']; exact shift_up hv2 hX2 (by omega)
    obtain ⟨zs, hzs⟩ : ∃ zs, zs = turn2 ys k X.toNat s := ⟨_, rfl⟩
    have hz2 : (ys.set k A1).set (k + 1) B1 = zs := by rw [hzs, eA, eB, hu, hv]; rfl
    have hfm := finds_math HYI.out hkl2 (show X.toNat < 65536 by omega) (show s ≤ 16 by omega)
    rw [← hzs] at hfm
    have hzl : zs.length = n1 := by rw [← hz2, HN1.out]; simp
    have hA3 := (hA2.set hkl A1).set (i := k + 1) (by simpa using hkl2) B1
    rw [hz2] at hA3
    have k3 : Keeps [] w1 ((w2.setCell ⟨g2, k, none⟩ (.int .i64 A1)).setCell ⟨g2, k + 1, none⟩ (.int .i64 B1)) := (k2.setCell (.inr hg2) _).setCell (.inr hg2) _
    have HA3 := Lib.hid hA3
    have K3 := Lib.hid k3
    have HFM := Lib.hid hfm
    have HZL := Lib.hid hzl
    clear hu hA2 hv hB eA eB hzs hz2 hfm hA3 k3 hu2 hv2 hzl k2
    go_wp2_with fail
    refine (sameInts_any _ _ n1 n1 _ _ ys zs _ (by rw [HN1.out]; exact (HA.out.keep K3.out (by simp)).ints) (by rw [← HZL.out]; exact HA3.out.ints) (by unfold maxLen; omega) (by unfold maxLen; omega)).mono ?_
    rintro e w4 ⟨rfl, m, rfl⟩
    have k4 := K3.out.drewN m
    have k04 := k01.trans0 k4
    rw [HFM.out]
    go_wp2_with fail
    refine (of_any _ n1 _ ys _ (HT.out.keep k04) (by rw [HN1.out]; exact (HA.out.keep k4 (by simp)).ints) (by unfold maxLen; omega)).mono ?_
    rintro e w' ⟨rfl, rfl⟩
    go_wp2_with fail
    refine (of_any _ n1 _ zs _ (HT.out.keep k04) (by rw [← HZL.out]; exact (HA3.out.keep ((Keeps.refl [] _).drewN m) (by simp)).ints) (by unfold maxLen; omega)).mono ?_
    rintro e w' ⟨rfl, rfl⟩
    go_wp2_with fail
    go_ret
    exact ⟨rfl, k04⟩
end Go.Proofs.YtogbkbcjanjbfaaDoor
