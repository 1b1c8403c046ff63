/- PackPuts, PackGets walked. -/
import Derived.Test.YtfmegladcjcjgaaPn
namespace Go.Proofs.Ytfmegladcjcjgaa
open Go.RowKit
set_option linter.unusedVariables false

set_option maxRecDepth 100000 in
set_option maxHeartbeats 1000000 in
theorem putsA (k : Int) (a : Option Addr) (n c : Nat) (xs : List Int) (w : World) (hi0 : IntsAt w a n xs) (hx0 : ∀ x ∈ xs, I64 x) (hn : n ≤ c) (hc : c ≤ maxLen) (hcase : n ≤ 200) :
    Calls Try.prog 3 #[.int .i64 k, .slice a n c] w fun e w' => e = .returned (.bool true) ∧ Keeps [] w w' := by
  unfold maxLen at hc
  obtain ⟨ys, hys⟩ : ∃ ys, ys = xs := ⟨_, rfl⟩
  have hi : IntsAt w a n ys := by rw [hys]; exact hi0
  have hx : ∀ x ∈ ys, I64 x := by rw [hys]; exact hx0
  have hcase2 : (n : Int) ≤ 200 := by omega
  have HI := Lib.hid hi
  have HX := Lib.hid hx
  have HN1 := Lib.hid (show ys.length = n from hi.1.symm)
  obtain ⟨⟨z0, l0⟩, hR0⟩ : ∃ R, R = putR k true ys := ⟨_, rfl⟩
  obtain ⟨⟨z1, l1⟩, hR1⟩ : ∃ R, R = putR k false ys := ⟨_, rfl⟩
  obtain ⟨N0, hL0⟩ : ∃ N, N = l0.length := ⟨_, rfl⟩
  obtain ⟨N1, hL1⟩ : ∃ N, N = l1.length := ⟨_, rfl⟩
  have HR0 := Lib.hid hR0
  have HR1 := Lib.hid hR1
  have HL0 := Lib.hid hL0
  have HL1 := Lib.hid hL1
  have k0 : Keeps [] w w := Keeps.refl _ _
  clear hi hx hi0 hx0 hR0 hR1 hL0 hL1 hys
  go_enter Try.func3, Try.ntmps3
  go_wp2_with fail
  refine (ints_any a n c ys _ (HI.out.keep0 k0) (by omega)).mono ?_
  rintro e v0 ⟨x, rfl, g0, d0, rfl, -, hA, q⟩
  rw [HN1.out]
  have k0b := k0.trans0 q
  have hiA := hA.ints
  have hle := hA.le
  have hcm := hA.cm
  rw [HN1.out] at hiA hle
  have IA0 := Lib.hid hiA
  have ML0 := Lib.hid hle
  have MM0 := Lib.hid hcm
  clear hA q hiA hle hcm k0
  go_wp2_with fail
  refine (Signed_any k _ n d0 ys _ IA0.out HX.out (by omega)).mono ?_
  rintro e u0 ho
  rw [← HR0.out] at ho
  obtain ⟨a0, c0, he, hj, q, hl, hm⟩ := ho
  have he : e = .returned (.tuple #[.slice a0 N0 c0, .int .i64 z0]) := by rw [he, HL0.out]
  subst he
  have k0c := k0b.trans0 q
  have hj : IntsAt u0 a0 N0 l0 := by rw [HL0.out]; exact hj
  have J0 := Lib.hid hj
  have NL0 := Lib.hid (show N0 ≤ maxLen by rw [HL0.out]; exact Nat.le_trans hl hm)
  clear q hl hm hj k0b
  go_wp2_with fail
  refine (refPut_any k true a n c ys _ (HI.out.keep0 k0c) HX.out (by omega)).mono ?_
  rintro e t0 ho
  rw [← HR0.out] at ho
  obtain ⟨b0, e0, he, hj, q, hl, hm⟩ := ho
  have he : e = .returned (.tuple #[.slice b0 N0 e0, .int .i64 z0]) := by rw [he, HL0.out]
  subst he
  have k1 := k0c.trans0 q
  have K0 := Lib.hid q
  have hj : IntsAt t0 b0 N0 l0 := by rw [HL0.out]; exact hj
  have B0 := Lib.hid hj
  have P0 := Lib.hid k1
  have kt0 : Keeps [] t0 t0 := Keeps.refl _ _
  clear q hl hm hj k0c
  go_wp2_with fail
  refine (ints_any a n c ys _ (HI.out.keep0 k1) (by omega)).mono ?_
  rintro e v1 ⟨x, rfl, g1, d1, rfl, -, hA, q⟩
  rw [HN1.out]
  have k1b := k1.trans0 q
  have kt1 := kt0.trans0 q
  have hiA := hA.ints
  have hle := hA.le
  have hcm := hA.cm
  rw [HN1.out] at hiA hle
  have IA1 := Lib.hid hiA
  have ML1 := Lib.hid hle
  have MM1 := Lib.hid hcm
  clear hA q hiA hle hcm k1
  go_wp2_with fail
  refine (Plain_any k _ n d1 ys _ IA1.out HX.out (by omega)).mono ?_
  rintro e u1 ho
  rw [← HR1.out] at ho
  obtain ⟨a1, c1, he, hj, q, hl, hm⟩ := ho
  have he : e = .returned (.tuple #[.slice a1 N1 c1, .int .i64 z1]) := by rw [he, HL1.out]
  subst he
  have k1c := k1b.trans0 q
  have kt2 := kt1.trans0 q
  have hj : IntsAt u1 a1 N1 l1 := by rw [HL1.out]; exact hj
  have J1 := Lib.hid hj
  have NL1 := Lib.hid (show N1 ≤ maxLen by rw [HL1.out]; exact Nat.le_trans hl hm)
  clear q hl hm hj k1b
  go_wp2_with fail
  refine (refPut_any k false a n c ys _ (HI.out.keep0 k1c) HX.out (by omega)).mono ?_
  rintro e t1 ho
  rw [← HR1.out] at ho
  obtain ⟨b1, e1, he, hj, q, hl, hm⟩ := ho
  have he : e = .returned (.tuple #[.slice b1 N1 e1, .int .i64 z1]) := by rw [he, HL1.out]
  subst he
  have k2 := k1c.trans0 q
  have KT := Lib.hid (kt2.trans0 q)
  clear kt0 kt1 kt2
  have K1 := Lib.hid q
  have hj : IntsAt t1 b1 N1 l1 := by rw [HL1.out]; exact hj
  have B1 := Lib.hid hj
  have P1 := Lib.hid k2
  clear q hl hm hj k1c
  go_wp2_with fail
  have kj0 : Keeps [] u0 t1 := K0.out.trans0 KT.out
  refine (sameInts_any a0 b0 N0 N0 c0 e0 l0 l0 t1 (J0.out.keep0 kj0) (B0.out.keep0 KT.out) NL0.out NL0.out).mono ?_
  rintro e w3 ⟨he, m0, hw3⟩
  rw [same_self] at he
  subst he
  have k3 : Keeps [] t1 w3 := by rw [hw3]; exact (Keeps.refl _ _).drewN _
  clear hw3
  go_wp2_with fail
  refine (sameInts_any a1 b1 N1 N1 c1 e1 l1 l1 w3 ((J1.out.keep0 K1.out).keep0 k3) (B1.out.keep0 k3) NL1.out NL1.out).mono ?_
  rintro e w4 ⟨he, m1, hw4⟩
  rw [same_self] at he
  subst he
  have k4 : Keeps [] t1 w4 := by rw [hw4]; exact k3.drewN _
  clear hw4
  go_wp2_with fail
  refine (works_any w4).mono ?_
  rintro e w9 ⟨rfl, k9⟩
  go_wp2_with fail
  go_ret
  exact ⟨rfl, (P1.out.trans0 k4).trans0 k9⟩
set_option maxRecDepth 100000 in
set_option maxHeartbeats 1000000 in
theorem putsB (k : Int) (a : Option Addr) (n c : Nat) (xs : List Int) (w : World) (hi0 : IntsAt w a n xs) (hx0 : ∀ x ∈ xs, I64 x) (hn : n ≤ c) (hc : c ≤ maxLen) (hcase : 200 < n) :
    Calls Try.prog 3 #[.int .i64 k, .slice a n c] w fun e w' => e = .returned (.bool true) ∧ Keeps [] w w' := by
  unfold maxLen at hc
  obtain ⟨ys, hys⟩ : ∃ ys, ys = xs.take 200 := ⟨_, rfl⟩
  have hi : IntsAt w a 200 ys := by rw [hys]; exact hi0.take (by omega)
  have hx : ∀ x ∈ ys, I64 x := by rw [hys]; exact fun x h => hx0 x (List.mem_of_mem_take h)
  have hcase2 : ¬ (n : Int) ≤ 200 := by omega
  have HI := Lib.hid hi
  have HX := Lib.hid hx
  have HN1 := Lib.hid (show ys.length = 200 from hi.1.symm)
  obtain ⟨⟨z0, l0⟩, hR0⟩ : ∃ R, R = putR k true ys := ⟨_, rfl⟩
  obtain ⟨⟨z1, l1⟩, hR1⟩ : ∃ R, R = putR k false ys := ⟨_, rfl⟩
  obtain ⟨N0, hL0⟩ : ∃ N, N = l0.length := ⟨_, rfl⟩
  obtain ⟨N1, hL1⟩ : ∃ N, N = l1.length := ⟨_, rfl⟩
  have HR0 := Lib.hid hR0
  have HR1 := Lib.hid hR1
  have HL0 := Lib.hid hL0
  have HL1 := Lib.hid hL1
  have k0 : Keeps [] w w := Keeps.refl _ _
  clear hi hx hi0 hx0 hR0 hR1 hL0 hL1 hys
  go_enter Try.func3, Try.ntmps3
  go_wp2_with fail
  refine (ints_any a 200 c ys _ (HI.out.keep0 k0) (by omega)).mono ?_
  rintro e v0 ⟨x, rfl, g0, d0, rfl, -, hA, q⟩
  rw [HN1.out]
  have k0b := k0.trans0 q
  have hiA := hA.ints
  have hle := hA.le
  have hcm := hA.cm
  rw [HN1.out] at hiA hle
  have IA0 := Lib.hid hiA
  have ML0 := Lib.hid hle
  have MM0 := Lib.hid hcm
  clear hA q hiA hle hcm k0
  go_wp2_with fail
  refine (Signed_any k _ 200 d0 ys _ IA0.out HX.out (by omega)).mono ?_
  rintro e u0 ho
  rw [← HR0.out] at ho
  obtain ⟨a0, c0, he, hj, q, hl, hm⟩ := ho
  have he : e = .returned (.tuple #[.slice a0 N0 c0, .int .i64 z0]) := by rw [he, HL0.out]
  subst he
  have k0c := k0b.trans0 q
  have hj : IntsAt u0 a0 N0 l0 := by rw [HL0.out]; exact hj
  have J0 := Lib.hid hj
  have NL0 := Lib.hid (show N0 ≤ maxLen by rw [HL0.out]; exact Nat.le_trans hl hm)
  clear q hl hm hj k0b
  go_wp2_with fail
  refine (refPut_any k true a 200 c ys _ (HI.out.keep0 k0c) HX.out (by omega)).mono ?_
  rintro e t0 ho
  rw [← HR0.out] at ho
  obtain ⟨b0, e0, he, hj, q, hl, hm⟩ := ho
  have he : e = .returned (.tuple #[.slice b0 N0 e0, .int .i64 z0]) := by rw [he, HL0.out]
  subst he
  have k1 := k0c.trans0 q
  have K0 := Lib.hid q
  have hj : IntsAt t0 b0 N0 l0 := by rw [HL0.out]; exact hj
  have B0 := Lib.hid hj
  have P0 := Lib.hid k1
  have kt0 : Keeps [] t0 t0 := Keeps.refl _ _
  clear q hl hm hj k0c
  go_wp2_with fail
  refine (ints_any a 200 c ys _ (HI.out.keep0 k1) (by omega)).mono ?_
  rintro e v1 ⟨x, rfl, g1, d1, rfl, -, hA, q⟩
  rw [HN1.out]
  have k1b := k1.trans0 q
  have kt1 := kt0.trans0 q
  have hiA := hA.ints
  have hle := hA.le
  have hcm := hA.cm
  rw [HN1.out] at hiA hle
  have IA1 := Lib.hid hiA
  have ML1 := Lib.hid hle
  have MM1 := Lib.hid hcm
  clear hA q hiA hle hcm k1
  go_wp2_with fail
  refine (Plain_any k _ 200 d1 ys _ IA1.out HX.out (by omega)).mono ?_
  rintro e u1 ho
  rw [← HR1.out] at ho
  obtain ⟨a1, c1, he, hj, q, hl, hm⟩ := ho
  have he : e = .returned (.tuple #[.slice a1 N1 c1, .int .i64 z1]) := by rw [he, HL1.out]
  subst he
  have k1c := k1b.trans0 q
  have kt2 := kt1.trans0 q
  have hj : IntsAt u1 a1 N1 l1 := by rw [HL1.out]; exact hj
  have J1 := Lib.hid hj
  have NL1 := Lib.hid (show N1 ≤ maxLen by rw [HL1.out]; exact Nat.le_trans hl hm)
  clear q hl hm hj k1b
  go_wp2_with fail
  refine (refPut_any k false a 200 c ys _ (HI.out.keep0 k1c) HX.out (by omega)).mono ?_
  rintro e t1 ho
  rw [← HR1.out] at ho
  obtain ⟨b1, e1, he, hj, q, hl, hm⟩ := ho
  have he : e = .returned (.tuple #[.slice b1 N1 e1, .int .i64 z1]) := by rw [he, HL1.out]
  subst he
  have k2 := k1c.trans0 q
  have KT := Lib.hid (kt2.trans0 q)
  clear kt0 kt1 kt2
  have K1 := Lib.hid q
  have hj : IntsAt t1 b1 N1 l1 := by rw [HL1.out]; exact hj
  have B1 := Lib.hid hj
  have P1 := Lib.hid k2
  clear q hl hm hj k1c
  go_wp2_with fail
  have kj0 : Keeps [] u0 t1 := K0.out.trans0 KT.out
  refine (sameInts_any a0 b0 N0 N0 c0 e0 l0 l0 t1 (J0.out.keep0 kj0) (B0.out.keep0 KT.out) NL0.out NL0.out).mono ?_
  rintro e w3 ⟨he, m0, hw3⟩
  rw [same_self] at he
  subst he
  have k3 : Keeps [] t1 w3 := by rw [hw3]; exact (Keeps.refl _ _).drewN _
  clear hw3
  go_wp2_with fail
  refine (sameInts_any a1 b1 N1 N1 c1 e1 l1 l1 w3 ((J1.out.keep0 K1.out).keep0 k3) (B1.out.keep0 k3) NL1.out NL1.out).mono ?_
  rintro e w4 ⟨he, m1, hw4⟩
  rw [same_self] at he
  subst he
  have k4 : Keeps [] t1 w4 := by rw [hw4]; exact k3.drewN _
  clear hw4
  go_wp2_with fail
  refine (works_any w4).mono ?_
  rintro e w9 ⟨rfl, k9⟩
  go_wp2_with fail
  go_ret
  exact ⟨rfl, (P1.out.trans0 k4).trans0 k9⟩
theorem puts_any (k : Int) (a : Option Addr) (n c : Nat) (xs : List Int) (w : World) (hi0 : IntsAt w a n xs) (hx0 : ∀ x ∈ xs, I64 x) (hn : n ≤ c) (hc : c ≤ maxLen) :
    Calls Try.prog 3 #[.int .i64 k, .slice a n c] w fun e w' => e = .returned (.bool true) ∧ Keeps [] w w' := by
  by_cases h : n ≤ 200
  · exact putsA k a n c xs w hi0 hx0 hn hc h
  · exact putsB k a n c xs w hi0 hx0 hn hc (by omega)
set_option maxRecDepth 100000 in
set_option maxHeartbeats 1000000 in
theorem getsA (k : Int) (a : Option Addr) (n c : Nat) (xs : List Int) (w : World) (hi0 : IntsAt w a n xs) (hx0 : ∀ x ∈ xs, I64 x) (hn : n ≤ c) (hc : c ≤ maxLen) (hcase : n ≤ 200) :
    Calls Try.prog 4 #[.int .i64 k, .slice a n c] w fun e w' => e = .returned (.bool true) ∧ Keeps [] w w' := by
  unfold maxLen at hc
  obtain ⟨ys, hys⟩ : ∃ ys, ys = xs := ⟨_, rfl⟩
  have hi : IntsAt w a n ys := by rw [hys]; exact hi0
  have hx : ∀ x ∈ ys, I64 x := by rw [hys]; exact hx0
  have hcase2 : (n : Int) ≤ 200 := by omega
  have HI := Lib.hid hi
  have HX := Lib.hid hx
  have HN1 := Lib.hid (show ys.length = n from hi.1.symm)
  obtain ⟨⟨z0, l0⟩, hR0⟩ : ∃ R, R = getR k true ys := ⟨_, rfl⟩
  obtain ⟨⟨z1, l1⟩, hR1⟩ : ∃ R, R = getR k false ys := ⟨_, rfl⟩
  have HR0 := Lib.hid hR0
  have HR1 := Lib.hid hR1
  have k0 : Keeps [] w w := Keeps.refl _ _
  clear hi hx hi0 hx0 hR0 hR1 hys
  go_enter Try.func4, Try.ntmps4
  go_wp2_with fail
  refine (ints_any a n c ys _ (HI.out.keep0 k0) (by omega)).mono ?_
  rintro e v0 ⟨x, rfl, g0, d0, rfl, -, hA, q⟩
  rw [HN1.out]
  have k0b := k0.trans0 q
  have hiA := hA.ints
  have hle := hA.le
  have hcm := hA.cm
  rw [HN1.out] at hiA hle
  have IA0 := Lib.hid hiA
  have ML0 := Lib.hid hle
  have MM0 := Lib.hid hcm
  clear hA q hiA hle hcm k0
  go_wp2_with fail
  refine (Get_any k _ n d0 ys _ IA0.out ML0.out MM0.out).mono ?_
  rintro e u0 ⟨he, q⟩
  rw [← HR0.out] at he
  have he : e = .returned (.tuple #[.int .i64 l0, .int .i64 z0]) := he
  subst he
  have k1 := k0b.trans0 q
  clear q k0b
  go_wp2_with fail
  refine (refGet_any k true a n c ys _ (HI.out.keep0 k1) (by unfold maxLen; omega)).mono ?_
  rintro e w' ⟨he, rfl⟩
  rw [← HR0.out] at he
  have he : e = .returned (.tuple #[.int .i64 l0, .int .i64 z0]) := he
  subst he
  go_wp2_with fail
  refine (ints_any a n c ys _ (HI.out.keep0 k1) (by omega)).mono ?_
  rintro e v1 ⟨x, rfl, g1, d1, rfl, -, hA, q⟩
  rw [HN1.out]
  have k1b := k1.trans0 q
  have hiA := hA.ints
  have hle := hA.le
  have hcm := hA.cm
  rw [HN1.out] at hiA hle
  have IA1 := Lib.hid hiA
  have ML1 := Lib.hid hle
  have MM1 := Lib.hid hcm
  clear hA q hiA hle hcm k1
  go_wp2_with fail
  refine (GetPlain_any k _ n d1 ys _ IA1.out ML1.out MM1.out).mono ?_
  rintro e u1 ⟨he, q⟩
  rw [← HR1.out] at he
  have he : e = .returned (.tuple #[.int .i64 l1, .int .i64 z1]) := he
  subst he
  have k2 := k1b.trans0 q
  clear q k1b
  go_wp2_with fail
  refine (refGet_any k false a n c ys _ (HI.out.keep0 k2) (by unfold maxLen; omega)).mono ?_
  rintro e w' ⟨he, rfl⟩
  rw [← HR1.out] at he
  have he : e = .returned (.tuple #[.int .i64 l1, .int .i64 z1]) := he
  subst he
  go_wp2_with fail
  refine (works_any _).mono ?_
  rintro e w9 ⟨rfl, k9⟩
  go_wp2_with fail
  go_ret
  exact ⟨rfl, k2.trans0 k9⟩
set_option maxRecDepth 100000 in
set_option maxHeartbeats 1000000 in
theorem getsB (k : Int) (a : Option Addr) (n c : Nat) (xs : List Int) (w : World) (hi0 : IntsAt w a n xs) (hx0 : ∀ x ∈ xs, I64 x) (hn : n ≤ c) (hc : c ≤ maxLen) (hcase : 200 < n) :
    Calls Try.prog 4 #[.int .i64 k, .slice a n c] w fun e w' => e = .returned (.bool true) ∧ Keeps [] w w' := by
  unfold maxLen at hc
  obtain ⟨ys, hys⟩ : ∃ ys, ys = xs.take 200 := ⟨_, rfl⟩
  have hi : IntsAt w a 200 ys := by rw [hys]; exact hi0.take (by omega)
  have hx : ∀ x ∈ ys, I64 x := by rw [hys]; exact fun x h => hx0 x (List.mem_of_mem_take h)
  have hcase2 : ¬ (n : Int) ≤ 200 := by omega
  have HI := Lib.hid hi
  have HX := Lib.hid hx
  have HN1 := Lib.hid (show ys.length = 200 from hi.1.symm)
  obtain ⟨⟨z0, l0⟩, hR0⟩ : ∃ R, R = getR k true ys := ⟨_, rfl⟩
  obtain ⟨⟨z1, l1⟩, hR1⟩ : ∃ R, R = getR k false ys := ⟨_, rfl⟩
  have HR0 := Lib.hid hR0
  have HR1 := Lib.hid hR1
  have k0 : Keeps [] w w := Keeps.refl _ _
  clear hi hx hi0 hx0 hR0 hR1 hys
  go_enter Try.func4, Try.ntmps4
  go_wp2_with fail
  refine (ints_any a 200 c ys _ (HI.out.keep0 k0) (by omega)).mono ?_
  rintro e v0 ⟨x, rfl, g0, d0, rfl, -, hA, q⟩
  rw [HN1.out]
  have k0b := k0.trans0 q
  have hiA := hA.ints
  have hle := hA.le
  have hcm := hA.cm
  rw [HN1.out] at hiA hle
  have IA0 := Lib.hid hiA
  have ML0 := Lib.hid hle
  have MM0 := Lib.hid hcm
  clear hA q hiA hle hcm k0
  go_wp2_with fail
  refine (Get_any k _ 200 d0 ys _ IA0.out ML0.out MM0.out).mono ?_
  rintro e u0 ⟨he, q⟩
  rw [← HR0.out] at he
  have he : e = .returned (.tuple #[.int .i64 l0, .int .i64 z0]) := he
  subst he
  have k1 := k0b.trans0 q
  clear q k0b
  go_wp2_with fail
  refine (refGet_any k true a 200 c ys _ (HI.out.keep0 k1) (by unfold maxLen; omega)).mono ?_
  rintro e w' ⟨he, rfl⟩
  rw [← HR0.out] at he
  have he : e = .returned (.tuple #[.int .i64 l0, .int .i64 z0]) := he
  subst he
  go_wp2_with fail
  refine (ints_any a 200 c ys _ (HI.out.keep0 k1) (by omega)).mono ?_
  rintro e v1 ⟨x, rfl, g1, d1, rfl, -, hA, q⟩
  rw [HN1.out]
  have k1b := k1.trans0 q
  have hiA := hA.ints
  have hle := hA.le
  have hcm := hA.cm
  rw [HN1.out] at hiA hle
  have IA1 := Lib.hid hiA
  have ML1 := Lib.hid hle
  have MM1 := Lib.hid hcm
  clear hA q hiA hle hcm k1
  go_wp2_with fail
  refine (GetPlain_any k _ 200 d1 ys _ IA1.out ML1.out MM1.out).mono ?_
  rintro e u1 ⟨he, q⟩
  rw [← HR1.out] at he
  have he : e = .returned (.tuple #[.int .i64 l1, .int .i64 z1]) := he
  subst he
  have k2 := k1b.trans0 q
  clear q k1b
  go_wp2_with fail
  refine (refGet_any k false a 200 c ys _ (HI.out.keep0 k2) (by unfold maxLen; omega)).mono ?_
  rintro e w' ⟨he, rfl⟩
  rw [← HR1.out] at he
  have he : e = .returned (.tuple #[.int .i64 l1, .int .i64 z1]) := he
  subst he
  go_wp2_with fail
  refine (works_any _).mono ?_
  rintro e w9 ⟨rfl, k9⟩
  go_wp2_with fail
  go_ret
  exact ⟨rfl, k2.trans0 k9⟩
theorem gets_any (k : Int) (a : Option Addr) (n c : Nat) (xs : List Int) (w : World) (hi0 : IntsAt w a n xs) (hx0 : ∀ x ∈ xs, I64 x) (hn : n ≤ c) (hc : c ≤ maxLen) :
    Calls Try.prog 4 #[.int .i64 k, .slice a n c] w fun e w' => e = .returned (.bool true) ∧ Keeps [] w w' := by
  by_cases h : n ≤ 200
  · exact getsA k a n c xs w hi0 hx0 hn hc h
  · exact getsB k a n c xs w hi0 hx0 hn hc (by omega)
end Go.Proofs.Ytfmegladcjcjgaa
