/- PackFields walked. -/
import Derived.Test.YtfmegladcjcjgaaPn
namespace Go.Proofs.Ytfmegladcjcjgaa
open Go.RowKit
set_option linter.unusedVariables false

theorem keeps_drewN {w w' : World} {m : Nat} (h : w' = w.drewN m) : Keeps [] w w' := by rw [h]; exact (Keeps.refl _ _).drewN _
theorem IntsAt.max {w : World} {a : Option Addr} {n c : Nat} {l : List Int} (_ : IntsAt w a n l) (h1 : n ≤ c) (h2 : c ≤ maxLen) : n ≤ maxLen := Nat.le_trans h1 h2

set_option maxRecDepth 100000 in
set_option maxHeartbeats 2000000 in
theorem fields_any (a : Option Addr) (n c : Nat) (ws : List Int) (a' : Option Addr) (n' c' : Nat) (vs : List Int) (b : Option Addr) (m d : Nat) (xs : List Int) (w : World)
    (hi : IntsAt w a n ws) (hi' : IntsAt w a' n' vs) (hj : IntsAt w b m xs) (hx' : ∀ x ∈ vs, I64 x) (hn : n ≤ c) (hc : c ≤ maxLen) (hn' : n' ≤ c') (hc' : c' ≤ maxLen) (hm : m ≤ d) (hd : d ≤ maxLen) :
    Calls Try.prog 5 #[.slice a n c, .slice a' n' c', .slice b m d] w fun e w' => e = .returned (.bool true) ∧ Keeps [] w w' := by
  unfold maxLen at hc hc' hd
  by_cases h0 : 600 < n
  · clear hi hi' hj
    go_enter Try.func5, Try.ntmps5
    go_wp2_with fail
    go_ret
    exact ⟨rfl, Keeps.refl _ _⟩
  have h0b : decide (600 < (n : Int)) = false := by simp; omega
  by_cases h1 : 600 < n'
  · clear hi hi' hj h0
    go_enter Try.func5, Try.ntmps5
    go_wp2_with fail
    go_ret
    exact ⟨rfl, Keeps.refl _ _⟩
  have h1b : decide (600 < (n' : Int)) = false := by simp; omega
  by_cases h2 : 600 < m
  · clear hi hi' hj h0 h1
    go_enter Try.func5, Try.ntmps5
    go_wp2_with fail
    go_ret
    exact ⟨rfl, Keeps.refl _ _⟩
  have h2b : decide (600 < (m : Int)) = false := by simp; omega
  have hnl : n ≤ 600 := by omega
  have hnl' : n' ≤ 600 := by omega
  have hml : m ≤ 600 := by omega
  obtain ⟨⟨z0, l0⟩, hR0⟩ : ∃ R, R = fieldsR ws vs := ⟨_, rfl⟩
  obtain ⟨⟨z1, l1⟩, hR1⟩ : ∃ R, R = splitR ws xs := ⟨_, rfl⟩
  obtain ⟨N0, hL0⟩ : ∃ N, N = l0.length := ⟨_, rfl⟩
  obtain ⟨N1, hL1⟩ : ∃ N, N = l1.length := ⟨_, rfl⟩
  obtain ⟨S, hS⟩ : ∃ S : Int, S = ((sizeR ws : Nat) : Int) := ⟨_, rfl⟩
  have R0 := Lib.hid hR0
  have R1 := Lib.hid hR1
  have N0H := Lib.hid hL0
  have N1H := Lib.hid hL1
  have SH := Lib.hid hS
  have I := Lib.hid hi
  have I' := Lib.hid hi'
  have J := Lib.hid hj
  have HX := Lib.hid hx'
  have LN := Lib.hid (show ws.length = n from hi.1.symm)
  have LN' := Lib.hid (show vs.length = n' from hi'.1.symm)
  have LM := Lib.hid (show xs.length = m from hj.1.symm)
  have KK := Lib.hid (Keeps.refl [] w)
  clear hi hi' hj hx' hR0 hR1 hL0 hL1 hS h0 h1 h2
  go_enter Try.func5, Try.ntmps5
  go_wp2_with fail
  refine (ints_any a n _ ws _ I.out (by omega)).mono ?_
  rintro e w1 ⟨x, rfl, gA0, dA0, rfl, -, hA, q⟩
  rw [LN.out]
  have hiA := hA.ints
  have hle := hA.le
  have hcm := hA.cm
  rw [LN.out] at hiA hle
  have I := Lib.hid (I.out.keep0 q)
  have I' := Lib.hid (I'.out.keep0 q)
  have J := Lib.hid (J.out.keep0 q)
  have KK := Lib.hid (KK.out.trans0 q)
  have A0 := Lib.hid hiA
  have A0L := Lib.hid hle
  have A0M := Lib.hid hcm
  clear hA q hiA hle hcm
  go_wp2_with fail
  refine (ints_any a' n' _ vs _ I'.out (by omega)).mono ?_
  rintro e w2 ⟨x, rfl, gA1, dA1, rfl, -, hA, q⟩
  rw [LN'.out]
  have hiA := hA.ints
  have hle := hA.le
  have hcm := hA.cm
  rw [LN'.out] at hiA hle
  have I := Lib.hid (I.out.keep0 q)
  have I' := Lib.hid (I'.out.keep0 q)
  have J := Lib.hid (J.out.keep0 q)
  have A0 := Lib.hid (A0.out.keep0 q)
  have KK := Lib.hid (KK.out.trans0 q)
  have A1 := Lib.hid hiA
  have A1L := Lib.hid hle
  have A1M := Lib.hid hcm
  clear hA q hiA hle hcm
  go_wp2_with fail
  refine (Fields_any _ _ n dA0 n' dA1 ws vs _ A0.out A1.out (by omega) (by omega)).mono ?_
  rintro e w3 ho
  rw [← R0.out] at ho
  obtain ⟨aB0, cB0, he, hj, q, hl, hm⟩ := ho
  have he : e = .returned (.tuple #[.slice aB0 N0 cB0, .int .i64 z0]) := by rw [he, N0H.out]
  subst he
  have hj : IntsAt w3 aB0 N0 l0 := by rw [N0H.out]; exact hj
  have hl : N0 ≤ cB0 := by rw [N0H.out]; exact hl
  have I := Lib.hid (I.out.keep0 q)
  have I' := Lib.hid (I'.out.keep0 q)
  have J := Lib.hid (J.out.keep0 q)
  have A0 := Lib.hid (A0.out.keep0 q)
  have A1 := Lib.hid (A1.out.keep0 q)
  have KK := Lib.hid (KK.out.trans0 q)
  have B0 := Lib.hid hj
  have B0L := Lib.hid hl
  have B0M := Lib.hid hm
  clear q hl hm hj
  go_wp2_with fail
  refine (refFields_any a a' n c n' c' ws vs _ I.out I'.out (by omega) (by omega) HX.out).mono ?_
  rintro e w4 ho
  rw [← R0.out] at ho
  obtain ⟨aB1, cB1, he, hj, q, hl, hm⟩ := ho
  have he : e = .returned (.tuple #[.slice aB1 N0 cB1, .int .i64 z0]) := by rw [he, N0H.out]
  subst he
  have hj : IntsAt w4 aB1 N0 l0 := by rw [N0H.out]; exact hj
  have hl : N0 ≤ cB1 := by rw [N0H.out]; exact hl
  have I := Lib.hid (I.out.keep0 q)
  have I' := Lib.hid (I'.out.keep0 q)
  have J := Lib.hid (J.out.keep0 q)
  have A0 := Lib.hid (A0.out.keep0 q)
  have A1 := Lib.hid (A1.out.keep0 q)
  have B0 := Lib.hid (B0.out.keep0 q)
  have KK := Lib.hid (KK.out.trans0 q)
  have B1 := Lib.hid hj
  have B1L := Lib.hid hl
  have B1M := Lib.hid hm
  clear q hl hm hj
  go_wp2_with fail
  refine (ints_any a n _ ws _ I.out (by omega)).mono ?_
  rintro e w5 ⟨x, rfl, gA2, dA2, rfl, -, hA, q⟩
  rw [LN.out]
  have hiA := hA.ints
  have hle := hA.le
  have hcm := hA.cm
  rw [LN.out] at hiA hle
  have I := Lib.hid (I.out.keep0 q)
  have I' := Lib.hid (I'.out.keep0 q)
  have J := Lib.hid (J.out.keep0 q)
  have A0 := Lib.hid (A0.out.keep0 q)
  have A1 := Lib.hid (A1.out.keep0 q)
  have B0 := Lib.hid (B0.out.keep0 q)
  have B1 := Lib.hid (B1.out.keep0 q)
  have KK := Lib.hid (KK.out.trans0 q)
  have A2 := Lib.hid hiA
  have A2L := Lib.hid hle
  have A2M := Lib.hid hcm
  clear hA q hiA hle hcm
  go_wp2_with fail
  refine (ints_any b m _ xs _ J.out (by omega)).mono ?_
  rintro e w6 ⟨x, rfl, gA3, dA3, rfl, -, hA, q⟩
  rw [LM.out]
  have hiA := hA.ints
  have hle := hA.le
  have hcm := hA.cm
  rw [LM.out] at hiA hle
  have I := Lib.hid (I.out.keep0 q)
  have I' := Lib.hid (I'.out.keep0 q)
  have J := Lib.hid (J.out.keep0 q)
  have A0 := Lib.hid (A0.out.keep0 q)
  have A1 := Lib.hid (A1.out.keep0 q)
  have B0 := Lib.hid (B0.out.keep0 q)
  have B1 := Lib.hid (B1.out.keep0 q)
  have A2 := Lib.hid (A2.out.keep0 q)
  have KK := Lib.hid (KK.out.trans0 q)
  have A3 := Lib.hid hiA
  have A3L := Lib.hid hle
  have A3M := Lib.hid hcm
  clear hA q hiA hle hcm
  go_wp2_with fail
  refine (Split_any _ _ n dA2 m dA3 ws xs _ A2.out A3.out (by omega) A3L.out A3M.out).mono ?_
  rintro e w7 ho
  rw [← R1.out] at ho
  obtain ⟨aB2, cB2, he, hj, q, hl, hm⟩ := ho
  have he : e = .returned (.tuple #[.slice aB2 N1 cB2, .int .i64 z1]) := by rw [he, N1H.out]
  subst he
  have hj : IntsAt w7 aB2 N1 l1 := by rw [N1H.out]; exact hj
  have hl : N1 ≤ cB2 := by rw [N1H.out]; exact hl
  have I := Lib.hid (I.out.keep0 q)
  have I' := Lib.hid (I'.out.keep0 q)
  have J := Lib.hid (J.out.keep0 q)
  have A0 := Lib.hid (A0.out.keep0 q)
  have A1 := Lib.hid (A1.out.keep0 q)
  have B0 := Lib.hid (B0.out.keep0 q)
  have B1 := Lib.hid (B1.out.keep0 q)
  have A2 := Lib.hid (A2.out.keep0 q)
  have A3 := Lib.hid (A3.out.keep0 q)
  have KK := Lib.hid (KK.out.trans0 q)
  have B2 := Lib.hid hj
  have B2L := Lib.hid hl
  have B2M := Lib.hid hm
  clear q hl hm hj
  go_wp2_with fail
  refine (refSplit_any a b n c m d ws xs _ I.out J.out (by omega) (by unfold maxLen; omega)).mono ?_
  rintro e w8 ho
  rw [← R1.out] at ho
  obtain ⟨aB3, cB3, he, hj, q, hl, hm⟩ := ho
  have he : e = .returned (.tuple #[.slice aB3 N1 cB3, .int .i64 z1]) := by rw [he, N1H.out]
  subst he
  have hj : IntsAt w8 aB3 N1 l1 := by rw [N1H.out]; exact hj
  have hl : N1 ≤ cB3 := by rw [N1H.out]; exact hl
  have I := Lib.hid (I.out.keep0 q)
  have I' := Lib.hid (I'.out.keep0 q)
  have J := Lib.hid (J.out.keep0 q)
  have A0 := Lib.hid (A0.out.keep0 q)
  have A1 := Lib.hid (A1.out.keep0 q)
  have B0 := Lib.hid (B0.out.keep0 q)
  have B1 := Lib.hid (B1.out.keep0 q)
  have A2 := Lib.hid (A2.out.keep0 q)
  have A3 := Lib.hid (A3.out.keep0 q)
  have B2 := Lib.hid (B2.out.keep0 q)
  have KK := Lib.hid (KK.out.trans0 q)
  have B3 := Lib.hid hj
  have B3L := Lib.hid hl
  have B3M := Lib.hid hm
  clear q hl hm hj
  go_wp2_with fail
  refine (sameInts_any aB0 aB1 N0 N0 cB0 cB1 l0 l0 _ B0.out B1.out (B0.out.max B0L.out B0M.out) (B1.out.max B1L.out B1M.out)).mono ?_
  rintro e w9 ⟨he, mw9, hw⟩
  rw [same_self] at he
  have he : e = .returned (.bool true) := he
  subst he
  have q := keeps_drewN hw
  clear hw
  have I := Lib.hid (I.out.keep0 q)
  have I' := Lib.hid (I'.out.keep0 q)
  have J := Lib.hid (J.out.keep0 q)
  have A0 := Lib.hid (A0.out.keep0 q)
  have A1 := Lib.hid (A1.out.keep0 q)
  have B0 := Lib.hid (B0.out.keep0 q)
  have B1 := Lib.hid (B1.out.keep0 q)
  have A2 := Lib.hid (A2.out.keep0 q)
  have A3 := Lib.hid (A3.out.keep0 q)
  have B2 := Lib.hid (B2.out.keep0 q)
  have B3 := Lib.hid (B3.out.keep0 q)
  have KK := Lib.hid (KK.out.trans0 q)
  clear q
  go_wp2_with fail
  refine (sameInts_any aB2 aB3 N1 N1 cB2 cB3 l1 l1 _ B2.out B3.out (B2.out.max B2L.out B2M.out) (B3.out.max B3L.out B3M.out)).mono ?_
  rintro e w10 ⟨he, mw10, hw⟩
  rw [same_self] at he
  have he : e = .returned (.bool true) := he
  subst he
  have q := keeps_drewN hw
  clear hw
  have I := Lib.hid (I.out.keep0 q)
  have I' := Lib.hid (I'.out.keep0 q)
  have J := Lib.hid (J.out.keep0 q)
  have A0 := Lib.hid (A0.out.keep0 q)
  have A1 := Lib.hid (A1.out.keep0 q)
  have B0 := Lib.hid (B0.out.keep0 q)
  have B1 := Lib.hid (B1.out.keep0 q)
  have A2 := Lib.hid (A2.out.keep0 q)
  have A3 := Lib.hid (A3.out.keep0 q)
  have B2 := Lib.hid (B2.out.keep0 q)
  have B3 := Lib.hid (B3.out.keep0 q)
  have KK := Lib.hid (KK.out.trans0 q)
  clear q
  go_wp2_with fail
  refine (ints_any a n _ ws _ I.out (by omega)).mono ?_
  rintro e w11 ⟨x, rfl, gA4, dA4, rfl, -, hA, q⟩
  rw [LN.out]
  have hiA := hA.ints
  have hle := hA.le
  have hcm := hA.cm
  rw [LN.out] at hiA hle
  have I := Lib.hid (I.out.keep0 q)
  have I' := Lib.hid (I'.out.keep0 q)
  have J := Lib.hid (J.out.keep0 q)
  have A0 := Lib.hid (A0.out.keep0 q)
  have A1 := Lib.hid (A1.out.keep0 q)
  have B0 := Lib.hid (B0.out.keep0 q)
  have B1 := Lib.hid (B1.out.keep0 q)
  have A2 := Lib.hid (A2.out.keep0 q)
  have A3 := Lib.hid (A3.out.keep0 q)
  have B2 := Lib.hid (B2.out.keep0 q)
  have B3 := Lib.hid (B3.out.keep0 q)
  have KK := Lib.hid (KK.out.trans0 q)
  have A4 := Lib.hid hiA
  have A4L := Lib.hid hle
  have A4M := Lib.hid hcm
  clear hA q hiA hle hcm
  go_wp2_with fail
  refine (Size_any _ n dA4 ws _ A4.out (by omega)).mono ?_
  rintro e w' ⟨he, rfl⟩
  rw [← SH.out] at he
  have he : e = .returned (.int .i64 S) := he
  subst he
  go_wp2_with fail
  refine (refSize_any a n c ws _ I.out (by omega)).mono ?_
  rintro e w' ⟨he, rfl⟩
  rw [← SH.out] at he
  have he : e = .returned (.int .i64 S) := he
  subst he
  go_wp2_with fail
  refine (works_any _).mono ?_
  rintro e w12 ⟨rfl, q⟩
  have I := Lib.hid (I.out.keep0 q)
  have I' := Lib.hid (I'.out.keep0 q)
  have J := Lib.hid (J.out.keep0 q)
  have A0 := Lib.hid (A0.out.keep0 q)
  have A1 := Lib.hid (A1.out.keep0 q)
  have B0 := Lib.hid (B0.out.keep0 q)
  have B1 := Lib.hid (B1.out.keep0 q)
  have A2 := Lib.hid (A2.out.keep0 q)
  have A3 := Lib.hid (A3.out.keep0 q)
  have B2 := Lib.hid (B2.out.keep0 q)
  have B3 := Lib.hid (B3.out.keep0 q)
  have A4 := Lib.hid (A4.out.keep0 q)
  have KK := Lib.hid (KK.out.trans0 q)
  clear q
  go_wp2_with fail
  go_ret
  exact ⟨rfl, KK.out⟩
end Go.Proofs.Ytfmegladcjcjgaa
