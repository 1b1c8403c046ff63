/- WideOrder walked. -/
import Derived.Test.YtdanmeemoifapaaWf
namespace Go.Proofs.Ytdanmeemoifapaa
open Go.RowKit
set_option linter.unusedVariables false

/-- The cells of wide numbers, one behind the other. -/
theorem nums2 (w : World) (a b : Int) : NumsAt (w.alloc (.cells #[.int .i64 (a / 18446744073709551616), .int .u64 (a % 18446744073709551616), .int .i64 (b / 18446744073709551616), .int .u64 (b % 18446744073709551616)] 25)) w.heap.size [a, b] := by
  intro i hi
  have : i = 0 ∨ i = 1 := by simp at hi; omega
  have hb := heap_alloc_new w (.cells #[.int .i64 (a / 18446744073709551616), .int .u64 (a % 18446744073709551616), .int .i64 (b / 18446744073709551616), .int .u64 (b % 18446744073709551616)] 25)
  rcases this with rfl | rfl
  · exact ⟨cell_of_block hb rfl, cell_of_block hb rfl⟩
  · exact ⟨cell_of_block hb rfl, cell_of_block hb rfl⟩
theorem nums3 (w : World) (a b c : Int) : NumsAt (w.alloc (.cells #[.int .i64 (a / 18446744073709551616), .int .u64 (a % 18446744073709551616), .int .i64 (b / 18446744073709551616), .int .u64 (b % 18446744073709551616), .int .i64 (c / 18446744073709551616), .int .u64 (c % 18446744073709551616)] 25)) w.heap.size [a, b, c] := by
  intro i hi
  have : i = 0 ∨ i = 1 ∨ i = 2 := by simp at hi; omega
  have hb := heap_alloc_new w (.cells #[.int .i64 (a / 18446744073709551616), .int .u64 (a % 18446744073709551616), .int .i64 (b / 18446744073709551616), .int .u64 (b % 18446744073709551616), .int .i64 (c / 18446744073709551616), .int .u64 (c % 18446744073709551616)] 25)
  rcases this with rfl | rfl | rfl
  · exact ⟨cell_of_block hb rfl, cell_of_block hb rfl⟩
  · exact ⟨cell_of_block hb rfl, cell_of_block hb rfl⟩
  · exact ⟨cell_of_block hb rfl, cell_of_block hb rfl⟩

theorem I128_of {a : Int} (h : I64 a) : I128 a := by unfold I64 at h; unfold I128; omega

set_option maxRecDepth 100000 in
set_option maxHeartbeats 1000000 in
theorem order_walk (a b c : Int) (w : World) (ha : I64 a) (hb : I64 b) (hc : I64 c) :
    Calls Try.prog 6 #[.int .i64 a, .int .i64 b, .int .i64 c] w fun e w' => e = .returned (.bool true) ∧ Keeps [] w w' := by
  have tb1 := Int.tmod_lt_of_pos b (show (0 : Int) < 2305843009213693952 by decide)
  have tb2 := Int.lt_tmod_of_pos b (show (0 : Int) < 2305843009213693952 by decide)
  have tc1 := Int.tmod_lt_of_pos c (show (0 : Int) < 2305843009213693952 by decide)
  have tc2 := Int.lt_tmod_of_pos c (show (0 : Int) < 2305843009213693952 by decide)
  obtain ⟨x, hx⟩ : ∃ x, b.tmod 2305843009213693952 = x := ⟨_, rfl⟩
  obtain ⟨y, hy⟩ : ∃ x, c.tmod 2305843009213693952 = x := ⟨_, rfl⟩
  rw [hx] at tb1 tb2
  rw [hy] at tc1 tc2
  have hxI : I64 x := by unfold I64; omega
  have hyI : I64 y := by unfold I64; omega
  have hsI : I64 (x + y) := by unfold I64; omega
  obtain ⟨P, hP⟩ : ∃ P, P = a * x := ⟨_, rfl⟩
  obtain ⟨R, hR⟩ : ∃ P, P = a * y := ⟨_, rfl⟩
  obtain ⟨T, hT⟩ : ∃ P, P = a * (x + y) := ⟨_, rfl⟩
  have e1 : x * a = P := by rw [hP, Int.mul_comm]
  have hPI : I128 P := by rw [hP]; exact mul_I128 a x ha hxI
  have hRI : I128 R := by rw [hR]; exact mul_I128 a y ha hyI
  have hTI : I128 T := by rw [hT]; exact mul_I128 a (x + y) ha hsI
  have e2 : w128 (plainSum [P, R]) = T := by
    have : plainSum [P, R] = T := by rw [hT, Int.mul_add, ← hP, ← hR]; simp [plainSum]
    rw [this, w128_in hTI]
  obtain ⟨U, hU⟩ : ∃ P, P = w128 (plainSum [a, x, y]) := ⟨_, rfl⟩
  have e3 : w128 (plainSum [y, a, x]) = U := by rw [hU]; congr 1; simp [plainSum]; omega
  have e4 : num (a * 0) = .agg #[.int .i64 0, .int .u64 0] := by rw [Int.mul_zero]; rfl
  have HP := Lib.hid hP
  have HR := Lib.hid hR
  have HT := Lib.hid hT
  have HU := Lib.hid hU
  have E1 := Lib.hid e1
  have E2 := Lib.hid e2
  have E3 := Lib.hid e3
  have E4 := Lib.hid e4
  have HA := Lib.hid ha
  have HX := Lib.hid hxI
  have HY := Lib.hid hyI
  have HSI := Lib.hid hsI
  have HPI := Lib.hid hPI
  have HRI := Lib.hid hRI
  clear hP hR hT hU e1 e2 e3 e4 ha hb hc hxI hyI hsI hPI hRI hTI
  go_enter Try.func6, Try.ntmps6
  go_wp2_with fail
  refine (works_any _).mono ?_
  rintro e w1 ⟨rfl, k1⟩
  go_wp2_with fail
  refine (wmul_any a x _ HA.out HX.out).mono ?_
  rintro e w2 ⟨he, k2⟩
  rw [← HP.out, num_unfold] at he
  subst he
  go_wp2_with fail
  refine (wmul_any x a _ HX.out HA.out).mono ?_
  rintro e w3 ⟨he, k3⟩
  rw [E1.out, num_unfold] at he
  subst he
  go_wp2_with fail
  refine (wmul_any a (x + y) _ HA.out HSI.out).mono ?_
  rintro e w4 ⟨he, k4⟩
  rw [← HT.out, num_unfold] at he
  subst he
  go_wp2_with fail
  refine (wmul_any a x _ HA.out HX.out).mono ?_
  rintro e w5 ⟨he, k5⟩
  rw [← HP.out, num_unfold] at he
  subst he
  go_wp2_with fail
  refine (wmul_any a y _ HA.out HY.out).mono ?_
  rintro e w6 ⟨he, k6⟩
  rw [← HR.out, num_unfold] at he
  subst he
  go_wp2_with fail
  refine (add_any [P, R] _ 2 _ _ (by intro z hz; simp at hz; rcases hz with rfl | rfl; exact HPI.out; exact HRI.out) rfl (by omega) (nums2 _ P R)).mono ?_
  rintro e w7 ⟨he, k7⟩
  rw [E2.out, num_unfold] at he
  subst he
  go_wp2_with fail
  refine (of_any a _ HA.out).mono ?_
  rintro e w8 ⟨he, k8⟩
  rw [num_unfold] at he
  subst he
  go_wp2_with fail
  refine (of_any x _ HX.out).mono ?_
  rintro e w9 ⟨he, k9⟩
  rw [num_unfold] at he
  subst he
  go_wp2_with fail
  refine (of_any y _ HY.out).mono ?_
  rintro e w10 ⟨he, k10⟩
  rw [num_unfold] at he
  subst he
  go_wp2_with fail
  refine (add_any [a, x, y] _ 3 _ _ (by intro z hz; simp at hz; rcases hz with rfl | rfl | rfl; exact I128_of HA.out; exact I128_of HX.out; exact I128_of HY.out) rfl (by omega) (nums3 _ a x y)).mono ?_
  rintro e w11 ⟨he, k11⟩
  rw [← HU.out, num_unfold] at he
  subst he
  go_wp2_with fail
  refine (of_any y _ HY.out).mono ?_
  rintro e w12 ⟨he, k12⟩
  rw [num_unfold] at he
  subst he
  go_wp2_with fail
  refine (of_any a _ HA.out).mono ?_
  rintro e w13 ⟨he, k13⟩
  rw [num_unfold] at he
  subst he
  go_wp2_with fail
  refine (of_any x _ HX.out).mono ?_
  rintro e w14 ⟨he, k14⟩
  rw [num_unfold] at he
  subst he
  go_wp2_with fail
  refine (add_any [y, a, x] _ 3 _ _ (by intro z hz; simp at hz; rcases hz with rfl | rfl | rfl; exact I128_of HY.out; exact I128_of HA.out; exact I128_of HX.out) rfl (by omega) (nums3 _ y a x)).mono ?_
  rintro e w15 ⟨he, k15⟩
  rw [E3.out, num_unfold] at he
  subst he
  go_wp2_with fail
  refine (wmul_any a 0 _ HA.out (by unfold I64; omega)).mono ?_
  rintro e w16 ⟨he, k16⟩
  rw [E4.out] at he
  subst he
  go_wp2_with fail
  refine (compare_any 0 0 _).mono ?_
  rintro e w17 ⟨he, k17⟩
  have e5 : cmpI 0 0 = 0 := rfl
  rw [e5] at he
  clear e5
  subst he
  go_wp2_with fail
  go_ret
  exact ⟨rfl, by
    refine Keeps.trans0 ?_ k17
    refine Keeps.trans0 ?_ k16
    refine Keeps.trans0 (Keeps.alloc ?_ _) k15
    refine Keeps.trans0 ?_ k14
    refine Keeps.trans0 ?_ k13
    refine Keeps.trans0 ?_ k12
    refine Keeps.trans0 (Keeps.alloc ?_ _) k11
    refine Keeps.trans0 ?_ k10
    refine Keeps.trans0 ?_ k9
    refine Keeps.trans0 ?_ k8
    refine Keeps.trans0 (Keeps.alloc ?_ _) k7
    exact ((((k1.trans0 k2).trans0 k3).trans0 k4).trans0 k5).trans0 k6⟩
end Go.Proofs.Ytdanmeemoifapaa
