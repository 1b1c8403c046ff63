/- The document's wide numbers held against the program's; WideMuls walked. -/
import Derived.Test.YtdanmeemoifapaaWh
import Derived.Test.YtdanmeemoifapaaDl
namespace Go.Proofs.Ytdanmeemoifapaa
open Go.RowKit
set_option linter.unusedVariables false

theorem sgn_of (a : Int) : sgn (decide (a < 0)) a.natAbs = a := by
  unfold sgn
  by_cases h : a < 0
  · rw [decide_eq_true h, if_pos rfl]; omega
  · rw [decide_eq_false h, if_neg (by simp)]; omega
theorem sgn_mul (a b : Int) : sgn (decide (a < 0) != decide (b < 0)) (a.natAbs * b.natAbs) = a * b := by
  unfold sgn
  rw [Int.natCast_mul]
  by_cases h : a < 0 <;> by_cases h' : b < 0
  · rw [decide_eq_true h, decide_eq_true h', if_neg (by simp), show (a.natAbs : Int) = -a by omega, show (b.natAbs : Int) = -b by omega, Int.neg_mul_neg]
  · rw [decide_eq_true h, decide_eq_false h', if_pos (by simp), show (a.natAbs : Int) = -a by omega, show (b.natAbs : Int) = b by omega, Int.neg_mul, Int.neg_neg]
  · rw [decide_eq_false h, decide_eq_true h', if_pos (by simp), show (a.natAbs : Int) = a by omega, show (b.natAbs : Int) = -b by omega, Int.mul_neg, Int.neg_neg]
  · rw [decide_eq_false h, decide_eq_false h', if_neg (by simp), show (a.natAbs : Int) = a by omega, show (b.natAbs : Int) = b by omega]
theorem sgn_add (ma mb : Bool) (x y : Nat) : sgn (addM ma mb x y) (addX ma mb x y) = sgn ma x + sgn mb y := by
  unfold addM addX
  by_cases hm : ma = mb
  · subst hm
    rw [if_pos rfl, if_pos rfl]
    unfold sgn
    split <;> omega
  · by_cases h : y ≤ x
    · rw [if_neg hm, if_neg hm, if_pos h, if_pos h]
      unfold sgn
      cases ma <;> cases mb <;> simp at hm ⊢ <;> omega
    · rw [if_neg hm, if_neg hm, if_neg h, if_neg h]
      unfold sgn
      cases ma <;> cases mb <;> simp at hm ⊢ <;> omega
theorem sgn_size {m : Bool} {x : Nat} {n : Int} (h : sgn m x = n) : (x : Int) = n ∨ (x : Int) = -n := by
  unfold sgn at h
  split at h <;> omega

theorem is_any (n : Int) (m : Bool) (x : Nat) (w : World) (hx : x < 170141183460469231731687303715884105728) (h : sgn m x = n) :
    Calls Try.prog 9 #[num n, .agg (numA m (dig x))] w fun e w' => e = .returned (.bool true) ∧ Keeps [] w w' := by
  have hb := bits_any m x hx
  rw [h] at hb
  obtain ⟨zh, hzh⟩ : ∃ z, z = n / 18446744073709551616 := ⟨_, rfl⟩
  obtain ⟨zl, hzl⟩ : ∃ z, z = n % 18446744073709551616 := ⟨_, rfl⟩
  rw [num_unfold, ← hzh, ← hzl]
  rw [← hzh, ← hzl] at hb
  have HB := Lib.hid hb
  clear hb h hx hzh hzl
  go_enter Try.func9, Try.ntmps9
  go_upto_region 1 with fail
  have n0 : ((w.alloc (.cells #[.int .i64 zh, .int .u64 zl] 25)).alloc (.cells (numA m (dig x)) 29)).heap[w.heap.size]? = some (.cells #[.int .i64 zh, .int .u64 zl] 25 (0, 0)) := heap_alloc2_old w _ _
  have n1 : NumAt ((w.alloc (.cells #[.int .i64 zh, .int .u64 zl] 25)).alloc (.cells (numA m (dig x)) 29)) (w.heap.size + 1) m (dig x) := heap_alloc2_new w _ _
  have k0 : Keeps [] w ((w.alloc (.cells #[.int .i64 zh, .int .u64 zl] 25)).alloc (.cells (numA m (dig x)) 29)) := ((Keeps.refl _ _).alloc _).alloc _
  generalize (w.alloc (.cells #[.int .i64 zh, .int .u64 zl] 25)).alloc (.cells (numA m (dig x)) 29) = w0 at *
  go_wp2_with (refine ld_num _ n1 rfl rfl rfl ?_; simp only [Act.put])
  refine (HB.out _).mono ?_
  rintro e w1 ⟨rfl, k1⟩
  have c0 := cell_of_block (k1.held n0 (by simp)) (o := 0) (v := .int .i64 zh) rfl
  have c1 := cell_of_block (k1.held n0 (by simp)) (o := 1) (v := .int .u64 zl) rfl
  clear n0 n1
  go_wp2_with fail
  go_ret
  exact ⟨rfl, k0.trans0 k1⟩

set_option maxRecDepth 100000 in
set_option maxHeartbeats 4000000 in
theorem muls_walk (a b c d : Int) (w : World) (ha : I64 a) (hb : I64 b) (hc : I64 c) (hd : I64 d) :
    Calls Try.prog 3 #[.int .i64 a, .int .i64 b, .int .i64 c, .int .i64 d] w fun e w' => e = .returned (.bool true) ∧ Keeps [] w w' := by
  obtain ⟨Z, hZ⟩ : ∃ Z, Z = a * b := ⟨_, rfl⟩
  obtain ⟨Y, hY⟩ : ∃ Z, Z = c * d := ⟨_, rfl⟩
  have cZ := fun ww => wmul_any a b ww ha hb
  have cY := fun ww => wmul_any c d ww hc hd
  have rZ := fun ww => rmul_any a b ww ha hb
  have rY := fun ww => rmul_any c d ww hc hd
  have rA := fun ww => rof_any a ww ha
  have rC := fun ww => rof_any c ww hc
  have zr := mul_range a b ha hb
  have yr := mul_range c d hc hd
  have gZ := sgn_mul a b
  have gY := sgn_mul c d
  have gA := sgn_of a
  have gC := sgn_of c
  rw [← hZ] at cZ zr gZ
  rw [← hY] at cY yr gY
  obtain ⟨mz, hmz⟩ : ∃ m, m = (decide (a < 0) != decide (b < 0)) := ⟨_, rfl⟩
  obtain ⟨my, hmy⟩ : ∃ m, m = (decide (c < 0) != decide (d < 0)) := ⟨_, rfl⟩
  obtain ⟨ma, hma⟩ : ∃ m, m = decide (a < 0) := ⟨_, rfl⟩
  obtain ⟨mc, hmc⟩ : ∃ m, m = decide (c < 0) := ⟨_, rfl⟩
  obtain ⟨xz, hxz⟩ : ∃ m, m = a.natAbs * b.natAbs := ⟨_, rfl⟩
  obtain ⟨xy, hxy⟩ : ∃ m, m = c.natAbs * d.natAbs := ⟨_, rfl⟩
  obtain ⟨xa, hxa⟩ : ∃ m, m = a.natAbs := ⟨_, rfl⟩
  obtain ⟨xc, hxc⟩ : ∃ m, m = c.natAbs := ⟨_, rfl⟩
  rw [← hmz, ← hxz] at rZ gZ
  rw [← hmy, ← hxy] at rY gY
  rw [← hma, ← hxa] at rA gA
  rw [← hmc, ← hxc] at rC gC
  have sZ := sgn_size gZ
  have sY := sgn_size gY
  have sA := sgn_size gA
  have sC := sgn_size gC
  have e20 : (256 : Nat) ^ 20 = 1461501637330902918203684832716283019655932542976 := by decide
  have bZ : xz < 256 ^ 20 := by rw [e20]; omega
  have bY : xy < 256 ^ 20 := by rw [e20]; omega
  have bC : xc < 256 ^ 20 := by rw [e20]; unfold I64 at hc; omega
  have iZ := fun ww => is_any Z mz xz ww (by omega) gZ
  have iA := fun ww => is_any a ma xa ww (by unfold I64 at ha; omega) gA
  have aZ := fun ww => radd_any mz mc xz xc bZ bC ww
  have gS := sgn_add mz mc xz xc
  rw [gZ, gC] at gS
  obtain ⟨ms, hms⟩ : ∃ m, m = addM mz mc xz xc := ⟨_, rfl⟩
  obtain ⟨xs, hxs⟩ : ∃ m, m = addX mz mc xz xc := ⟨_, rfl⟩
  rw [← hms, ← hxs] at aZ gS
  have sS := sgn_size gS
  have hsum : w128 (plainSum [Z, c]) = Z + c := by
    rw [show plainSum [Z, c] = Z + c by simp [plainSum], w128_in (by unfold I64 at hc; unfold I128; omega)]
  obtain ⟨T, hT⟩ : ∃ T, T = Z + c := ⟨_, rfl⟩
  rw [← hT] at hsum gS
  have iS := fun ww => is_any T ms xs ww (by unfold I64 at hc; omega) gS
  have rc := fun ww => rcompare_any mz my xz xy bZ bY ww
  rw [gZ, gY] at rc
  have wc := compare_any Z Y
  obtain ⟨v, hv⟩ : ∃ v, v = cmpI Z Y := ⟨_, rfl⟩
  rw [← hv] at rc wc
  have n0 : num 0 = .agg #[.int .i64 0, .int .u64 0] := rfl
  have CZ := Lib.hid cZ
  have CY := Lib.hid cY
  have RZ := Lib.hid rZ
  have RY := Lib.hid rY
  have RA := Lib.hid rA
  have RC := Lib.hid rC
  have IZ := Lib.hid iZ
  have IA := Lib.hid iA
  have IS := Lib.hid iS
  have AZ := Lib.hid aZ
  have HSUM := Lib.hid hsum
  have RCC := Lib.hid rc
  have WCC := Lib.hid wc
  have HA := Lib.hid ha
  have HCI := Lib.hid hc
  have HZI : Hid (I128 Z) := Lib.hid (by unfold I128; omega)
  have N0 := Lib.hid n0
  clear hZ hY cZ cY rZ rY rA rC zr yr gZ gY gA gC hmz hmy hma hmc hxz hxy hxa hxc sZ sY sA sC bZ bY bC iZ iA aZ gS hms hxs sS hsum hT iS rc wc hv ha hb hc hd n0 e20
  go_enter Try.func3, Try.ntmps3
  go_wp2_with fail
  refine (CZ.out _).mono ?_
  rintro e w1 ⟨he, k1⟩
  rw [num_unfold] at he
  subst he
  go_wp2_with fail
  refine (RZ.out _).mono ?_
  rintro e w2 ⟨he, k2⟩
  subst he
  go_wp2_with fail
  refine (IZ.out _).mono ?_
  rintro e w3 ⟨he, k3⟩
  subst he
  go_wp2_with fail
  refine (of_any a _ HA.out).mono ?_
  rintro e w4 ⟨he, k4⟩
  rw [num_unfold] at he
  subst he
  go_wp2_with fail
  refine (RA.out _).mono ?_
  rintro e w5 ⟨he, k5⟩
  subst he
  go_wp2_with fail
  refine (IA.out _).mono ?_
  rintro e w6 ⟨he, k6⟩
  subst he
  go_wp2_with fail
  refine (CZ.out _).mono ?_
  rintro e w7 ⟨he, k7⟩
  rw [num_unfold] at he
  subst he
  go_wp2_with fail
  refine (of_any c _ HCI.out).mono ?_
  rintro e w8 ⟨he, k8⟩
  rw [num_unfold] at he
  subst he
  go_wp2_with fail
  refine (add_any [Z, c] _ 2 _ _ (by intro z hz; simp at hz; rcases hz with rfl | rfl; exact HZI.out; exact I128_of HCI.out) rfl (by omega) (nums2 _ Z c)).mono ?_
  rintro e w9 ⟨he, k9⟩
  rw [HSUM.out, num_unfold] at he
  subst he
  go_wp2_with fail
  refine (RZ.out _).mono ?_
  rintro e w10 ⟨he, k10⟩
  subst he
  go_wp2_with fail
  refine (RC.out _).mono ?_
  rintro e w11 ⟨he, k11⟩
  subst he
  go_wp2_with fail
  refine (AZ.out _).mono ?_
  rintro e w12 ⟨he, k12⟩
  subst he
  go_wp2_with fail
  refine (IS.out _).mono ?_
  rintro e w13 ⟨he, k13⟩
  subst he
  go_wp2_with fail
  refine (CZ.out _).mono ?_
  rintro e w14 ⟨he, k14⟩
  rw [num_unfold] at he
  subst he
  go_wp2_with fail
  refine (CY.out _).mono ?_
  rintro e w15 ⟨he, k15⟩
  rw [num_unfold] at he
  subst he
  go_wp2_with fail
  refine (WCC.out _).mono ?_
  rintro e w16 ⟨he, k16⟩
  subst he
  go_wp2_with fail
  refine (RZ.out _).mono ?_
  rintro e w17 ⟨he, k17⟩
  subst he
  go_wp2_with fail
  refine (RY.out _).mono ?_
  rintro e w18 ⟨he, k18⟩
  subst he
  go_wp2_with fail
  refine (RCC.out _).mono ?_
  rintro e w19 ⟨he, k19⟩
  subst he
  go_wp2_with fail
  refine (add_nil _).mono ?_
  rintro e w20 ⟨he, k20⟩
  rw [N0.out] at he
  subst he
  go_wp2_with fail
  refine (works_any _).mono ?_
  rintro e w21 ⟨he, k21⟩
  subst he
  go_wp2_with fail
  go_ret
  exact ⟨rfl, by
    refine Keeps.trans0 ?_ k21
    refine Keeps.trans0 ?_ k20
    refine Keeps.trans0 ?_ k19
    refine Keeps.trans0 ?_ k18
    refine Keeps.trans0 ?_ k17
    refine Keeps.trans0 ?_ k16
    refine Keeps.trans0 ?_ k15
    refine Keeps.trans0 ?_ k14
    refine Keeps.trans0 ?_ k13
    refine Keeps.trans0 ?_ k12
    refine Keeps.trans0 ?_ k11
    refine Keeps.trans0 ?_ k10
    refine Keeps.trans0 (Keeps.alloc ?_ _) k9
    refine Keeps.trans0 ?_ k8
    refine Keeps.trans0 ?_ k7
    refine Keeps.trans0 ?_ k6
    refine Keeps.trans0 ?_ k5
    refine Keeps.trans0 ?_ k4
    refine Keeps.trans0 ?_ k3
    refine Keeps.trans0 ?_ k2
    exact k1⟩
end Go.Proofs.Ytdanmeemoifapaa
