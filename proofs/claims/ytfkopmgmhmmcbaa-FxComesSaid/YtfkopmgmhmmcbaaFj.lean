/- FxComes walked. -/
import Derived.Test.YtfkopmgmhmmcbaaFe
import Derived.Test.YtfkopmgmhmmcbaaAm
import Derived.Deep.CutBlock
import Derived.Deep.DeepCutAuto
namespace Go.Proofs.Ytfkopmgmhmmcbaa
open Go.RowKit
set_option linter.unusedVariables false

theorem steps_of (D s M : Int) (k : Nat) (hs : 1 ≤ s) (hM : M = k * s) (h1 : D ≤ M) (h2 : M ≤ D + s - 1) : (D + s - 1) / s = k := by
  refine ((Int.ediv_emod_unique (a := D + s - 1) (b := s) (r := D + s - 1 - M) (q := k) (by omega)).2 ⟨?_, by omega, by omega⟩).1
  rw [Int.mul_comm s, ← hM]; omega

/-- What holds ahead of each round. -/
structure At (T s D : Int) (k : Nat) (x M : Int) : Prop where
  x1 : -2000 ≤ x
  x2 : x ≤ 2000
  m : M = k * s
  d : max (x - T) (T - x) = max 0 (D - M)
  b : M ≤ D + s - 1
  km : (k : Int) ≤ M

theorem At.step {T s D : Int} {k : Nat} {x M : Int} (h : At T s D k x M) (hs : 1 ≤ s) (hT : -2000 ≤ T ∧ T ≤ 2000) (hx : x ≠ T) : At T s D (k + 1) (tow x T s) (M + s) := by
  obtain ⟨x1, x2, m, d, b, km⟩ := h
  have hlt : M < D := by omega
  have key : max (tow x T s - T) (T - tow x T s) = max 0 (D - (M + s)) ∧ -2000 ≤ tow x T s ∧ tow x T s ≤ 2000 := by
    unfold tow far
    rw [if_neg (by omega)]
    split
    · omega
    · split <;> omega
  refine ⟨key.2.1, key.2.2, ?_, key.1, by omega, by omega⟩
  rw [m, Int.natCast_add, Int.add_mul]; simp

set_option maxRecDepth 100000 in
set_option maxHeartbeats 4000000 in
theorem comes_any (a b c : Int) (w : World) :
    Calls Try.prog 9 #[.int .i64 a, .int .i64 b, .int .i64 c] w fun e w' => e = .returned (.bool true) ∧ Keeps [] w w' := by
  have hF0 := amongI_lt a 4000 (by omega) (by omega)
  have hT0 := amongI_lt b 4000 (by omega) (by omega)
  have hS0 := amongI_lt c 300 (by omega) (by omega)
  obtain ⟨F, eF⟩ : ∃ F, F = amongI a 4000 := ⟨_, rfl⟩
  obtain ⟨G, eG⟩ : ∃ G, G = amongI b 4000 := ⟨_, rfl⟩
  obtain ⟨S, eS⟩ : ∃ S, S = amongI c 300 := ⟨_, rfl⟩
  rw [← eF] at hF0
  rw [← eG] at hT0
  rw [← eS] at hS0
  have EF := Lib.hid eF
  have EG := Lib.hid eG
  have ES := Lib.hid eS
  clear eF eG eS
  obtain ⟨f, hf⟩ : ∃ f, F - 2000 = f := ⟨_, rfl⟩
  obtain ⟨t, ht⟩ : ∃ t, G - 2000 = t := ⟨_, rfl⟩
  obtain ⟨st, hs⟩ : ∃ s, 1 + S = s := ⟨_, rfl⟩
  have hfb : -2000 ≤ f ∧ f ≤ 2000 := by omega
  have htb : -2000 ≤ t ∧ t ≤ 2000 := by omega
  have hsb : 1 ≤ st ∧ st ≤ 300 := by omega
  obtain ⟨D, hD⟩ : ∃ D, D = max (f - t) (t - f) := ⟨_, rfl⟩
  have hDb : 0 ≤ D ∧ D ≤ 4000 := by omega
  have HD := Lib.hid hD
  clear hD
  go_enter Try.func9, Try.ntmps9
  go_wp2_with fail
  refine (works_any _).mono ?_
  rintro e w1 ⟨rfl, k1⟩
  go_wp2_with fail
  refine (among_any a _ _ (by omega) (by omega)).mono ?_
  rintro e w2 ⟨he, rfl⟩
  rw [← EF.out] at he
  subst he
  go_wp2_with fail
  refine (among_any b _ _ (by omega) (by omega)).mono ?_
  rintro e w2 ⟨he, rfl⟩
  rw [← EG.out] at he
  subst he
  go_wp2_with fail
  refine (among_any c _ _ (by omega) (by omega)).mono ?_
  rintro e w2 ⟨he, rfl⟩
  rw [← ES.out] at he
  subst he
  go_upto_region 4 with (fail)
  clear hf ht hs hF0 hT0 hS0
  go_cut [7] (fun s7 wx => s7 = .int .i64 D ∧ w1 = wx)
  case first =>
    rcases Int.lt_trichotomy f t with h | h | h
    · have e : t - f = D := by have := HD.out; omega
      clear HD
      go_wp2_with fail
      go_meet
      exact ⟨rfl, rfl⟩
    · subst h
      have e : D = 0 := by have := HD.out; omega
      subst e
      clear HD
      go_wp2_with fail
      go_meet
      exact ⟨rfl, rfl⟩
    · have e : f - t = D := by have := HD.out; omega
      clear HD
      go_wp2_with fail
      go_meet
      exact ⟨rfl, rfl⟩
  case rest =>
    obtain ⟨rfl, rfl⟩ := hcut
    go_wp2_with fail
    go_loop [8, 9] (fun nv xv => ∃ (k : Nat) (x M : Int), nv = .int .i64 k ∧ xv = .int .i64 x ∧ At t st D k x M) (fun nv _ => 5000 - (intOf nv).toNat)
    case atStart => exact ⟨0, f, 0, rfl, rfl, ⟨by omega, by omega, by simp, by have := HD.out; omega, by omega, by omega⟩⟩
    case round =>
      obtain ⟨k, x, M, rfl, rfl, hat⟩ := hrel
      by_cases hx : x = t
      · subst hx
        have hres := steps_of D st M k hsb.1 hat.m (by have := hat.d; omega) hat.b
        have hkm := hat.km
        have hb := hat.b
        have HAT := Lib.hid hat
        have e1 : (x != x) = false := by simp
        have e3 : 0 ≤ D + st - 1 := by omega
        have tw : tow x x st = x := by unfold tow far; rw [if_neg (by omega), if_pos (by omega)]
        have TW := Lib.hid tw
        clear hat tw
        go_wp2_with fail
        refine (toward_any x x st _ (by unfold I64; omega) (by unfold I64; omega) (by unfold I64; omega)).mono ?_
        rintro e w2 ⟨he, rfl⟩
        rw [TW.out] at he
        subst he
        go_wp2_with fail
        go_ret
        exact ⟨rfl, k1⟩
      · have hst := hat.step hsb.1 htb hx
        have hx1 := hat.x1
        have hx2 := hat.x2
        have hd := hat.d
        have hd2 := hst.d
        have hkm := hat.km
        have hk5 : (k : Int) < 4000 := by have := hat.d; omega
        have e1 : (x != t) = true := by simpa using hx
        obtain ⟨y, ey⟩ : ∃ y, y = tow x t st := ⟨_, rfl⟩
        rw [← ey] at hst hd2
        have hy1 := hst.x1
        have hy2 := hst.x2
        have hyd : y = t ∧ max (x - t) (t - x) ≤ st ∨ x < t ∧ y = x + st ∧ y < t ∨ t < x ∧ y = x - st ∧ t < y := by
          rw [ey]; unfold tow far; rw [if_neg (by omega)]
          split
          · omega
          · split <;> omega
        have EY := Lib.hid ey
        have HST := Lib.hid hst
        have HXT := Lib.hid hx
        have HHD := Lib.hid hd
        have HHD2 := Lib.hid hd2
        clear ey hst hx hat hd hd2
        rcases hyd with ⟨rfl, hd1⟩ | ⟨h1, rfl, h2⟩ | ⟨h1, rfl, h2⟩
        · have hx0 : x < y ∨ y < x := by have := HXT.out; omega
          rcases hx0 with h1 | h1
          · by_cases h2 : y - x < st
            · have h3 : y - x - st < 0 := by omega
              go_upto_region 9 with (fail)
              go_wp2_with fail
              refine (toward_any x y st _ (by unfold I64; omega) (by unfold I64; omega) (by unfold I64; omega)).mono ?_
              rintro e w2 ⟨he, rfl⟩
              rw [← EY.out] at he
              subst he
              go_wp2_with fail
              exact ⟨⟨k + 1, _, M + st, by go_num, rfl, HST.out⟩, by simp [intOf]; omega⟩
            · have h3 : st = y - x := by omega
              subst h3
              go_upto_region 9 with (fail)
              go_wp2_with fail
              refine (toward_any x y (y - x) _ (by unfold I64; omega) (by unfold I64; omega) (by unfold I64; omega)).mono ?_
              rintro e w2 ⟨he, rfl⟩
              rw [← EY.out] at he
              subst he
              go_wp2_with fail
              exact ⟨⟨k + 1, _, M + (y - x), by go_num, rfl, HST.out⟩, by simp [intOf]; omega⟩
          · by_cases h2 : x - y < st
            · have h3 : x - y - st < 0 := by omega
              go_upto_region 9 with (fail)
              go_wp2_with fail
              refine (toward_any x y st _ (by unfold I64; omega) (by unfold I64; omega) (by unfold I64; omega)).mono ?_
              rintro e w2 ⟨he, rfl⟩
              rw [← EY.out] at he
              subst he
              go_wp2_with fail
              exact ⟨⟨k + 1, _, M + st, by go_num, rfl, HST.out⟩, by simp [intOf]; omega⟩
            · have h3 : st = x - y := by omega
              subst h3
              go_upto_region 9 with (fail)
              go_wp2_with fail
              refine (toward_any x y (x - y) _ (by unfold I64; omega) (by unfold I64; omega) (by unfold I64; omega)).mono ?_
              rintro e w2 ⟨he, rfl⟩
              rw [← EY.out] at he
              subst he
              go_wp2_with fail
              exact ⟨⟨k + 1, _, M + (x - y), by go_num, rfl, HST.out⟩, by simp [intOf]; omega⟩
        · go_upto_region 9 with (fail)
          go_wp2_with fail
          refine (toward_any x t st _ (by unfold I64; omega) (by unfold I64; omega) (by unfold I64; omega)).mono ?_
          rintro e w2 ⟨he, rfl⟩
          rw [← EY.out] at he
          subst he
          go_wp2_with fail
          exact ⟨⟨k + 1, _, M + st, by go_num, rfl, HST.out⟩, by simp [intOf]; omega⟩
        · go_upto_region 9 with (fail)
          go_wp2_with fail
          refine (toward_any x t st _ (by unfold I64; omega) (by unfold I64; omega) (by unfold I64; omega)).mono ?_
          rintro e w2 ⟨he, rfl⟩
          rw [← EY.out] at he
          subst he
          go_wp2_with fail
          exact ⟨⟨k + 1, _, M + st, by go_num, rfl, HST.out⟩, by simp [intOf]; omega⟩
end Go.Proofs.Ytfkopmgmhmmcbaa
