/- FlashErases walked: erasing makes a page blank, as far as the power lets, and changes no other; and counts from its first raw write. -/
import Derived.Test.YtjebflafbkmokaaS
namespace Go.Proofs.Ytjebflafbkmokaa
open Go.RowKit
set_option linter.unusedVariables false

/-- A made flash of two, played on: what is known. -/
theorem two_played {w0 w w' : World} {b bw be : Nat} {dv dv' : Value} {s' : FS} {N : Nat} (h : Pl w0 w w' b bw be dv dv' tw0 s' N) (acts : List ActR) (hs : s' = tw0.plays acts) : Calm s' := by
  subst hs; exact tw0_calm.plays

/-- What stands in word i behind the erase. -/
def wantAt (s : FS) (p m i : Nat) : Int := if p * 16 ≤ i ∧ i < p * 16 + min m 16 then 65535 else s.w.getD i 0

set_option maxRecDepth 100000 in
set_option maxHeartbeats 2000000 in
theorem erases_any (a : Option Addr) (n c : Nat) (acts : List ActR) (pg nn : Int) (w : World) (hA : ActsAt w a n acts) :
    Calls Try.prog 6 #[.slice a n c, .int .i64 pg, .int .i64 nn] w fun e w' => e = .returned (.bool true) ∧ Keeps [] w w' := by
  have h4 := amongI_lt pg 4 (by omega) (by omega)
  have h20 := amongI_lt nn 20 (by omega) (by omega)
  obtain ⟨p, hp⟩ := Int.eq_ofNat_of_zero_le h4.1
  obtain ⟨m, hm⟩ := Int.eq_ofNat_of_zero_le h20.1
  have hp4 : p < 4 := by omega
  have hm20 : m < 20 := by omega
  clear h4 h20
  have HP := Lib.hid hp
  have HM := Lib.hid hm
  clear hp hm
  go_enter Try.func6, Try.ntmps6
  go_wp2_with fail
  refine (works_any _).mono ?_
  rintro e w1 ⟨rfl, k1⟩
  go_wp2_with fail
  refine (two_any _).mono ?_
  rintro e w2 ⟨rfl, k2⟩
  go_wp2_with fail
  refine (make_yes 2 2 16 _ (by decide +kernel)).mono ?_
  rintro e w3 ⟨b, rfl, hmd⟩
  have k03 : Keeps [] w w2 := k1.trans0 k2
  obtain ⟨bw, be, dv0, hf1, hup, k3⟩ := Own.of_made k03 hmd
  have hf1 : Fl w3 b bw be dv0 tw0 := hf1
  clear hmd
  go_wp2_with fail
  refine (play_any hf1 tw0_good (by decide +kernel) (by omega) k3 hup a n c acts hA).mono ?_
  rintro e w4 ⟨rfl, dv, hP⟩
  have hcalm : Calm (tw0.plays (acts.take 40)) := tw0_calm.plays
  obtain ⟨s, hs⟩ : ∃ s, s = tw0.plays (acts.take 40) := ⟨_, rfl⟩
  rw [← hs] at hP hcalm
  clear hs
  go_wp2_with fail
  refine (among_any _ _ _ (by omega) (by omega)).mono ?_
  rintro e w5 ⟨he, rfl⟩
  rw [HP.out] at he
  subst he
  go_wp2_with fail
  refine (among_any _ _ _ (by omega) (by omega)).mono ?_
  rintro e w5 ⟨he, rfl⟩
  rw [HM.out] at he
  subst he
  go_wp2_with fail
  refine (image_yes hP.fl (by rw [hcalm.wl]; omega)).mono ?_
  rintro e w5 ⟨v, rfl, g1, c1, rfl, hg1, hA1, k5⟩
  rw [hcalm.wl]
  have hP5 := hP.keep0 k5
  go_wp2_with fail
  refine (erases_in hP5.fl p (by rw [hcalm.el]; omega) (by rw [hcalm.el]; exact hp4)).mono ?_
  rintro e w6 ⟨he, rfl⟩
  have hx0 := hP5.good.hev p
  obtain ⟨x, hx⟩ : ∃ x, x = s.er.getD p 0 := ⟨_, rfl⟩
  rw [← hx] at he hx0
  have HX := Lib.hid hx
  clear hx
  subst he
  go_wp2_with fail
  refine (cut_yes hP5.fl m).mono ?_
  rintro e w6 ⟨rfl, hf6, k6⟩
  have hgood6 := hP5.good.setCut m (by omega)
  go_wp2_with fail
  refine (erase_yes hf6 hgood6 p (by show _ + s.n.toNat ≤ _; rw [hcalm.n16]; decide)).mono ?_
  rintro e w7 ⟨he, dv7, hf7, k7, hn7⟩
  obtain ⟨e1, e2, e3, e4, e5⟩ := erase_cut hcalm p m hp4
  obtain ⟨s7, hs7⟩ : ∃ s7, s7 = (({ s with cut := (m : Int) } : FS).eraseP p).2 := ⟨_, rfl⟩
  have e1' := congrArg Prod.fst e1
  simp only at e1'
  rw [e1'] at he
  rw [← hs7] at hf7 e2 e3 e4 e5
  rw [← HX.out] at e5
  have kall : Keeps [] w w7 := (hP5.k0.trans k6 (fun x hx => .inr (hP5.up x hx))).trans k7 (fun x hx => .inr (hP5.up x hx))
  have hg1f : ∀ k ∈ foot b bw be dv, k ≠ g1 := fun k hk h => by have := hP.fl.lt k hk; omega
  have hA7 := (hA1.keep k6 (fun h => hg1f _ h rfl)).keep k7 (fun h => hg1f _ h rfl)
  have hg0 : w.heap.size ≤ g1 := Nat.le_trans hP.k0.size hg1
  clear hs7 e1 e1' hf1 hA1
  obtain ⟨dm, ee, hdm, hee, hcases⟩ : ∃ dm ee : Int, s7.er.getD p 0 = x + dm ∧ (if 16 ≤ m then (0 : Int) else 10) = ee ∧ ((16 ≤ m ∧ dm = 1 ∧ ee = 0) ∨ (m < 16 ∧ 1 ≤ m ∧ dm = 1 ∧ ee = 10) ∨ (m < 1 ∧ dm = 0 ∧ ee = 10)) := by
    refine ⟨_, _, e5, rfl, ?_⟩
    by_cases h16 : 16 ≤ m
    · rw [if_pos h16]; left; omega
    · rw [if_neg h16]; by_cases h1 : 1 ≤ m
      · right; left; omega
      · right; right; omega
  rw [hee] at he
  have E2 := Lib.hid e2
  have E3 := Lib.hid e3
  have E5 := Lib.hid hdm
  clear e2 e3 e5 hdm hee
  rcases hcases with ⟨h16, hd1, he1⟩ | ⟨h16, h1, hd1, he1⟩ | ⟨h1, hd1, he1⟩
  all_goals
    subst hd1 he1 he
    go_wp2_with fail
    refine (image_yes hf7 (by rw [E3.out]; omega)).mono ?_
    rintro e w8 ⟨v, rfl, g2, c2, rfl, hg2, hA2, k8⟩
    rw [E3.out]
    have hA8 := hA7.keep k8 (by simp)
    have hf8 := hf7.keep k8 (by simp)
    go_wp2_with fail
    go_loop [13] (fun v => ∃ k : Nat, k ≤ 64 ∧ v = .int .i64 k) (fun v => 64 - (intOf v).toNat)
    case atStart => exact ⟨0, by omega, rfl⟩
    case round =>
      obtain ⟨k, hk, rfl⟩ := hrel
      by_cases hlt : k < 64
      · have q1 := hA8.cell (i := k) (by rw [hcalm.wl]; exact hlt)
        have q2 := hA2.cell (i := k) (by rw [E3.out]; exact hlt)
        rw [E2.out k] at q2
        obtain ⟨y, hy⟩ : ∃ y, y = s.w.getD k 0 := ⟨_, rfl⟩
        rw [← hy] at q1 q2
        clear hy
        by_cases hpg : k / 16 = p
        · have hb1 : ((k : Int) / 16 == (p : Int)) = true := by simp; omega
          by_cases hlm : k % 16 < m
          · rw [if_pos (by omega)] at q2
            have hl2 : (k : Int) % 16 < (m : Int) := by omega
            clear hpg
            go_wp2_with fail
            all_goals
              go_round
              case rel => exact ⟨k + 1, by omega, by go_num⟩
              case measure => simp [intOf]; omega
          · rw [if_neg (by omega)] at q2
            have hl2 : (m : Int) ≤ (k : Int) % 16 := by omega
            clear hpg
            go_wp2_with fail
            all_goals
              go_round
              case rel => exact ⟨k + 1, by omega, by go_num⟩
              case measure => simp [intOf]; omega
        · have hb1 : ((k : Int) / 16 == (p : Int)) = false := by simp; omega
          rw [if_neg (by omega)] at q2
          clear hpg
          go_wp2_with fail
          all_goals
            go_round
            case rel => exact ⟨k + 1, by omega, by go_num⟩
            case measure => simp [intOf]; omega
      · go_wp2_with fail
        refine (erases_in hf8 p (by rw [e4]; omega) (by rw [e4]; exact hp4)).mono ?_
        rintro e w9 ⟨he, rfl⟩
        rw [E5.out] at he
        subst he
        go_wp2_with fail
        go_ret
        refine ⟨?_, kall.trans0 k8⟩
        first
        | rfl
        | (have hq : decide ((16 : Int) ≤ (m : Int)) = false := decide_eq_false (by omega); simp [hq]; done)
        | (have hq : decide ((16 : Int) ≤ (m : Int)) = true := decide_eq_true (by omega); simp [hq]; done)
        | (have hm0 : (m : Int) = 0 := (by omega); simp [hm0]; done)

end Go.Proofs.Ytjebflafbkmokaa
