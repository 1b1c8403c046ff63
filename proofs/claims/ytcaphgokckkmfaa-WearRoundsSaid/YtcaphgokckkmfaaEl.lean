
/- Wear: WearRounds: plain facts, and its walk. -/
import Derived.Test.YtcaphgokckkmfaaEj
namespace Go.Proofs.Ytcaphgokckkmfaa
open Go.RowKit
set_option maxRecDepth 100000
set_option linter.unusedVariables false
set_option linter.unusedSimpArgs false

/-- Behind so many rounds. -/
structure Rd (s : FS) (i N : Nat) : Prop where
  cm : Cm3 s N
  er : ∀ q, q < 6 → s.er.getD q 0 = (((i + 2 - q / 2) / 3 - 1 : Nat) : Int)
  used : ∀ q, q < 3 → q < i → s.w.getD (32 * q) 0 ≠ 65535 ∧ s.w.getD (32 * q + 31) 0 ≠ 65535
  free : ∀ q, q < 3 → i ≤ q → ∀ j, j < 32 → s.w.getD (32 * q + j) 0 = 65535
theorem Rd.start : Rd (FS.fresh 3 2 16) 0 0 := by
  refine ⟨sm_fresh, fun q hq => ?_, fun q _ h => by omega, fun q hq _ j hj => ?_⟩
  · have h1 : (FS.fresh 3 2 16).er.getD q 0 = 0 := by simp only [FS.fresh, List.getD, List.getElem?_replicate]; split <;> rfl
    rw [h1]
    have : (0 + 2 - q / 2) / 3 - 1 = 0 := by omega
    rw [this]; rfl
  · have h2 : 32 * q + j < ((3 : Int) * 2 * 16).toNat := by
      have : ((3 : Int) * 2 * 16).toNat = 96 := by decide
      omega
    simp only [FS.fresh, List.getD, List.getElem?_replicate]
    rw [if_pos h2]
    rfl
theorem and_full {y : Int} (h : 0 ≤ y ∧ y < 65536) : bits .and .i64 65535 y = y := by
  obtain ⟨n, rfl⟩ := Int.eq_ofNat_of_zero_le h.1
  have h1 := bits_i64_and 65535 n (by omega) (by omega)
  rw [show ((65535 : Nat) : Int) = 65535 from rfl] at h1
  rw [h1, Nat.and_comm, show (65535 : Nat) = 2 ^ 16 - 1 from rfl, Nat.and_two_pow_sub_one_eq_mod, Nat.mod_eq_of_lt (by omega)]
theorem getD_set {l : List Int} {j q : Nat} {x : Int} (hj : j < l.length) : (l.set j x).getD q 0 = if q = j then x else l.getD q 0 := by
  simp only [List.getD]
  by_cases hq : q = j
  · subst hq; rw [if_pos rfl, List.getElem?_set_self hj]; rfl
  · rw [if_neg hq, List.getElem?_set_ne (by omega)]
/-- One round more. -/
theorem Rd.step {s : FS} {i N g : Nat} (h : Rd s i N) (hg : g = i % 3) {y : Int} (hy : 0 ≤ y ∧ y < 65535) :
    Rd ((((s.grpP g).prog ((32 * g : Nat) : Int) [y]).2).prog ((32 * g + 31 : Nat) : Int) [y]).2 (i + 1) (N + 34) := by
  have hg3 : g < 3 := by omega
  obtain ⟨c1, c2, c3, c4⟩ := h.cm.clean hg3
  have ce := grp_er h.cm hg3
  have hy2 : 0 ≤ y ∧ y ≤ 65535 := by omega
  have p1 := c1.prog (q := 32 * g) (by omega) hy2
  obtain ⟨-, w1, e1, -, -, -, -, -⟩ := prog_calm (s := s.grpP g) (q := 32 * g) (x := y) (by rw [c1.cut]; omega) c1.off (by rw [c1.wl]; omega) hy2
  obtain ⟨t1, ht1⟩ : ∃ t1, t1 = ((s.grpP g).prog ((32 * g : Nat) : Int) [y]).2 := ⟨_, rfl⟩
  rw [← ht1] at p1 w1 e1 ⊢
  have p2 := p1.prog (q := 32 * g + 31) (by omega) hy2
  obtain ⟨-, w2, e2, -, -, -, -, -⟩ := prog_calm (s := t1) (q := 32 * g + 31) (x := y) (by rw [p1.cut]; omega) p1.off (by rw [p1.wl]; omega) hy2
  obtain ⟨t2, ht2⟩ : ∃ t2, t2 = (t1.prog ((32 * g + 31 : Nat) : Int) [y]).2 := ⟨_, rfl⟩
  rw [← ht2] at p2 w2 e2 ⊢
  have hw : ∀ q, t2.w.getD q 0 = if q = 32 * g + 31 then y else if q = 32 * g then y else (s.grpP g).w.getD q 0 := by
    have hB : (s.grpP g).w.getD (32 * g) 0 = 65535 := by rw [c4, if_pos (by omega)]
    have hA : t1.w.getD (32 * g + 31) 0 = 65535 := by rw [w1, getD_set (by rw [c1.wl]; omega), if_neg (by omega), c4, if_pos (by omega)]
    intro q
    rw [w2, getD_set (by rw [p1.wl]; omega), hA, and_full (by omega)]
    by_cases h1 : q = 32 * g + 31
    · rw [if_pos h1, if_pos h1]
    · rw [if_neg h1, if_neg h1, w1, getD_set (by rw [c1.wl]; omega), hB, and_full (by omega)]
  refine ⟨p2, fun q hq => ?_, fun q hq hqi => ?_, fun q hq hqi j hj => ?_⟩
  · rw [e2, e1, ce, h.er q hq]
    by_cases hin : q = 2 * g ∨ q = 2 * g + 1
    · by_cases hu : g < i
      · have hb : s.blankP q = false := by
          obtain ⟨u1, u2⟩ := h.used g hg3 hu
          cases hbb : s.blankP q
          · rfl
          · exfalso
            have hall := (h.cm.toSm.blank hq).1 hbb
            rcases hin with rfl | rfl
            · have := hall 0 (by omega)
              rw [show 2 * g * 16 + 0 = 32 * g by omega] at this
              exact u1 this
            · have := hall 15 (by omega)
              rw [show (2 * g + 1) * 16 + 15 = 32 * g + 31 by omega] at this
              exact u2 this
        rw [if_pos ⟨hin, hb⟩]
        have hqg : q / 2 = g := by omega
        rw [hqg]
        omega
      · have hb : s.blankP q = true := (h.cm.toSm.blank hq).2 (fun j hj => by
          have := h.free g hg3 (by omega) (q * 16 + j - 32 * g) (by omega)
          rwa [show 32 * g + (q * 16 + j - 32 * g) = q * 16 + j by omega] at this)
        rw [if_neg (by rw [hb]; simp)]
        have hqg : q / 2 = g := by omega
        rw [hqg]
        omega
    · rw [if_neg (fun h => hin h.1)]
      omega
  · rw [hw, hw]
    by_cases hqg : q = g
    · subst hqg
      rw [if_neg (by omega), if_pos rfl, if_pos rfl]
      omega
    · obtain ⟨u1, u2⟩ := h.used q hq (by omega)
      rw [if_neg (by omega), if_neg (by omega), if_neg (by omega), if_neg (by omega), c4, c4, if_neg (by omega), if_neg (by omega)]
      exact ⟨u1, u2⟩
  · have hqg : q ≠ g := by omega
    rw [hw, if_neg (by omega), if_neg (by omega), c4, if_neg (by omega)]
    exact h.free q hq (by omega) j hj
theorem uneven6 {a b c : Int} (ha : 0 ≤ a ∧ a ≤ 100) (hb : 0 ≤ b ∧ b ≤ 100) (hc : 0 ≤ c ∧ c ≤ 100) (h1 : a - b ≤ 1 ∧ b - a ≤ 1) (h2 : a - c ≤ 1 ∧ c - a ≤ 1) (h3 : b - c ≤ 1 ∧ c - b ≤ 1) : unevenR [a, a, b, b, c, c] ≤ 1 := by
  unfold unevenR maxU minU
  simp only [List.length_cons, List.length_nil, List.take, List.foldl, List.getD, List.getElem?_cons_zero, Option.getD_some]
  rw [if_neg (by omega), IntWalk.wrap64_in _ (by omega)]
  omega
theorem list6 {l : List Int} (h : l.length = 6) : l = [l.getD 0 0, l.getD 1 0, l.getD 2 0, l.getD 3 0, l.getD 4 0, l.getD 5 0] := by
  match l, h with
  | [_, _, _, _, _, _], _ => rfl
theorem Rd.even {s : FS} {i N : Nat} (h : Rd s i N) (hi : i ≤ 31) : unevenR s.er ≤ 1 := by
  rw [list6 h.cm.el, h.er 0 (by omega), h.er 1 (by omega), h.er 2 (by omega), h.er 3 (by omega), h.er 4 (by omega), h.er 5 (by omega)]
  exact uneven6 (by omega) (by omega) (by omega) (by omega) (by omega) (by omega)

variable {w w' w0 wr : World} {b : Nat} {s : FS} {N : Nat} {L : List (Nat × Obj)}
theorem among65535 (x : Int) (w : World) : Calls Try.prog 12 #[.int .i64 x, .int .i64 65535] w fun e w' => ∃ y : Int, e = .returned (.int .i64 y) ∧ (0 ≤ y ∧ y < 65535) ∧ w = w' := by
  refine (among_any x 65535 w (by omega) (by omega)).mono ?_
  rintro e w' ⟨rfl, rfl⟩
  exact ⟨_, rfl, amongI_lt x 65535 (by omega) (by omega), rfl⟩

set_option maxHeartbeats 4000000 in
/-- WearRounds walked. -/
theorem rounds_any (n : Int) (a : Option Addr) (m c : Nat) (l : List Int) (w : World) (hi : IntsAt w a m l) (hm : m ≤ maxLen) :
    Calls Try.prog 7 #[.int .i64 n, .slice a m c] w fun e w' => e = .returned (.bool true) ∧ Keeps [] w w' := by
  unfold maxLen at hm
  have HI := Lib.hid hi
  obtain ⟨T, hT⟩ : ∃ T : Nat, amongI n 30 = (T : Int) := Int.eq_ofNat_of_zero_le (amongI_lt n 30 (by omega) (by omega)).1
  have hT30 : T < 30 := by have := amongI_lt n 30 (by omega) (by omega); omega
  have HT : Hid (∀ wx, Calls Try.prog 12 #[.int .i64 n, .int .i64 30] wx fun e w' => e = .returned (.int .i64 (T : Int)) ∧ wx = w') :=
    Lib.hid (fun wx => by have h := among_any n 30 wx (by omega) (by omega); rwa [hT] at h)
  clear hi hT
  go_enter Try.func7, Try.ntmps7
  go_wp2_with fail
  refine (works_any _).mono ?_
  rintro e w1 ⟨rfl, k1⟩
  go_wp2_with fail
  refine (two_any _).mono ?_
  rintro e w2 ⟨rfl, k2⟩
  go_wp2_with fail
  refine (make_yes 3 2 16 _ (by decide +kernel)).mono ?_
  rintro e w3 ⟨b, rfl, hmd⟩
  have O3 := Lib.hid (Ob.of_made (k1.trans0 k2) hmd)
  clear k1 k2 hmd
  go_wp2_with fail
  go_loopw [7, 8] (fun vg vi wr => ∃ (i g : Nat) (s : FS), i ≤ T ∧ g = i % 3 ∧ vi = .int .i64 (i : Int) ∧ vg = .int .i64 (g : Int) ∧ Rd s i (34 * i) ∧ Ob w wr b s []) (fun _ vi _ => 30 - (intOf vi).toNat)
  case atStart => exact ⟨0, 0, _, Nat.zero_le _, rfl, rfl, rfl, Rd.start, O3.out⟩
  case round =>
    clear O3
    obtain ⟨i, g, s, hiT, hg, rfl, rfl, hR, hO⟩ := hrel
    have HR := Lib.hid hR
    have HO := Lib.hid hO
    have HG := Lib.hid hg
    have hg3 : g < 3 := by omega
    clear hR hO hg
    by_cases hlt : i < T
    · have hltI : (i : Int) < (T : Int) := by omega
      obtain ⟨c1, r1, r2, r3⟩ := HR.out.cm.clean hg3
      have hC := ob_clean HO.out HR.out.cm.good HR.out.cm.geo (g : Int) (by omega)
      rw [r1] at hC
      simp only at hC
      obtain ⟨r, hr⟩ : ∃ r, r = (cleanR s 3 2 (g : Int)).1 := ⟨_, rfl⟩
      rw [← hr] at hC
      have HCl := Lib.hid hC
      have HC1 := Lib.hid c1
      obtain ⟨u, hu⟩ : ∃ u : Nat, u = 32 * g := ⟨_, rfl⟩
      obtain ⟨u2, hu2⟩ : ∃ u2 : Nat, u2 = 32 * g + 31 := ⟨_, rfl⟩
      have hm1 : (32 : Int) * (g : Int) = (u : Int) := by omega
      have hm2 : (u : Int) + 31 = (u2 : Int) := by omega
      have hub : u2 ≤ 96 := by omega
      have HU := Lib.hid (And.intro hu hu2)
      have hN : Hid (∀ wx, Calls Try.prog 31 #[.int .i64 3, .int .i64 (g : Int)] wx fun e w' => e = .returned (.tuple #[.int .i64 (((i + 1) % 3 : Nat) : Int), .int .i64 0]) ∧ wx = w') := by
        refine Lib.hid (fun wx => ?_)
        have h := Next_any 3 (g : Int) wx (by unfold I64; omega) (by unfold I64; omega)
        have e : turnR 3 (g : Int) 1 = ((((i + 1) % 3 : Nat) : Int), 0) := by
          have hG := HG.out
          have hc : (g = 0 ∧ (i + 1) % 3 = 1) ∨ (g = 1 ∧ (i + 1) % 3 = 2) ∨ (g = 2 ∧ (i + 1) % 3 = 0) := by omega
          rcases hc with ⟨rfl, hh⟩ | ⟨rfl, hh⟩ | ⟨rfl, hh⟩
          · rw [hh]; decide +kernel
          · rw [hh]; decide +kernel
          · rw [hh]; decide +kernel
        rw [e] at h
        exact h
      clear c1 r1 r2 r3 hC hr hu hu2
      go_wp2_with (go_at_call 12; refine (HT.out _).mono ?_; rintro e w' ⟨rfl, rfl⟩)
      refine HCl.out.mono ?_
      rintro e w4 ⟨rfl, hO4⟩
      have HO4 := Lib.hid hO4
      clear hO4
      go_upto_if 40 with fail
      go_cut [11] (fun vy wx => ∃ y : Int, vy = .int .i64 y ∧ (0 ≤ y ∧ y < 65535) ∧ wx = w4)
      case first =>
        by_cases hlm : i < m
        · have hlmI : (i : Int) < (m : Int) := by omega
          obtain ⟨pb, po, rfl, gx⟩ := list_cell HI.out HO4.out.k0 hlm
          go_wp2_with fail
          refine (among65535 _ _).mono ?_
          rintro e w5 ⟨y, rfl, hy, rfl⟩
          go_wp2_with fail
          go_meet
          exact ⟨y, rfl, hy, rfl⟩
        · go_wp2_with fail
          go_meet
          exact ⟨0, rfl, by omega, rfl⟩
      case rest =>
      obtain ⟨y, rfl, hy, rfl⟩ := hcut
      have HS := Lib.hid (HR.out.step HG.out hy)
      rw [← HU.out.2, ← HU.out.1] at HS
      have p1 := HC1.out.prog (q := u) (by rw [HU.out.1]; omega) (show 0 ≤ y ∧ y ≤ 65535 by omega)
      have e1 := (prog_calm (s := s.grpP g) (q := u) (x := y) (by rw [HC1.out.cut]; omega) HC1.out.off (by rw [HC1.out.wl, HU.out.1]; omega) (by omega)).1
      obtain ⟨t1, ht1⟩ : ∃ t1, t1 = ((s.grpP g).prog (u : Int) [y]).2 := ⟨_, rfl⟩
      rw [← ht1] at p1 HS
      have e2 := (prog_calm (s := t1) (q := u2) (x := y) (by rw [p1.cut]; omega) p1.off (by rw [p1.wl, HU.out.2]; omega) (by omega)).1
      have q1 := ob_prog HO4.out HC1.out.good (u : Int) y (by omega)
      rw [e1, ← ht1] at q1
      have Q1 := Lib.hid q1
      have P1 := Lib.hid p1
      have E2 := Lib.hid e2
      clear ht1 e1 e2 q1 p1
      go_wp2_with fail
      refine Q1.out.mono ?_
      rintro e w5 ⟨rfl, hO5⟩
      have q2 := ob_prog hO5 P1.out.good (u2 : Int) y (by omega)
      rw [E2.out] at q2
      obtain ⟨t2, ht2⟩ : ∃ t2, t2 = (t1.prog (u2 : Int) [y]).2 := ⟨_, rfl⟩
      rw [← ht2] at q2 HS
      have Q2 := Lib.hid q2
      clear ht2 q2 hO5
      go_wp2_with fail
      refine Q2.out.mono ?_
      rintro e w6 ⟨rfl, hO6⟩
      have HO6 := Lib.hid hO6
      clear hO6
      go_wp2_with fail
      refine (ob_counts HO6.out HS.out.cm.geo).mono ?_
      rintro e w7 ⟨v, rfl, pa, pc, rfl, pi, p2, p3, -, k7⟩
      have HO7 := Lib.hid (HO6.out.keep k7)
      have hev := HS.out.even (by omega)
      have HUn := Lib.hid (Uneven_any _ _ pc _ w7 pi (Nat.le_trans p2 p3))
      obtain ⟨z, hz⟩ : ∃ z, z = unevenR t2.er := ⟨_, rfl⟩
      rw [← hz] at hev HUn
      clear hz pi p2 p3 k7
      go_wp2_with fail
      refine HUn.out.mono ?_
      rintro e w8 ⟨rfl, rfl⟩
      go_wp2_with fail
      refine (hN.out _).mono ?_
      rintro e w8 ⟨rfl, rfl⟩
      go_wp2_with fail
      go_roundw
      case rel => exact ⟨i + 1, (i + 1) % 3, t2, by omega, rfl, by go_num, rfl, by rw [show 34 * (i + 1) = 34 * i + 34 by omega]; exact HS.out, HO7.out⟩
      case measure => simp [intOf]; omega
    · have hiT2 : i = T := by omega
      have hni : (T : Int) ≤ (i : Int) := by omega
      go_wp2_with (go_at_call 12; refine (HT.out _).mono ?_; rintro e w' ⟨rfl, rfl⟩)
      go_ret
      exact ⟨rfl, HO.out.k0⟩

end Go.Proofs.Ytcaphgokckkmfaa
