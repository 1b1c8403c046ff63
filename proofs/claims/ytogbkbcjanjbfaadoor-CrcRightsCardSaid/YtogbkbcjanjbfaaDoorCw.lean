/- CrcRights and CrcPieces walked. -/
import Derived.Test.YtogbkbcjanjbfaaDoorCv
namespace Go.Proofs.YtogbkbcjanjbfaaDoor
open Go.RowKit
set_option linter.unusedVariables false
variable {w w' : World} {F : List Nat}

theorem rightB_end (ys : List Int) : rightB (ys ++ [(crcI 65535 ys : Int)]) = true := by rw [rightB_snoc]; simp

set_option maxRecDepth 100000 in
set_option maxHeartbeats 1000000 in
theorem rights_any (a : Option Addr) (n c : Nat) (xs : List Int) (w : World) (ht : Turns w) (hi : IntsAt w a n xs) (hx64 : ∀ x ∈ xs, I64 x) (hn : n ≤ c) (hc : c ≤ maxLen) :
    Calls Tryd.prog 5 #[.slice a n c] w fun e w' => e = .returned (.bool true) ∧ Keeps [] w w' := by
  have hi2 := hi.take (k := min n 300) (by omega)
  have htk : xs.take (min n 300) = xs.take 300 := by
    rw [hi.1]
    by_cases h : xs.length ≤ 300
    · rw [List.take_of_length_le (by omega), List.take_of_length_le (by omega)]
    · rw [show min xs.length 300 = 300 by omega]
  rw [htk] at hi2
  have hl2 := few_in hx64
  obtain ⟨ys, hys⟩ : ∃ ys, ys = xs.take 300 := ⟨_, rfl⟩
  rw [← hys] at hi2 hl2
  obtain ⟨n1, hk⟩ : ∃ k, k = min n 300 := ⟨_, rfl⟩
  rw [← hk] at hi2
  have hk3 : n1 ≤ 300 := by omega
  have hkc : n1 ≤ c := by omega
  have hkl := hi2.1
  have hyl : ys.length ≤ 300 := by omega
  obtain ⟨S, hS⟩ : ∃ S : Int, S = crcI 65535 ys := ⟨_, rfl⟩
  have hrb : rightB (ys ++ [S]) = true := by rw [hS]; exact rightB_end ys
  have HS := Lib.hid hS
  have HRB := Lib.hid hrb
  have HK := Lib.hid hk
  have HI := Lib.hid hi2
  have HL := Lib.hid hl2
  have HT := Lib.hid ht
  have HN1 := Lib.hid hkl
  clear hi hi2 hl2 hx64 ht htk hys hk hkl hS hrb
  obtain ⟨i0, hi, hz0, hz1, hz2⟩ := info_parts Tryd.info3
  go_enter Tryd.func5, Tryd.ntmps5
  go_wp2_with fail
  refine (few_any a n c _ hn hc).mono ?_
  rintro e w' ⟨rfl, rfl⟩
  rw [← HK.out]
  go_wp2_with fail
  refine (ints_any a n1 c ys _ HI.out (by omega)).mono ?_
  rintro e w1 ⟨v, rfl, g, c1, rfl, hg, hA, k1⟩
  rw [← HN1.out]
  have HA := Lib.hid hA
  have hAc := hA.le
  have hAm := hA.cm
  clear hA
  go_wp2_with fail
  refine (right_any _ n1 c1 ys _ (HT.out.keep k1) (by rw [HN1.out]; exact HA.out.ints) (by have := HN1.out; omega) hAm).mono ?_
  rintro e w' ⟨rfl, m, rfl⟩
  have k2 := k1.drewN m
  go_wp2_with fail
  refine (refRight_any _ n1 c ys _ (HI.out.keep0 k2) HL.out hkc hc).mono ?_
  rintro e w' ⟨rfl, m', rfl⟩
  have k3 := k1.drewN (m + m')
  go_wp2_with fail
  refine (ints_any a n1 c ys _ (HI.out.keep0 k3) (by omega)).mono ?_
  rintro e w4 ⟨v, rfl, g4, c4, rfl, hg4, hA4, k4⟩
  rw [← HN1.out]
  have k04 := k3.trans0 k4
  go_wp2_with fail
  refine (of_any _ n1 _ ys _ (HT.out.keep k04) (HI.out.keep0 k04) (by unfold maxLen; omega)).mono ?_
  rintro e w' ⟨he, rfl⟩
  rw [← HS.out] at he
  subst he
  have hs3 := k3.size
  have hs4 := k4.size
  have hO4 := Lib.hid (ownsRow_keep (F := []) (hA4.own (base := w.heap.size) (by omega) n1 HN1.out) ((Keeps.refl _ _).alloc (.cells #[.int .i64 S] 3)) (by simp))
  go_wp2_with (at_builtin; refine wpList_append_guarded _ rfl (.tmp 13) (.tmp 16) 22 rfl w.heap.size 3 i0 (.int .i64 0) 1 8 Tryd.underlying22 hi hz0 hz1 hz2 rfl (by decide) (.slice (some ⟨g4, 0, none⟩) n1 c4) n1 _ rfl hO4.out ⟨w4.heap.size, 0, none⟩ 1 1 [.int .i64 S] rfl rfl (cell_one_new _ _ _) (by simp [Value.oneCell']) (by unfold maxLen; omega) (by omega) (by simp; omega) ?_; intro v' w5 q1 q2 q3 q4)
  obtain ⟨g5, c5, rfl, hg5, hA5⟩ := snoc_own HN1.out.symm q1 (fun e => absurd (q3.1 e).2 (by omega))
  have k05 : Keeps [] w w5 := (k04.alloc _).grown q2 (by intro k e; injection e with e; subst e; right; have hh : w.heap.size ≤ g4 := (by omega); exact hh)
  clear q1 q2 q3 q4 hO4 k4 hA4 hs4
  have HA5 := Lib.hid hA5
  have hA5c := hA5.le
  have hA5m := hA5.cm
  have hl5 : n1 + 1 = (ys ++ [S]).length := by rw [HN1.out]; simp
  have HL5 := Lib.hid hl5
  have hlc : n1 + 1 ≤ c5 := by omega
  clear hA5 hl5 hA5c
  go_wp2_with fail
  refine (right_any _ (n1 + 1) c5 (ys ++ [S]) _ (HT.out.keep k05) (by rw [HL5.out]; exact HA5.out.ints) hlc hA5m).mono ?_
  rintro e w' ⟨he, m2, rfl⟩
  rw [HRB.out] at he
  subst he
  go_wp2_with fail
  refine (works_any _ ((HT.out.keep k05).drewN _)).mono ?_
  rintro e w6 ⟨rfl, k6⟩
  go_wp2_with fail
  go_ret
  exact ⟨rfl, (k05.drewN _).trans0 k6⟩
theorem crcI_append (s : Int) (xs ys : List Int) : crcI s (xs ++ ys) = crcI (crcI s xs) ys := by
  have h : lo (crcI s xs : Int) = crcI s xs := lo_nat crc_le
  have h2 : crcI (crcI s xs) ys = CM.crc (lo (crcI s xs : Int)) (ys.map lo) := rfl
  rw [h2, h]
  unfold crcI
  rw [List.map_append, CM.crc_append]
theorem take_piece (ys : List Int) {d k : Nat} (h : d ≤ k) : ys.take k = ys.take d ++ (ys.drop d).take (k - d) := by
  rw [← List.take_append_drop d (ys.take k), List.take_take, Nat.min_eq_left h, List.drop_take]
theorem crc_piece (ys : List Int) {d k : Nat} (h : d ≤ k) : crcI (crcI 65535 (ys.take d)) ((ys.drop d).take (k - d)) = crcI 65535 (ys.take k) := by
  rw [take_piece ys h, crcI_append]

set_option maxRecDepth 100000 in
set_option maxHeartbeats 2000000 in
theorem pieces_any (a : Option Addr) (n c : Nat) (xs : List Int) (a1 : Option Addr) (m1 c1 : Nat) (qs : List Int) (w : World) (ht : Turns w) (hi : IntsAt w a n xs) (hn : n ≤ c) (hc : c ≤ maxLen) (hq : IntsAt w a1 m1 qs) (hm : m1 ≤ maxLen) :
    Calls Tryd.prog 6 #[.slice a n c, .slice a1 m1 c1] w fun e w' => e = .returned (.bool true) ∧ Keeps [] w w' := by
  have hi2 := hi.take (k := min n 300) (by omega)
  have htk : xs.take (min n 300) = xs.take 300 := by
    rw [hi.1]
    by_cases h : xs.length ≤ 300
    · rw [List.take_of_length_le (by omega), List.take_of_length_le (by omega)]
    · rw [show min xs.length 300 = 300 by omega]
  rw [htk] at hi2
  obtain ⟨ys, hys⟩ : ∃ ys, ys = xs.take 300 := ⟨_, rfl⟩
  rw [← hys] at hi2
  obtain ⟨n1, hk⟩ : ∃ k, k = min n 300 := ⟨_, rfl⟩
  rw [← hk] at hi2
  have hk3 : n1 ≤ 300 := by omega
  have hkc : n1 ≤ c := by omega
  have hkl := hi2.1
  have hcm := hc
  unfold maxLen at hcm hm
  have HK := Lib.hid hk
  have HI := Lib.hid hi2
  have HT := Lib.hid ht
  have HN1 := Lib.hid hkl
  have HQ := Lib.hid hq
  have HQL := Lib.hid (show qs.length = m1 from hq.1.symm)
  clear hi hi2 ht htk hys hk hkl hq
  go_enter Tryd.func6, Tryd.ntmps6
  go_wp2_with fail
  refine (works_any _ HT.out).mono ?_
  rintro e w0 ⟨rfl, k0⟩
  go_wp2_with fail
  refine (few_any a n c _ hn hc).mono ?_
  rintro e w' ⟨rfl, rfl⟩
  rw [← HK.out]
  have HT0 := Lib.hid (HT.out.keep k0)
  have HI0 := Lib.hid (HI.out.keep0 k0)
  have HQ0 := Lib.hid (HQ.out.keep0 k0)
  clear HT HI HQ
  go_wp2_with fail
  go_loop [5, 6, 7, 8] (fun vs vd vi _ => ∃ i d : Nat, i ≤ m1 ∧ d ≤ n1 ∧ vi = .int .i64 i ∧ vd = .int .i64 d ∧ vs = .int .i64 (crcI 65535 (ys.take d))) (fun _ _ vi _ => m1 - (intOf vi).toNat)
  case atStart => exact ⟨0, 0, Nat.zero_le _, Nat.zero_le _, rfl, rfl, by rw [List.take_zero, wk_b]; rfl⟩
  case round =>
    obtain ⟨i, d, hi, hd, rfl, rfl, rfl⟩ := hrel
    obtain ⟨S, hS⟩ : ∃ S : Int, S = crcI 65535 (ys.take d) := ⟨_, rfl⟩
    rw [← hS]
    have HS := Lib.hid hS
    clear hS
    by_cases hboth : i < m1 ∧ i < 30
    · obtain ⟨hlt, hlt2⟩ := hboth
      have hix : i < qs.length := by rw [HQL.out]; exact hlt
      rcases a1 with _ | ⟨lb, lo', ls⟩
      · have := HQ0.out.2.1 rfl; rw [this] at hix; simp at hix
      obtain ⟨rfl, hlc⟩ := HQ0.out.2.2 lb lo' ls rfl (List.ne_nil_of_length_pos (by omega))
      have hx := hlc i hix
      obtain ⟨x, ex⟩ : ∃ x, x = qs.getD i 0 := ⟨_, rfl⟩
      rw [← ex] at hx
      have hr := amongI_lt x ((n1 : Int) - d + 1) (by omega) (by omega)
      obtain ⟨q, hq⟩ := Int.eq_ofNat_of_zero_le hr.1
      have HQQ := Lib.hid hq
      rw [hq] at hr
      clear hlc ex hq hix
      go_wp2_with fail
      refine (among_any _ _ _ (by omega) (by omega)).mono ?_
      rintro e w' ⟨he, rfl⟩
      rw [HQQ.out] at he
      subst he
      have hfin : ((crcI S ((ys.drop d).take q) : Nat) : Int) = crcI 65535 (ys.take (d + q)) := by
        rw [HS.out]
        have := crc_piece ys (d := d) (k := d + q) (by omega)
        rw [show d + q - d = q by omega] at this
        rw [this]
      have HF := Lib.hid hfin
      clear hfin
      by_cases hcap : d < c
      · go_wp2_with fail
        refine (on_any S _ q _ ((ys.drop d).take q) _ HT0.out ((HI0.out.drop_map hd).take (by omega)) (by unfold maxLen; omega)).mono ?_
        rintro e w' ⟨he, rfl⟩
        rw [HF.out] at he
        subst he
        go_wp2_with fail
        go_round
        case rel => exact ⟨i + 1, d + q, by omega, by omega, by go_num, by go_num, rfl⟩
        case measure => simp [intOf]; omega
      · have hdc : d = c := by omega
        subst hdc
        have hq0 : q = 0 := by omega
        have HQ1 := Lib.hid hq0
        clear hq0
        go_wp2_with fail
        refine (on_any S _ q _ ((ys.drop d).take q) _ HT0.out (by rw [HQ1.out, List.take_zero]; exact IntsAt.nil _) (by unfold maxLen; omega)).mono ?_
        rintro e w' ⟨he, rfl⟩
        rw [HF.out] at he
        subst he
        go_wp2_with fail
        go_round
        case rel => exact ⟨i + 1, d + q, by omega, by omega, by go_num, by go_num, rfl⟩
        case measure => simp [intOf]; omega
    · have hfin : ((crcI S (ys.drop d) : Nat) : Int) = crcI 65535 ys := by
        rw [HS.out, ← crcI_append, List.take_append_drop]
      have HF := Lib.hid hfin
      clear hfin
      by_cases hlt : i < m1
      all_goals
        try have hlt2 : ¬ i < 30 := fun h => hboth ⟨hlt, h⟩
        clear hboth
        by_cases hcap : d < c
        · go_wp2_with fail
          refine (on_any S _ _ _ (ys.drop d) _ HT0.out (HI0.out.drop_map hd) (by unfold maxLen; omega)).mono ?_
          rintro e w' ⟨he, rfl⟩
          rw [HF.out] at he
          subst he
          go_wp2_with fail
          refine (of_any _ _ _ ys _ HT0.out HI0.out (by unfold maxLen; omega)).mono ?_
          rintro e w' ⟨rfl, rfl⟩
          go_wp2_with fail
          go_ret
          exact ⟨rfl, k0⟩
        · have hz : n1 - d = 0 := by omega
          have hdr : ys.drop d = [] := List.drop_eq_nil_of_le (by have := HN1.out; omega)
          have HD := Lib.hid hdr
          clear hdr
          go_wp2_with fail
          refine (on_any S _ _ _ (ys.drop d) _ HT0.out (by rw [HD.out]; exact IntsAt.nil _) (by unfold maxLen; omega)).mono ?_
          rintro e w' ⟨he, rfl⟩
          rw [HF.out] at he
          subst he
          go_wp2_with fail
          refine (of_any _ _ _ ys _ HT0.out HI0.out (by unfold maxLen; omega)).mono ?_
          rintro e w' ⟨rfl, rfl⟩
          go_wp2_with fail
          go_ret
          exact ⟨rfl, k0⟩
end Go.Proofs.YtogbkbcjanjbfaaDoor
