/- The document's own Put and Get: contracts, for any k. -/
import Derived.Test.YtfmegladcjcjgaaPe
namespace Go.Proofs.Ytfmegladcjcjgaa
open Go.RowKit
set_option linter.unusedVariables false

theorem refPut_no (k : Int) (s : Bool) (v : Value) (w : World) (h : ¬ (1 ≤ k ∧ k ≤ 4)) :
    Calls Try.prog 11 #[.int .i64 k, v, .bool s] w fun e w' => e = .returned (.tuple #[.slice none 0 0, .int .i64 2]) ∧ w = w' := by
  by_cases h1 : k < 1
  · clear h
    go_enter Try.func11, Try.ntmps11
    go_wp2_with fail
    go_ret2
    exact ⟨rfl, rfl⟩
  · have h2 : 4 < k := by omega
    have h3 : decide (k < 1) = false := by simpa using h1
    clear h h1
    go_enter Try.func11, Try.ntmps11
    go_wp2_with fail
    go_ret2
    exact ⟨rfl, rfl⟩
theorem refPut_any (k : Int) (s : Bool) (a : Option Addr) (n c : Nat) (xs : List Int) (w : World) (hi : IntsAt w a n xs) (hx64 : ∀ x ∈ xs, I64 x) (hn : n ≤ 1000) :
    Calls Try.prog 11 #[.int .i64 k, .slice a n c, .bool s] w fun e w' => Out w w' (putR k s xs) e := by
  by_cases h : 1 ≤ k ∧ k ≤ 4
  · obtain ⟨j, rfl⟩ := Int.eq_ofNat_of_zero_le (show 0 ≤ k by omega)
    exact refPut_yes j s a n c xs w (by omega) (by omega) hi hx64 hn
  · rw [putR_no h]
    refine (refPut_no k s _ w h).mono ?_
    rintro e w' ⟨rfl, rfl⟩
    exact Out.of_nil (Keeps.refl _ _)
theorem refGet_no (k : Int) (s : Bool) (v : Value) (w : World) (h : ¬ (1 ≤ k ∧ k ≤ 4)) :
    Calls Try.prog 16 #[.int .i64 k, v, .bool s] w fun e w' => e = .returned (.tuple #[.int .i64 0, .int .i64 2]) ∧ w = w' := by
  by_cases h1 : k < 1
  · clear h
    go_enter Try.func16, Try.ntmps16
    go_wp2_with fail
    go_ret2
    exact ⟨rfl, rfl⟩
  · have h2 : 4 < k := by omega
    have h3 : decide (k < 1) = false := by simpa using h1
    clear h h1
    go_enter Try.func16, Try.ntmps16
    go_wp2_with fail
    go_ret2
    exact ⟨rfl, rfl⟩
theorem getR_word {k : Nat} {s : Bool} {xs : List Int} {i : Nat} (h1 : 1 ≤ k) (h4 : k ≤ 4) (hi : i < k) (hx : i < xs.length) (h : ¬ (0 ≤ xs.getD i 0 ∧ xs.getD i 0 ≤ 65535)) : getR k s xs = (2, 0) := by
  unfold getR
  rw [if_neg (by omega), Int.toNat_natCast, if_pos]
  intro hh
  refine h (hh _ ?_)
  have h1 : (xs.take k)[i]? = some (xs.getD i 0) := by
    rw [List.getElem?_take, if_pos hi]
    simp [List.getD, hx]
  exact List.mem_of_getElem? h1
theorem getR_short {k : Nat} {s : Bool} {xs : List Int} (h1 : 1 ≤ k) (h4 : k ≤ 4) (h : ∀ x ∈ xs, 0 ≤ x ∧ x ≤ 65535) (hl : xs.length < k) : getR k s xs = (7, 0) := by
  unfold getR
  rw [if_neg (by omega), Int.toNat_natCast, if_neg (fun hn => hn (fun x hx => h x (List.mem_of_mem_take hx))), if_pos hl]
theorem take_ok {xs : List Int} {i : Nat} (hx : i < xs.length) (h : ∀ x ∈ xs.take i, 0 ≤ x ∧ x ≤ 65535) (h2 : 0 ≤ xs.getD i 0 ∧ xs.getD i 0 ≤ 65535) : ∀ x ∈ xs.take (i + 1), 0 ≤ x ∧ x ≤ 65535 := by
  intro y hy
  rw [List.take_succ_eq_append_getElem hx, List.mem_append, List.mem_singleton] at hy
  rcases hy with hy | hy
  · exact h y hy
  · have e : xs[i] = xs.getD i 0 := by simp [List.getD, hx]
    rw [hy, e]; exact h2

set_option maxHeartbeats 4000000 in
set_option maxRecDepth 100000 in
theorem refGet_yes (k : Nat) (s : Bool) (a : Option Addr) (n c : Nat) (xs : List Int) (w : World) (h1 : 1 ≤ k) (h4 : k ≤ 4) (hi : IntsAt w a n xs) (hn : n ≤ maxLen) :
    Calls Try.prog 16 #[.int .i64 k, .slice a n c, .bool s] w fun e w' => e = .returned (.tuple #[.int .i64 (getR k s xs).2, .int .i64 (getR k s xs).1]) ∧ w = w' := by
  unfold maxLen at hn
  have HI := Lib.hid hi
  have HLEN := Lib.hid (show n = xs.length from hi.1)
  have hk4 : decide (4 < (k : Int)) = false := by simp; omega
  clear hi
  obtain ⟨r1, hr1⟩ : ∃ r, r = (getR k s xs).1 := ⟨_, rfl⟩
  obtain ⟨r2, hr2⟩ : ∃ r, r = (getR k s xs).2 := ⟨_, rfl⟩
  rw [← hr1, ← hr2]
  have HR := Lib.hid (show getR k s xs = (r1, r2) by rw [hr1, hr2])
  clear hr1 hr2
  go_enter Try.func16, Try.ntmps16
  go_wp2_with fail
  go_loop [8] (fun vi => ∃ i : Nat, i ≤ n ∧ i ≤ k ∧ vi = .int .i64 i ∧ ∀ x ∈ xs.take i, 0 ≤ x ∧ x ≤ 65535) (fun vi => n - (intOf vi).toNat)
  case atStart => exact ⟨0, Nat.zero_le _, Nat.zero_le _, rfl, by simp⟩
  case round =>
    obtain ⟨i, hi, hik, rfl, hall⟩ := hrel
    have HALL := Lib.hid hall
    clear hall
    by_cases hlt : i < n
    · by_cases hltk : i < k
      · have hix : i < xs.length := by rw [← HLEN.out]; exact hlt
        rcases a with _ | ⟨lb, lo', ls⟩
        · have := HI.out.2.1 rfl; rw [this] at hix; simp at hix
        obtain ⟨rfl, hlc⟩ := HI.out.2.2 lb lo' ls rfl (List.ne_nil_of_length_pos (by omega))
        have hx := hlc i hix
        obtain ⟨x, ex⟩ : ∃ x, x = xs.getD i 0 := ⟨_, rfl⟩
        rw [← ex] at hx
        have EX := Lib.hid ex
        have HIX := Lib.hid hix
        clear hlc ex hix
        by_cases hx0 : x < 0
        · have hR := HR.out
          rw [getR_word h1 h4 hltk HIX.out (by rw [← EX.out]; omega)] at hR
          injection hR with e1 e2
          subst e1; subst e2
          go_wp2_with fail
          go_ret2
          exact ⟨rfl, rfl⟩
        · have hx0b : decide (x < 0) = false := by simpa using hx0
          by_cases hx1 : 65535 < x
          · have hR := HR.out
            rw [getR_word h1 h4 hltk HIX.out (by rw [← EX.out]; omega)] at hR
            injection hR with e1 e2
            subst e1; subst e2
            clear hx0
            go_wp2_with fail
            go_ret2
            exact ⟨rfl, rfl⟩
          · have hx1b : decide (65535 < x) = false := by simpa using hx1
            have hxb := Lib.hid (show 0 ≤ x ∧ x ≤ 65535 by omega)
            clear hx0 hx1
            go_wp2_with fail
            go_round
            case rel => exact ⟨i + 1, by omega, by omega, by go_num, take_ok HIX.out HALL.out (by rw [← EX.out]; exact hxb.out)⟩
            case measure => simp [intOf]; omega
      · have hik2 : i = k := by omega
        subst hik2
        have hil : i ≤ xs.length := by rw [← HLEN.out]; omega
        have HIL := Lib.hid hil
        clear hil
        go_wp2_with fail
        go_loop [9, 10] (fun vx vj => ∃ j : Nat, j ≤ i ∧ vj = .int .i64 j ∧ vx = .int .u64 (valL (xs.take j))) (fun _ vj => i - (intOf vj).toNat)
        case atStart => exact ⟨0, Nat.zero_le _, rfl, by simp [valL]⟩
        case round =>
          obtain ⟨j, hj, rfl, rfl⟩ := hrel
          have hvs := val_small HALL.out hj HIL.out
          have hfl := full_le (Nat.le_trans hj h4)
          obtain ⟨V, hV⟩ : ∃ V, V = valL (xs.take j) := ⟨_, rfl⟩
          rw [← hV] at hvs ⊢
          have HV := Lib.hid hV
          clear hV
          by_cases hjk : j < i
          · have hjx : j < xs.length := by have := HIL.out; omega
            rcases a with _ | ⟨lb, lo', ls⟩
            · have := HI.out.2.1 rfl; rw [this] at hjx; simp at hjx
            obtain ⟨rfl, hlc⟩ := HI.out.2.2 lb lo' ls rfl (List.ne_nil_of_length_pos (by omega))
            have hx := hlc j hjx
            have hxb := take_word HALL.out hjk HIL.out
            have hst := val_step hjx
            obtain ⟨x, ex⟩ : ∃ x, x = xs.getD j 0 := ⟨_, rfl⟩
            rw [← ex] at hx hxb hst
            rw [← HV.out] at hst
            have HST := Lib.hid hst
            have hV48 : V < 281474976710656 := by
              have hfi : fullN j ≤ 281474976710656 := by
                obtain rfl | rfl | rfl | rfl : j = 0 ∨ j = 1 ∨ j = 2 ∨ j = 3 := by omega
                all_goals decide
              omega
            have hV0 := hvs.1
            clear hlc ex hst hjx hvs hfl
            go_wp2_with fail
            go_round
            case rel => exact ⟨j + 1, by omega, by go_num, by rw [HST.out]⟩
            case measure => simp [intOf]; omega
          · have hji : j = i := by omega
            subst hji
            have hR := HR.out
            clear hfl
            by_cases h44 : j = 4
            · subst h44
              rw [full4] at hvs
              cases s
              · by_cases hm : 9223372036854775807 < V
                · rw [getR_long h1 h4 HALL.out HIL.out (by rw [← HV.out]; exact hm)] at hR
                  injection hR with e1 e2
                  subst e1; subst e2
                  have hw : wrap64 V = V - 18446744073709551616 := by unfold wrap64; omega
                  go_wp2_with fail
                  go_ret2
                  exact ⟨rfl, rfl⟩
                · rw [getR_false h1 h4 HALL.out HIL.out (by rw [← HV.out]; exact hm), ← HV.out] at hR
                  injection hR with e1 e2
                  subst e1; subst e2
                  have hm2 : V ≤ 9223372036854775807 := by omega
                  have hm3 : decide (V < 0) = false := by simp; omega
                  clear hm
                  go_wp2_with fail
                  go_ret2
                  exact ⟨rfl, rfl⟩
              · rw [getR_true h1 h4 HALL.out HIL.out, ← HV.out] at hR
                injection hR with e1 e2
                subst e1
                have E2 := Lib.hid e2
                clear e2
                go_wp2_with fail
                go_ret2
                refine ⟨?_, rfl⟩
                rw [← E2.out]
                simp only [keptS, full4, Array.getD]
                simp [wrap64]
            · have hj3 : j ≤ 3 := by omega
              have hj4' : ((j : Int) == 4) = false := by simp; omega
              have hfj : fullN j ≤ 281474976710656 := by
                obtain rfl | rfl | rfl : j = 1 ∨ j = 2 ∨ j = 3 := by omega
                all_goals decide
              cases s
              · rw [getR_false h1 h4 HALL.out HIL.out (by rw [← HV.out]; omega), ← HV.out] at hR
                injection hR with e1 e2
                subst e1; subst e2
                have hV1 : V < 281474976710656 := by omega
                have hV0 := hvs.1
                clear hvs hfj h44
                go_wp2_with fail
                go_ret2
                exact ⟨rfl, rfl⟩
              · rw [getR_true h1 h4 HALL.out HIL.out, ← HV.out] at hR
                injection hR with e1 e2
                subst e1
                have hkep : V < fullN j / 2 → keptS j V = V := by
                  intro hh
                  exact kept_in h1 ⟨by omega, hh⟩
                have hkep2 : ¬ V < fullN j / 2 → keptS j V = V - fullN j := by
                  intro hh
                  unfold keptS
                  obtain ⟨q, rfl⟩ : ∃ q, j = q + 1 := ⟨j - 1, by omega⟩
                  have h2 : fullN (q + 1) = 65536 * fullN q := rfl
                  have h3 := full_pos q
                  have e := ((Int.ediv_emod_unique (a := V + fullN (q + 1) / 2) (b := fullN (q + 1)) (r := V + fullN (q + 1) / 2 - fullN (q + 1)) (q := 1) (by omega)).2 ⟨by omega, by omega, by omega⟩).2
                  rw [e]
                  omega
                have hp := full_pos j
                obtain ⟨Fj, hFj⟩ : ∃ F, F = fullN j := ⟨_, rfl⟩
                rw [← hFj] at hvs hfj hkep hkep2 hp
                have HFJ := Lib.hid hFj
                have hV0 := hvs.1
                have hV1 := hvs.2
                clear hFj hvs h44
                by_cases hh : V < Fj / 2
                · have hk2 := hkep hh
                  rw [hk2] at e2
                  subst e2
                  have hh2 : decide (Fj / 2 ≤ V) = false := by simp; omega
                  clear hkep hkep2 hk2
                  go_wp2_with (go_at_call 31; refine (full_any j hj3 _).mono ?_; rintro e w' ⟨he, rfl⟩; rw [← HFJ.out] at he; subst he)
                  go_ret2
                  exact ⟨rfl, rfl⟩
                · have hk2 := hkep2 hh
                  rw [hk2] at e2
                  subst e2
                  have hh2 : decide (Fj / 2 ≤ V) = true := by simp; omega
                  clear hkep hkep2 hk2 hh
                  go_wp2_with (go_at_call 31; refine (full_any j hj3 _).mono ?_; rintro e w' ⟨he, rfl⟩; rw [← HFJ.out] at he; subst he)
                  go_ret2
                  exact ⟨rfl, rfl⟩
    · have hin : i = n := by omega
      by_cases hnk : n < k
      · have hR := HR.out
        have hall2 := HALL.out
        rw [List.take_of_length_le (by have := HLEN.out; omega)] at hall2
        rw [getR_short h1 h4 hall2 (by rw [← HLEN.out]; exact hnk)] at hR
        injection hR with e1 e2
        subst e1; subst e2
        subst hin
        clear hall2
        go_wp2_with fail
        go_ret2
        exact ⟨rfl, rfl⟩
      · have hik2 : i = k := by omega
        subst hik2
        clear hin
        have hil : i ≤ xs.length := by rw [← HLEN.out]; omega
        have HIL := Lib.hid hil
        clear hil
        go_wp2_with fail
        go_loop [9, 10] (fun vx vj => ∃ j : Nat, j ≤ i ∧ vj = .int .i64 j ∧ vx = .int .u64 (valL (xs.take j))) (fun _ vj => i - (intOf vj).toNat)
        case atStart => exact ⟨0, Nat.zero_le _, rfl, by simp [valL]⟩
        case round =>
          obtain ⟨j, hj, rfl, rfl⟩ := hrel
          have hvs := val_small HALL.out hj HIL.out
          have hfl := full_le (Nat.le_trans hj h4)
          obtain ⟨V, hV⟩ : ∃ V, V = valL (xs.take j) := ⟨_, rfl⟩
          rw [← hV] at hvs ⊢
          have HV := Lib.hid hV
          clear hV
          by_cases hjk : j < i
          · have hjx : j < xs.length := by have := HIL.out; omega
            rcases a with _ | ⟨lb, lo', ls⟩
            · have := HI.out.2.1 rfl; rw [this] at hjx; simp at hjx
            obtain ⟨rfl, hlc⟩ := HI.out.2.2 lb lo' ls rfl (List.ne_nil_of_length_pos (by omega))
            have hx := hlc j hjx
            have hxb := take_word HALL.out hjk HIL.out
            have hst := val_step hjx
            obtain ⟨x, ex⟩ : ∃ x, x = xs.getD j 0 := ⟨_, rfl⟩
            rw [← ex] at hx hxb hst
            rw [← HV.out] at hst
            have HST := Lib.hid hst
            have hV48 : V < 281474976710656 := by
              have hfi : fullN j ≤ 281474976710656 := by
                obtain rfl | rfl | rfl | rfl : j = 0 ∨ j = 1 ∨ j = 2 ∨ j = 3 := by omega
                all_goals decide
              omega
            have hV0 := hvs.1
            clear hlc ex hst hjx hvs hfl
            go_wp2_with fail
            go_round
            case rel => exact ⟨j + 1, by omega, by go_num, by rw [HST.out]⟩
            case measure => simp [intOf]; omega
          · have hji : j = i := by omega
            subst hji
            have hR := HR.out
            clear hfl
            by_cases h44 : j = 4
            · subst h44
              rw [full4] at hvs
              cases s
              · by_cases hm : 9223372036854775807 < V
                · rw [getR_long h1 h4 HALL.out HIL.out (by rw [← HV.out]; exact hm)] at hR
                  injection hR with e1 e2
                  subst e1; subst e2
                  have hw : wrap64 V = V - 18446744073709551616 := by unfold wrap64; omega
                  go_wp2_with fail
                  go_ret2
                  exact ⟨rfl, rfl⟩
                · rw [getR_false h1 h4 HALL.out HIL.out (by rw [← HV.out]; exact hm), ← HV.out] at hR
                  injection hR with e1 e2
                  subst e1; subst e2
                  have hm2 : V ≤ 9223372036854775807 := by omega
                  have hm3 : decide (V < 0) = false := by simp; omega
                  clear hm
                  go_wp2_with fail
                  go_ret2
                  exact ⟨rfl, rfl⟩
              · rw [getR_true h1 h4 HALL.out HIL.out, ← HV.out] at hR
                injection hR with e1 e2
                subst e1
                have E2 := Lib.hid e2
                clear e2
                go_wp2_with fail
                go_ret2
                refine ⟨?_, rfl⟩
                rw [← E2.out]
                simp only [keptS, full4, Array.getD]
                simp [wrap64]
            · have hj3 : j ≤ 3 := by omega
              have hj4' : ((j : Int) == 4) = false := by simp; omega
              have hfj : fullN j ≤ 281474976710656 := by
                obtain rfl | rfl | rfl : j = 1 ∨ j = 2 ∨ j = 3 := by omega
                all_goals decide
              cases s
              · rw [getR_false h1 h4 HALL.out HIL.out (by rw [← HV.out]; omega), ← HV.out] at hR
                injection hR with e1 e2
                subst e1; subst e2
                have hV1 : V < 281474976710656 := by omega
                have hV0 := hvs.1
                clear hvs hfj h44
                go_wp2_with fail
                go_ret2
                exact ⟨rfl, rfl⟩
              · rw [getR_true h1 h4 HALL.out HIL.out, ← HV.out] at hR
                injection hR with e1 e2
                subst e1
                have hkep : V < fullN j / 2 → keptS j V = V := by
                  intro hh
                  exact kept_in h1 ⟨by omega, hh⟩
                have hkep2 : ¬ V < fullN j / 2 → keptS j V = V - fullN j := by
                  intro hh
                  unfold keptS
                  obtain ⟨q, rfl⟩ : ∃ q, j = q + 1 := ⟨j - 1, by omega⟩
                  have h2 : fullN (q + 1) = 65536 * fullN q := rfl
                  have h3 := full_pos q
                  have e := ((Int.ediv_emod_unique (a := V + fullN (q + 1) / 2) (b := fullN (q + 1)) (r := V + fullN (q + 1) / 2 - fullN (q + 1)) (q := 1) (by omega)).2 ⟨by omega, by omega, by omega⟩).2
                  rw [e]
                  omega
                have hp := full_pos j
                obtain ⟨Fj, hFj⟩ : ∃ F, F = fullN j := ⟨_, rfl⟩
                rw [← hFj] at hvs hfj hkep hkep2 hp
                have HFJ := Lib.hid hFj
                have hV0 := hvs.1
                have hV1 := hvs.2
                clear hFj hvs h44
                by_cases hh : V < Fj / 2
                · have hk2 := hkep hh
                  rw [hk2] at e2
                  subst e2
                  have hh2 : decide (Fj / 2 ≤ V) = false := by simp; omega
                  clear hkep hkep2 hk2
                  go_wp2_with (go_at_call 31; refine (full_any j hj3 _).mono ?_; rintro e w' ⟨he, rfl⟩; rw [← HFJ.out] at he; subst he)
                  go_ret2
                  exact ⟨rfl, rfl⟩
                · have hk2 := hkep2 hh
                  rw [hk2] at e2
                  subst e2
                  have hh2 : decide (Fj / 2 ≤ V) = true := by simp; omega
                  clear hkep hkep2 hk2 hh
                  go_wp2_with (go_at_call 31; refine (full_any j hj3 _).mono ?_; rintro e w' ⟨he, rfl⟩; rw [← HFJ.out] at he; subst he)
                  go_ret2
                  exact ⟨rfl, rfl⟩
theorem refGet_any (k : Int) (s : Bool) (a : Option Addr) (n c : Nat) (xs : List Int) (w : World) (hi : IntsAt w a n xs) (hn : n ≤ maxLen) :
    Calls Try.prog 16 #[.int .i64 k, .slice a n c, .bool s] w fun e w' => e = .returned (.tuple #[.int .i64 (getR k s xs).2, .int .i64 (getR k s xs).1]) ∧ w = w' := by
  by_cases h : 1 ≤ k ∧ k ≤ 4
  · obtain ⟨j, rfl⟩ := Int.eq_ofNat_of_zero_le (show 0 ≤ k by omega)
    exact refGet_yes j s a n c xs w (by omega) (by omega) hi hn
  · rw [getR_no h]
    exact refGet_no k s _ w h
end Go.Proofs.Ytfmegladcjcjgaa
