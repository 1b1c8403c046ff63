/- The document's own fields: power, may, Size: contracts. -/
import Derived.Test.YtfmegladcjcjgaaPi
namespace Go.Proofs.Ytfmegladcjcjgaa
open Go.RowKit
set_option linter.unusedVariables false

theorem power_any (k : Nat) (Q : Int) (hQ : Q = P2 k) (h : k ≤ 16) (w : World) : Calls Try.prog 39 #[.int .i64 k] w fun e w' => e = .returned (.int .i64 Q) ∧ w = w' := by
  have HQ := Lib.hid hQ
  clear hQ
  go_enter Try.func39, Try.ntmps39
  go_wp2
  go_loop [3, 4] (fun vn vi => ∃ i : Nat, i ≤ k ∧ vi = .int .i64 i ∧ vn = .int .i64 (P2 i)) (fun _ vi => k - (intOf vi).toNat)
  case atStart => exact ⟨0, Nat.zero_le _, rfl, rfl⟩
  case round =>
    obtain ⟨i, hi, rfl, rfl⟩ := hrel
    have hb := P2_le (j := i) (by omega)
    have hb0 := P2_pos i
    obtain ⟨F, hF⟩ : ∃ F, F = P2 i := ⟨_, rfl⟩
    rw [← hF] at hb hb0 ⊢
    have HF := Lib.hid hF
    clear hF
    by_cases hlt : i < k
    · go_wp2
      go_round
      case rel => exact ⟨i + 1, by omega, by go_num, by rw [HF.out]; rfl⟩
      case measure => simp [intOf]; omega
    · have hik : i = k := by omega
      have HIK := Lib.hid hik
      clear hik
      go_wp2
      go_ret
      exact ⟨by rw [HF.out, HIK.out, HQ.out]; rfl, rfl⟩

set_option maxHeartbeats 1000000 in
theorem may_any (a : Option Addr) (n c : Nat) (ws : List Int) (w : World) (hi : IntsAt w a n ws) (hn : n ≤ 1000000) (h256 : n ≤ 256) :
    Calls Try.prog 38 #[.slice a n c] w fun e w' => e = .returned (.int .i64 (mayC ws)) ∧ w = w' := by
  have HI := Lib.hid hi
  have HLEN := Lib.hid (show n = ws.length from hi.1)
  clear hi
  obtain ⟨R, hR⟩ : ∃ R : Int, R = (mayC ws) := ⟨_, rfl⟩
  rw [← hR]
  have HR := Lib.hid hR
  clear hR
  go_enter Try.func38, Try.ntmps38
  go_wp2_with fail
  go_loop [3] (fun vi => ∃ i : Nat, i ≤ n ∧ vi = .int .i64 i ∧ okW (ws.take i)) (fun vi => n - (intOf vi).toNat)
  case atStart => exact ⟨0, Nat.zero_le _, rfl, (by intro x hx; simp at hx)⟩
  case round =>
    obtain ⟨i, hi, rfl, hok⟩ := hrel
    have HOK := Lib.hid hok
    clear hok
    by_cases hlt : i < n
    · have hix : i < ws.length := by rw [← HLEN.out]; exact hlt
      rcases a with _ | ⟨lb, lo', ls⟩
      · have := HI.out.2.1 rfl; rw [this] at hix; simp at hix
      obtain ⟨rfl, hlc⟩ := HI.out.2.2 lb lo' ls rfl (List.ne_nil_of_length_pos (by omega))
      have hx := hlc i hix
      obtain ⟨x, ex⟩ : ∃ x, x = ws.getD i 0 := ⟨_, rfl⟩
      rw [← ex] at hx
      have EX := Lib.hid ex
      have HIX := Lib.hid hix
      clear hlc ex hix
      by_cases hx0 : x < 1
      · have hbad : ¬ okW ws := by
          intro hh
          have := hh _ (getD_mem HIX.out)
          rw [← EX.out] at this
          omega
        have hBAD : mayC ws = 2 := by unfold mayC; rw [if_neg (by rw [← HLEN.out]; omega), if_neg hbad]
        have HBAD := Lib.hid hBAD
        clear hBAD hbad
        go_wp2_with fail
        go_ret
        exact ⟨by rw [HR.out, HBAD.out]; rfl, rfl⟩
      · have hx0b : decide (x < 1) = false := by simpa using hx0
        by_cases hx1 : 16 < x
        · have hbad : ¬ okW ws := by
            intro hh
            have := hh _ (getD_mem HIX.out)
            rw [← EX.out] at this
            omega
          have hBAD : mayC ws = 2 := by unfold mayC; rw [if_neg (by rw [← HLEN.out]; omega), if_neg hbad]
          have HBAD := Lib.hid hBAD
          clear hBAD hbad
          clear hx0
          go_wp2_with fail
          go_ret
          exact ⟨by rw [HR.out, HBAD.out]; rfl, rfl⟩
        · have hx1b : decide (16 < x) = false := by simpa using hx1
          have hok2 : okW (ws.take (i + 1)) := by
            rw [take_snoc HIX.out, ← EX.out]
            intro y hy
            rw [List.mem_append, List.mem_singleton] at hy
            rcases hy with hy | hy
            · exact HOK.out y hy
            · rw [hy]; omega
          have HOK2 := Lib.hid hok2
          have HXB := Lib.hid (show 1 ≤ x ∧ x ≤ 16 by omega)
          have hxl : 1 ≤ x := by omega
          have hxu : x ≤ 16 := by omega
          clear hok2 hx0 hx1
          go_wp2_with fail
          go_round
          case rel => exact ⟨i + 1, by omega, by go_num, HOK2.out⟩
          case measure => simp [intOf]; omega
    · have hfin : ws.take i = ws := List.take_of_length_le (by have := HLEN.out; omega)
      have hok := HOK.out
      rw [hfin] at hok
      have hFIN : mayC ws = 0 := by unfold mayC; rw [if_neg (by rw [← HLEN.out]; omega), if_pos hok]
      have HFIN := Lib.hid hFIN
      clear hFIN hok hfin
      go_wp2_with fail
      go_ret
      exact ⟨by rw [HR.out, HFIN.out]; rfl, rfl⟩
theorem May_any (a : Option Addr) (n c : Nat) (ws : List Int) (w : World) (hi : IntsAt w a n ws) (hn : n ≤ 1000000) :
    Calls Try.prog 38 #[.slice a n c] w fun e w' => e = .returned (.int .i64 (mayC ws)) ∧ w = w' := by
  by_cases h : n ≤ 256
  · exact may_any a n c ws w hi hn h
  · have e1 : mayC ws = 3 := by unfold mayC; rw [if_pos (by have := hi.1; omega)]
    rw [e1]
    clear e1 hi
    go_enter Try.func38, Try.ntmps38
    go_wp2_with fail
    go_ret
    exact ⟨rfl, rfl⟩

set_option maxHeartbeats 1000000 in
theorem refSize_any (a : Option Addr) (n c : Nat) (ws : List Int) (w : World) (hi : IntsAt w a n ws) (hn : n ≤ 1000000) :
    Calls Try.prog 23 #[.slice a n c] w fun e w' => e = .returned (.int .i64 ((sizeR ws : Nat) : Int)) ∧ w = w' := by
  have HI := Lib.hid hi
  have HLEN := Lib.hid (show n = ws.length from hi.1)
  clear hi
  obtain ⟨R, hR⟩ : ∃ R : Int, R = ((sizeR ws : Nat) : Int) := ⟨_, rfl⟩
  rw [← hR]
  have HR := Lib.hid hR
  clear hR
  go_enter Try.func23, Try.ntmps23
  go_wp2_with fail
  go_loop [3, 4] (fun vt vi => ∃ i : Nat, i ≤ n ∧ vi = .int .i64 i ∧ okW (ws.take i) ∧ vt = .int .i64 (totL (ws.take i))) (fun _ vi => n - (intOf vi).toNat)
  case atStart => exact ⟨0, Nat.zero_le _, rfl, (by intro x hx; simp at hx), rfl⟩
  case round =>
    obtain ⟨i, hi, rfl, hok, rfl⟩ := hrel
    have HOK := Lib.hid hok
    have htl := totL_le _ hok
    rw [List.length_take] at htl
    obtain ⟨t, ht⟩ : ∃ t, t = totL (ws.take i) := ⟨_, rfl⟩
    rw [← ht] at htl ⊢
    have htl2 : t ≤ 16000000 := by omega
    have HT := Lib.hid ht
    clear ht htl
    clear hok
    by_cases hlt : i < n
    · have hix : i < ws.length := by rw [← HLEN.out]; exact hlt
      rcases a with _ | ⟨lb, lo', ls⟩
      · have := HI.out.2.1 rfl; rw [this] at hix; simp at hix
      obtain ⟨rfl, hlc⟩ := HI.out.2.2 lb lo' ls rfl (List.ne_nil_of_length_pos (by omega))
      have hx := hlc i hix
      obtain ⟨x, ex⟩ : ∃ x, x = ws.getD i 0 := ⟨_, rfl⟩
      rw [← ex] at hx
      have EX := Lib.hid ex
      have HIX := Lib.hid hix
      clear hlc ex hix
      by_cases hx0 : x < 1
      · have hbad : ¬ okW ws := by
          intro hh
          have := hh _ (getD_mem HIX.out)
          rw [← EX.out] at this
          omega
        have hBAD : sizeR ws = 0 := by unfold sizeR; rw [if_neg hbad]
        have HBAD := Lib.hid hBAD
        clear hBAD hbad
        go_wp2_with fail
        go_ret
        exact ⟨by rw [HR.out, HBAD.out]; rfl, rfl⟩
      · have hx0b : decide (x < 1) = false := by simpa using hx0
        by_cases hx1 : 16 < x
        · have hbad : ¬ okW ws := by
            intro hh
            have := hh _ (getD_mem HIX.out)
            rw [← EX.out] at this
            omega
          have hBAD : sizeR ws = 0 := by unfold sizeR; rw [if_neg hbad]
          have HBAD := Lib.hid hBAD
          clear hBAD hbad
          clear hx0
          go_wp2_with fail
          go_ret
          exact ⟨by rw [HR.out, HBAD.out]; rfl, rfl⟩
        · have hx1b : decide (16 < x) = false := by simpa using hx1
          have hok2 : okW (ws.take (i + 1)) := by
            rw [take_snoc HIX.out, ← EX.out]
            intro y hy
            rw [List.mem_append, List.mem_singleton] at hy
            rcases hy with hy | hy
            · exact HOK.out y hy
            · rw [hy]; omega
          have HOK2 := Lib.hid hok2
          have HXB := Lib.hid (show 1 ≤ x ∧ x ≤ 16 by omega)
          have hxl : 1 ≤ x := by omega
          have hxu : x ≤ 16 := by omega
          clear hok2 hx0 hx1
          go_wp2_with fail
          go_round
          case rel => exact ⟨i + 1, by omega, by go_num, HOK2.out, by rw [show (t : Int) + x = ((totL (ws.take (i + 1)) : Nat) : Int) by rw [take_snoc HIX.out, totL_snoc, ← EX.out, ← HT.out]; have := HXB.out; omega]⟩
          case measure => simp [intOf]; omega
    · have hfin : ws.take i = ws := List.take_of_length_le (by have := HLEN.out; omega)
      have hok := HOK.out
      rw [hfin] at hok
      have hFIN : ((sizeR ws : Nat) : Int) = ((t : Int) + 15) / 16 := by unfold sizeR; rw [if_pos hok, ← hfin, ← HT.out]; omega
      have HFIN := Lib.hid hFIN
      clear hFIN hok hfin
      go_wp2_with fail
      go_ret
      exact ⟨by rw [HR.out, HFIN.out]; rfl, rfl⟩
end Go.Proofs.Ytfmegladcjcjgaa
