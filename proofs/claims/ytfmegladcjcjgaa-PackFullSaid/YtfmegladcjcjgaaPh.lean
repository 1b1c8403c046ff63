/- pack: a field's bit, and the way through all bits: contracts. -/
import Derived.Test.YtfmegladcjcjgaaPg
namespace Go.Proofs.Ytfmegladcjcjgaa
open Go.RowKit
set_option linter.unusedVariables false

theorem bits_one (x : Int) : bits .and .i64 x 1 = x % 2 := by
  show IntKind.i64.wrap ((BitVec.ofInt 64 x &&& BitVec.ofInt 64 1).toNat : Int) = _
  have e1 : (BitVec.ofInt 64 1).toNat = 2 ^ 1 - 1 := by decide
  have e2 : (BitVec.ofInt 64 x).toNat = (x % 18446744073709551616).toNat := by rw [BitVec.toNat_ofInt]; rfl
  rw [BitVec.toNat_and, e1, Nat.and_two_pow_sub_one_eq_mod, e2, IntKind.wrap_i64]
  omega
/-- A bit that is put to others above it. -/
theorem or_bit (Q d : Int) (r : Nat) (hr : r ≤ 16) (hQ : 0 ≤ Q) (hQ2 : Q * P2 (r + 1) ≤ 131072) (hd : d = 0 ∨ d = 1) : bits .or .i64 (Q * P2 (r + 1)) (wrap64 (d * 2 ^ r)) = (2 * Q + d) * P2 r := by
  have hp := P2_le (j := r) hr
  have hp0 := P2_pos r
  obtain ⟨q, rfl⟩ := Int.eq_ofNat_of_zero_le hQ
  obtain ⟨dn, rfl⟩ := Int.eq_ofNat_of_zero_le (show 0 ≤ d by omega)
  have hdn : dn ≤ 1 := by omega
  have e0 : P2 r = ((2 ^ r : Nat) : Int) := by rw [P2_eq]; simp
  have e1 : P2 (r + 1) = ((2 ^ (r + 1) : Nat) : Int) := by rw [P2_eq]; simp
  have e2 : ((2 : Int) ^ r) = ((2 ^ r : Nat) : Int) := by simp
  obtain ⟨p, hpp⟩ : ∃ p, p = 2 ^ r := ⟨_, rfl⟩
  have e3 : 2 ^ (r + 1) = 2 * p := by rw [Nat.pow_succ, hpp, Nat.mul_comm]
  have hlt : dn * p < 2 ^ (r + 1) := by
    rw [e3]
    have h1 : 0 < p := by rw [hpp]; exact Nat.pow_pos (by omega)
    rcases Nat.le_one_iff_eq_zero_or_eq_one.1 hdn with rfl | rfl <;> omega
  have hor := Nat.two_pow_add_eq_or_of_lt (i := r + 1) (b := dn * p) hlt q
  rw [e1, e3] at hQ2 ⊢
  rw [e2, e0, ← hpp]
  rw [e3] at hor hlt
  have hm1 : ((q : Int) * ((2 * p : Nat) : Int)) = ((2 * p * q : Nat) : Int) := by rw [Nat.mul_comm (2 * p) q]; simp
  have hm2 : ((dn : Int) * (p : Int)) = ((dn * p : Nat) : Int) := by simp
  have hm3 : (2 * (q : Int) + (dn : Int)) * (p : Int) = ((2 * p * q + dn * p : Nat) : Int) := by
    rw [Int.add_mul]
    simp [Int.mul_comm, Int.mul_left_comm]
  rw [hm1] at hQ2 ⊢
  rw [hm2, hm3]
  have hp3 : 2 * p ≤ 131072 := by
    rw [e0] at hp; rw [← hpp] at hp; omega
  rw [IntWalk.wrap64_in _ (by omega)]
  show IntKind.i64.wrap ((BitVec.ofInt 64 ((2 * p * q : Nat) : Int) ||| BitVec.ofInt 64 ((dn * p : Nat) : Int)).toNat : Int) = _
  have f : ∀ n : Nat, n < 18446744073709551616 → (BitVec.ofInt 64 (n : Int)).toNat = n := by
    intro n hn
    rw [BitVec.ofInt_natCast, BitVec.toNat_ofNat]; exact Nat.mod_eq_of_lt hn
  rw [BitVec.toNat_or, f _ (by omega), f _ (by omega), ← hor, IntKind.wrap_i64]
  omega

theorem FieldsC_any (i b p q r g ov gv nv cv cc N : Nat) (pw pv : Addr) (x y : Int) (w : World) (hb : b ≤ 15) (hp : p ≤ 1000000) (hi : i < nv) (hr : r = 15 - p % 16) (hq : q = p / 16) (hnv : nv ≤ 1000000) (hN : N ≤ 1000000)
    (h1 : w.cell? pw = some (.slice (some ⟨g, 0, none⟩) N cc)) (h2 : w.cell? pv = some (.slice (some ⟨gv, ov, none⟩) nv cv)) (h3 : w.cell? ⟨g, q, none⟩ = some (.int .i64 y)) (h4 : w.cell? ⟨gv, ov + i, none⟩ = some (.int .i64 x))
    (h5 : w.frozen? ⟨g, q, none⟩ = false) (hpN : q < N) (hr15 : r ≤ 15) :
    Calls Try.prog 36 #[.int .i64 i, .int .i64 b, .int .i64 p, .pointer (some pw), .pointer (some pv)] w fun e w' => e = .returned (.tuple #[]) ∧ w' = (w.setCell ⟨g, q, none⟩ (.int .i64 (bits .or .i64 y (wrap64 (bits .and .i64 (x / 2 ^ b) 1 * 2 ^ r))))).drew := by
  have HR := Lib.hid hr
  have hwq : IntKind.i64.wrap ((p : Int) / 16) = (q : Int) := by rw [IntKind.wrap_i64]; omega
  clear hr hq
  go_enter Try.func36, Try.ntmps36
  go_wp2_with fail
  go_still_tail 17, (by kernel_rfl)
  still_call ((under_any p r HR.out _ (by omega)).mono fun _ _ h => ⟨h.1, h.2.symm⟩)
  repeat still_step
  refine wpStill_nil ?_
  change wpList _ _ _ _ _ w.drew
  go_wp2_with fail
  go_end0
  exact ⟨rfl, rfl⟩

theorem SplitC_any (i b p q r g ov gv nv cv cc N : Nat) (pw pv : Addr) (x y : Int) (w : World) (hb : b ≤ 15) (hp : p ≤ 1000000) (hi : i < N) (hr : r = 15 - p % 16) (hq : q = p / 16) (hnv : nv ≤ 1000000) (hN : N ≤ 1000000)
    (h1 : w.cell? pw = some (.slice (some ⟨g, 0, none⟩) N cc)) (h2 : w.cell? pv = some (.slice (some ⟨gv, ov, none⟩) nv cv)) (h3 : w.cell? ⟨g, i, none⟩ = some (.int .i64 y)) (h4 : w.cell? ⟨gv, ov + q, none⟩ = some (.int .i64 x))
    (h5 : w.frozen? ⟨g, i, none⟩ = false) (hpN : q < nv) (hr15 : r ≤ 15) :
    Calls Try.prog 41 #[.int .i64 i, .int .i64 b, .int .i64 p, .pointer (some pw), .pointer (some pv)] w fun e w' => e = .returned (.tuple #[]) ∧ w' = (w.setCell ⟨g, i, none⟩ (.int .i64 (bits .or .i64 y (wrap64 (bits .and .i64 (x / 2 ^ r) 1 * 2 ^ b))))).drew := by
  have HR := Lib.hid hr
  have hwq : IntKind.i64.wrap ((p : Int) / 16) = (q : Int) := by rw [IntKind.wrap_i64]; omega
  clear hr hq
  go_enter Try.func41, Try.ntmps41
  go_wp2_with fail
  go_still_tail 17, (by kernel_rfl)
  still_call ((under_any p r HR.out _ (by omega)).mono fun _ _ h => ⟨h.1, h.2.symm⟩)
  repeat still_step
  refine wpStill_nil ?_
  change wpList _ _ _ _ _ w.drew
  go_wp2_with fail
  go_end0
  exact ⟨rfl, rfl⟩

set_option maxHeartbeats 2000000 in
theorem walkFields_any (a : Option Addr) (n c : Nat) (ws : List Int) (p1 p2 : Value) (w : World) (St : Nat → Nat → World → Prop) (hn : n ≤ 1000) (hl : n = ws.length) (hok : okW ws) (h0 : St 0 0 w)
    (hkeep : ∀ i j w', St i j w' → IntsAt w' a n ws)
    (hstep : ∀ i b wd w', i < n → ws.getD i 0 = ((wd : Nat) : Int) → b < wd → wd ≤ 16 → St i (wd - (b + 1)) w' →
      Calls Try.prog 36 #[.int .i64 i, .int .i64 b, .int .i64 ((totL (ws.take i) + (wd - (b + 1)) : Nat) : Int), p1, p2] w' fun e w'' => e = .returned (.tuple #[]) ∧ St i (wd - b) w'')
    (hnext : ∀ i wd w', i < n → ws.getD i 0 = ((wd : Nat) : Int) → St i wd w' → St (i + 1) 0 w') :
    Calls Try.prog 35 #[.slice a n c, .func (.func 36) #[] #[p1, p2]] w fun e w' => e = .returned (.tuple #[]) ∧ St n 0 w' := by
  have HOK := Lib.hid hok
  have HKEEP := Lib.hid hkeep
  have HSTEP := Lib.hid hstep
  have HNEXT := Lib.hid hnext
  have H0 := Lib.hid h0
  have HLEN := Lib.hid hl
  clear hok hkeep hstep hnext h0 hl
  go_enter Try.func35, Try.ntmps35
  go_wp2_with fail
  go_loopw [4, 10] (fun vt vi wr => ∃ i : Nat, i ≤ n ∧ vi = .int .i64 i ∧ vt = .int .i64 (totL (ws.take i)) ∧ St i 0 wr) (fun _ vi _ => n - (intOf vi).toNat)
  case atStart => exact ⟨0, Nat.zero_le _, rfl, rfl, H0.out⟩
  case round =>
    obtain ⟨i, hi, rfl, rfl, hs⟩ := hrel
    have HS := Lib.hid hs
    clear hs
    have htl := totL_le _ (okW_take HOK.out i)
    rw [List.length_take] at htl
    obtain ⟨t, ht⟩ : ∃ t, t = totL (ws.take i) := ⟨_, rfl⟩
    rw [← ht] at htl ⊢
    have htl2 : t ≤ 16000 := by omega
    have HT := Lib.hid ht
    clear ht htl
    by_cases hlt : i < n
    · have hix : i < ws.length := by rw [← HLEN.out]; exact hlt
      have hli := HKEEP.out _ _ _ HS.out
      rcases a with _ | ⟨lb, lo', ls⟩
      · have := hli.2.1 rfl; rw [this] at hix; simp at hix
      obtain ⟨rfl, hlc⟩ := hli.2.2 lb lo' ls rfl (List.ne_nil_of_length_pos (by omega))
      have hx := hlc i hix
      have hjm := HOK.out _ (getD_mem hix)
      obtain ⟨wd, ej⟩ := Int.eq_ofNat_of_zero_le (show 0 ≤ ws.getD i 0 by omega)
      rw [ej] at hx hjm
      have hw1 : 1 ≤ wd := by omega
      have hw16 : wd ≤ 16 := by omega
      have EJ := Lib.hid ej
      have hst : totL (ws.take (i + 1)) = t + wd := by rw [take_snoc hix, totL_snoc, ej, ← HT.out, Int.toNat_natCast]
      have HST := Lib.hid hst
      clear hli hlc hjm ej hst hix
      obtain ⟨W1, rfl⟩ : ∃ z, z = wr := ⟨_, rfl⟩
      go_wp2_with fail
      go_loopw [4, 7] (fun vt vb wq => ∃ b : Nat, b ≤ wd ∧ vb = .int .i64 ((b : Int) - 1) ∧ vt = .int .i64 ((t + (wd - b) : Nat) : Int) ∧ St i (wd - b) wq) (fun _ vb _ => (intOf vb + 1).toNat)
      case atStart => exact ⟨wd, Nat.le_refl _, rfl, by rw [Nat.sub_self, Nat.add_zero], by rw [Nat.sub_self]; exact HS.out⟩
      case round =>
        obtain ⟨b, hb, rfl, rfl, hs⟩ := hrel
        have HS2 := Lib.hid hs
        clear hs
        obtain ⟨P, hP⟩ : ∃ P, P = t + (wd - b) := ⟨_, rfl⟩
        rw [← hP]
        have hPl : P ≤ 16016 := by omega
        have HP := Lib.hid hP
        clear hP
        rcases b with _ | b
        · have hs3 := HNEXT.out i wd _ hlt EJ.out (by have := HS2.out; rwa [Nat.sub_zero] at this)
          have HS3 := Lib.hid hs3
          clear hs3
          go_wp2_with fail
          go_roundw
          case rel => exact ⟨i + 1, by omega, by go_num, by rw [HST.out, HP.out, Nat.sub_zero], HS3.out⟩
          case measure => simp [intOf]; omega
        · have hc := HSTEP.out i b wd _ hlt EJ.out (by omega) hw16 HS2.out
          rw [← HT.out, ← HP.out] at hc
          have HC := Lib.hid hc
          clear hc
          go_wp2_with fail
          refine HC.out.mono ?_
          rintro e w2 ⟨rfl, hs4⟩
          have HS4 := Lib.hid hs4
          clear hs4
          go_wp2_with fail
          go_roundw
          case rel => exact ⟨b, by omega, rfl, by rw [HP.out, show ((t + (wd - (b + 1)) : Nat) : Int) + 1 = ((t + (wd - b) : Nat) : Int) by omega], HS4.out⟩
          case measure => simp [intOf]
    · have hin : i = n := by omega
      subst hin
      go_wp2_with fail
      go_end0
      exact ⟨rfl, HS.out⟩

set_option maxHeartbeats 2000000 in
theorem walkSplit_any (a : Option Addr) (n c : Nat) (ws : List Int) (p1 p2 : Value) (w : World) (St : Nat → Nat → World → Prop) (hn : n ≤ 1000) (hl : n = ws.length) (hok : okW ws) (h0 : St 0 0 w)
    (hkeep : ∀ i j w', St i j w' → IntsAt w' a n ws)
    (hstep : ∀ i b wd w', i < n → ws.getD i 0 = ((wd : Nat) : Int) → b < wd → wd ≤ 16 → St i (wd - (b + 1)) w' →
      Calls Try.prog 41 #[.int .i64 i, .int .i64 b, .int .i64 ((totL (ws.take i) + (wd - (b + 1)) : Nat) : Int), p1, p2] w' fun e w'' => e = .returned (.tuple #[]) ∧ St i (wd - b) w'')
    (hnext : ∀ i wd w', i < n → ws.getD i 0 = ((wd : Nat) : Int) → St i wd w' → St (i + 1) 0 w') :
    Calls Try.prog 35 #[.slice a n c, .func (.func 41) #[] #[p1, p2]] w fun e w' => e = .returned (.tuple #[]) ∧ St n 0 w' := by
  have HOK := Lib.hid hok
  have HKEEP := Lib.hid hkeep
  have HSTEP := Lib.hid hstep
  have HNEXT := Lib.hid hnext
  have H0 := Lib.hid h0
  have HLEN := Lib.hid hl
  clear hok hkeep hstep hnext h0 hl
  go_enter Try.func35, Try.ntmps35
  go_wp2_with fail
  go_loopw [4, 10] (fun vt vi wr => ∃ i : Nat, i ≤ n ∧ vi = .int .i64 i ∧ vt = .int .i64 (totL (ws.take i)) ∧ St i 0 wr) (fun _ vi _ => n - (intOf vi).toNat)
  case atStart => exact ⟨0, Nat.zero_le _, rfl, rfl, H0.out⟩
  case round =>
    obtain ⟨i, hi, rfl, rfl, hs⟩ := hrel
    have HS := Lib.hid hs
    clear hs
    have htl := totL_le _ (okW_take HOK.out i)
    rw [List.length_take] at htl
    obtain ⟨t, ht⟩ : ∃ t, t = totL (ws.take i) := ⟨_, rfl⟩
    rw [← ht] at htl ⊢
    have htl2 : t ≤ 16000 := by omega
    have HT := Lib.hid ht
    clear ht htl
    by_cases hlt : i < n
    · have hix : i < ws.length := by rw [← HLEN.out]; exact hlt
      have hli := HKEEP.out _ _ _ HS.out
      rcases a with _ | ⟨lb, lo', ls⟩
      · have := hli.2.1 rfl; rw [this] at hix; simp at hix
      obtain ⟨rfl, hlc⟩ := hli.2.2 lb lo' ls rfl (List.ne_nil_of_length_pos (by omega))
      have hx := hlc i hix
      have hjm := HOK.out _ (getD_mem hix)
      obtain ⟨wd, ej⟩ := Int.eq_ofNat_of_zero_le (show 0 ≤ ws.getD i 0 by omega)
      rw [ej] at hx hjm
      have hw1 : 1 ≤ wd := by omega
      have hw16 : wd ≤ 16 := by omega
      have EJ := Lib.hid ej
      have hst : totL (ws.take (i + 1)) = t + wd := by rw [take_snoc hix, totL_snoc, ej, ← HT.out, Int.toNat_natCast]
      have HST := Lib.hid hst
      clear hli hlc hjm ej hst hix
      obtain ⟨W1, rfl⟩ : ∃ z, z = wr := ⟨_, rfl⟩
      go_wp2_with fail
      go_loopw [4, 7] (fun vt vb wq => ∃ b : Nat, b ≤ wd ∧ vb = .int .i64 ((b : Int) - 1) ∧ vt = .int .i64 ((t + (wd - b) : Nat) : Int) ∧ St i (wd - b) wq) (fun _ vb _ => (intOf vb + 1).toNat)
      case atStart => exact ⟨wd, Nat.le_refl _, rfl, by rw [Nat.sub_self, Nat.add_zero], by rw [Nat.sub_self]; exact HS.out⟩
      case round =>
        obtain ⟨b, hb, rfl, rfl, hs⟩ := hrel
        have HS2 := Lib.hid hs
        clear hs
        obtain ⟨P, hP⟩ : ∃ P, P = t + (wd - b) := ⟨_, rfl⟩
        rw [← hP]
        have hPl : P ≤ 16016 := by omega
        have HP := Lib.hid hP
        clear hP
        rcases b with _ | b
        · have hs3 := HNEXT.out i wd _ hlt EJ.out (by have := HS2.out; rwa [Nat.sub_zero] at this)
          have HS3 := Lib.hid hs3
          clear hs3
          go_wp2_with fail
          go_roundw
          case rel => exact ⟨i + 1, by omega, by go_num, by rw [HST.out, HP.out, Nat.sub_zero], HS3.out⟩
          case measure => simp [intOf]; omega
        · have hc := HSTEP.out i b wd _ hlt EJ.out (by omega) hw16 HS2.out
          rw [← HT.out, ← HP.out] at hc
          have HC := Lib.hid hc
          clear hc
          go_wp2_with fail
          refine HC.out.mono ?_
          rintro e w2 ⟨rfl, hs4⟩
          have HS4 := Lib.hid hs4
          clear hs4
          go_wp2_with fail
          go_roundw
          case rel => exact ⟨b, by omega, rfl, by rw [HP.out, show ((t + (wd - (b + 1)) : Nat) : Int) + 1 = ((t + (wd - b) : Nat) : Int) by omega], HS4.out⟩
          case measure => simp [intOf]
    · have hin : i = n := by omega
      subst hin
      go_wp2_with fail
      go_end0
      exact ⟨rfl, HS.out⟩
end Go.Proofs.Ytfmegladcjcjgaa
