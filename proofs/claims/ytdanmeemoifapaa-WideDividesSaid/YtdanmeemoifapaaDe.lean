/- The document's wide numbers: the contracts of whole and Bits. No condition but that the digits are those of numbers below 256 to 20. -/
import Derived.Test.YtdanmeemoifapaaDd
namespace Go.Proofs.Ytdanmeemoifapaa
open Go.RowKit
set_option linter.unusedVariables false

/-- As a number, and whether it is one. -/
def wholeI (m : Bool) (x : Nat) : Int := if m then (if x ≤ 9223372036854775808 then -(x : Int) else 0) else (if x ≤ 9223372036854775807 then (x : Int) else 0)
def wholeB (m : Bool) (x : Nat) : Bool := if m then decide (x ≤ 9223372036854775808) else decide (x ≤ 9223372036854775807)

/-- A digit more, from above. -/
theorem up_step (x k : Nat) : x / 256 ^ k = x / 256 ^ (k + 1) * 256 + x / 256 ^ k % 256 := by rw [div_succ]; omega
theorem small_of {x : Nat} (h : x / 256 ^ 8 = 0) : x < 18446744073709551616 := by
  have e : (256 : Nat) ^ 8 = 18446744073709551616 := by decide
  rw [e] at h
  omega
theorem up_bound {x : Nat} (hx : x < 18446744073709551616) (k : Nat) : ((x / 256 ^ k : Nat) : Int) < 18446744073709551616 := by
  have := Nat.div_le_self x (256 ^ k)
  omega

set_option maxHeartbeats 1000000 in
theorem whole_any (m : Bool) (x : Nat) (hx : x < 256 ^ 20) (w : World) :
    Calls Try.prog 36 #[.agg (numA m (dig x))] w fun e w' => e = .returned (.tuple #[.int .i64 (wholeI m x), .bool (wholeB m x)]) ∧ Keeps [] w w' := by
  obtain ⟨r, hr⟩ : ∃ r, r = wholeI m x := ⟨_, rfl⟩
  obtain ⟨rb, hrb⟩ : ∃ r, r = wholeB m x := ⟨_, rfl⟩
  rw [← hr, ← hrb]
  have HR := Lib.hid hr
  have HRB := Lib.hid hrb
  have HT := Lib.hid (Nat.div_eq_of_lt hx)
  clear hr hrb hx
  go_enter Try.func36, Try.ntmps36
  go_upto_region 1 with fail
  have h0 : NumAt (w.alloc (.cells (numA m (dig x)) 29)) w.heap.size m (dig x) := heap_alloc_new w _
  have k0 : Keeps [] w (w.alloc (.cells (numA m (dig x)) 29)) := (Keeps.refl _ _).alloc _
  generalize w.alloc (.cells (numA m (dig x)) 29) = w0 at *
  have c9 := h0.sign
  go_wp2_with fail
  go_loop [4, 5] (fun xv v => ∃ (k : Nat) (V : Int), k ≤ 20 ∧ v = .int .i64 ((k : Int) - 1) ∧ xv = .int .u64 V ∧ V = (x / 256 ^ k : Nat) ∧ x / 256 ^ (max k 8) = 0) (fun _ v => (intOf v + 1).toNat)
  case atStart => exact ⟨20, 0, by omega, by simp, rfl, by rw [HT.out]; rfl, HT.out⟩
  case round =>
    obtain ⟨k, V, hk, rfl, rfl, hV, he⟩ := hrel
    cases k with
    | zero =>
      have hxs := small_of (by simpa using he)
      simp only [Nat.pow_zero, Nat.div_one] at hV
      have hV0 : 0 ≤ V := by omega
      have hV1 : V < 18446744073709551616 := by omega
      have hcase : (m = true ∧ V ≤ 9223372036854775808 ∧ r = -V ∧ rb = true) ∨ (m = true ∧ 9223372036854775808 < V ∧ r = 0 ∧ rb = false) ∨ (m = false ∧ V ≤ 9223372036854775807 ∧ r = V ∧ rb = true) ∨ (m = false ∧ 9223372036854775807 < V ∧ r = 0 ∧ rb = false) := by
        have h1 := HR.out
        have h2 := HRB.out
        unfold wholeI at h1
        unfold wholeB at h2
        cases m
        · simp only [Bool.false_eq_true, if_false] at h1 h2
          split at h1
          · right; right; left; refine ⟨rfl, by omega, by omega, by rw [h2]; simp; omega⟩
          · right; right; right; refine ⟨rfl, by omega, by omega, by rw [h2]; simp; omega⟩
        · simp only [if_true] at h1 h2
          split at h1
          · left; refine ⟨rfl, by omega, by omega, by rw [h2]; simp; omega⟩
          · right; left; refine ⟨rfl, by omega, by omega, by rw [h2]; simp; omega⟩
      clear HR HRB HT he hV hxs
      rcases hcase with ⟨rfl, g1, rfl, rfl⟩ | ⟨rfl, g1, rfl, rfl⟩ | ⟨rfl, g1, rfl, rfl⟩ | ⟨rfl, g1, rfl, rfl⟩
      · have hw1 : IntKind.i64.wrap (IntKind.u64.wrap (-V)) = -V := by rw [IntKind.wrap_u64, IntKind.wrap_i64]; omega
        go_wp2_with fail
        go_ret2
        exact ⟨rfl, k0⟩
      · go_wp2_with fail
        go_ret2
        exact ⟨rfl, k0⟩
      · go_wp2_with fail
        go_ret2
        exact ⟨rfl, k0⟩
      · go_wp2_with fail
        go_ret2
        exact ⟨rfl, k0⟩
    | succ k =>
      have ei : ((k + 1 : Nat) : Int) - 1 = k := by omega
      have c0 := h0.cell k (by omega)
      have hst := up_step x k
      have d1 := dig_lo x k
      have d2 := dig_hi x k
      obtain ⟨a, ha⟩ : ∃ a, a = dig x k := ⟨_, rfl⟩
      rw [← ha] at c0 d1 d2
      rw [ei]
      by_cases h8 : 8 ≤ k
      · have hz : x / 256 ^ (k + 1) = 0 := by rw [show max (k + 1) 8 = k + 1 by omega] at he; exact he
        have hV0 : V = 0 := by rw [hV, hz]; rfl
        subst hV0
        have hk8 : (8 : Int) ≤ k := by omega
        have hk9 : (k : Int) < 20 := by omega
        by_cases ha0 : a = 0
        · have n1 : (a != 0) = false := by simp [ha0]
          have hz2 : x / 256 ^ k = 0 := by
            rw [hst, hz]
            unfold dig at ha
            omega
          have HZ := Lib.hid hz2
          have H0 := Lib.hid h0
          clear ha hst he hz hz2 ha0 hV h0
          go_wp2_with fail
          go_round
          case rel => exact ⟨k, 0, by omega, rfl, rfl, by rw [HZ.out]; rfl, by rw [show max k 8 = k by omega]; exact HZ.out⟩
          case measure => simp [intOf]
        · have n1 : (a != 0) = true := by simpa using ha0
          have hbig : ¬ x < 18446744073709551616 := by
            intro hlt
            have e : (256 : Nat) ^ 8 = 18446744073709551616 := by decide
            have : x / 256 ^ k = 0 := Nat.div_eq_of_lt (Nat.lt_of_lt_of_le (by rw [e]; exact hlt) (Nat.pow_le_pow_right (by decide) h8))
            unfold dig at ha
            rw [this] at ha
            exact ha0 (by rw [ha]; rfl)
          have hr : r = 0 ∧ rb = false := by
            have h1 := HR.out
            have h2 := HRB.out
            unfold wholeI at h1
            unfold wholeB at h2
            cases m
            · simp only [Bool.false_eq_true, if_false] at h1 h2
              rw [if_neg (by omega)] at h1
              exact ⟨h1, by rw [h2]; simp; omega⟩
            · simp only [if_true] at h1 h2
              rw [if_neg (by omega)] at h1
              exact ⟨h1, by rw [h2]; simp; omega⟩
          obtain ⟨rfl, rfl⟩ := hr
          have H0 := Lib.hid h0
          clear ha hst he hz ha0 hbig hV h0
          go_wp2_with fail
          go_ret2
          exact ⟨rfl, k0⟩
      · have hz : x / 256 ^ 8 = 0 := by rw [show max (k + 1) 8 = 8 by omega] at he; exact he
        have hb := up_bound (small_of hz) k
        have hk8 : (k : Int) < 8 := by omega
        have hnx : V * 256 + a = ((x / 256 ^ k : Nat) : Int) := by rw [hV, ha]; unfold dig; omega
        obtain ⟨U, hU⟩ : ∃ U, U = ((x / 256 ^ k : Nat) : Int) := ⟨_, rfl⟩
        rw [← hU] at hb hnx
        have hV0 : 0 ≤ V := by omega
        have hV1 : V * 256 < 18446744073709551616 := by omega
        have HU := Lib.hid hU
        have HZ := Lib.hid hz
        have HN := Lib.hid hnx
        have H0 := Lib.hid h0
        have hb2 : V * 256 + a < 18446744073709551616 := by omega
        clear ha hst he hz hV hU hb h0 hnx
        go_wp2_with fail
        go_round
        case rel => exact ⟨k, V * 256 + a, by omega, rfl, rfl, by rw [HN.out, HU.out], by rw [show max k 8 = 8 by omega]; exact HZ.out⟩
        case measure => simp [intOf]
end Go.Proofs.Ytdanmeemoifapaa
