/- fx: numbers that stay within bounds: the contracts of Between, Clamp, apart, Size, Toward. No condition but that all are numbers. -/
import Derived.Test.YtfkopmgmhmmcbaaKp
import Derived.IntWalk
namespace Go.Proofs.Ytfkopmgmhmmcbaa
open Go.RowKit
set_option linter.unusedVariables false

/-- A number held between two others, the low one first. -/
def betw (low high n : Int) : Int := if n < low then low else if high < n then high else n

theorem between_any (low high n : Int) (w : World) :
    Calls Try.prog 15 #[.int .i64 low, .int .i64 high, .int .i64 n] w fun e w' => e = .returned (.int .i64 (betw low high n)) ∧ w = w' := by
  by_cases h1 : n < low
  · have e : betw low high n = low := by unfold betw; rw [if_pos h1]
    rw [e]
    clear e
    go_enter Try.func15, Try.ntmps15
    go_wp2
    go_ret
    exact ⟨rfl, rfl⟩
  · by_cases h2 : high < n
    · have e : betw low high n = high := by unfold betw; rw [if_neg h1, if_pos h2]
      rw [e]
      clear e
      go_enter Try.func15, Try.ntmps15
      go_wp2
      go_ret
      exact ⟨rfl, rfl⟩
    · have e : betw low high n = n := by unfold betw; rw [if_neg h1, if_neg h2]
      rw [e]
      clear e
      go_enter Try.func15, Try.ntmps15
      go_wp2
      go_ret
      exact ⟨rfl, rfl⟩

/-- A bound. -/
def bnd (b : Int) : Bool := decide (1 ≤ b ∧ b ≤ 2305843009213693952)

theorem bound_yes (b : Int) (w : World) (h1 : 1 ≤ b) (h2 : b ≤ 2305843009213693952) : Calls Try.prog 32 #[.int .i64 b] w fun e w' => e = .returned (.bool true) ∧ w = w' := by
  go_enter Try.func32, Try.ntmps32
  go_wp2
  go_ret
  exact ⟨rfl, rfl⟩
theorem bound_no (b : Int) (w : World) (h : b < 1 ∨ 2305843009213693952 < b) : Calls Try.prog 32 #[.int .i64 b] w fun e w' => e = .returned (.bool false) ∧ w = w' := by
  by_cases h1 : 1 ≤ b
  · have h2 : decide (b ≤ 2305843009213693952) = false := by simp; omega
    clear h
    go_enter Try.func32, Try.ntmps32
    go_wp2
    go_ret
    exact ⟨rfl, rfl⟩
  · clear h
    go_enter Try.func32, Try.ntmps32
    go_wp2
    go_ret
    exact ⟨rfl, rfl⟩

theorem clamp_yes (b n : Int) (w : World) (h1 : 1 ≤ b) (h2 : b ≤ 2305843009213693952) :
    Calls Try.prog 10 #[.int .i64 b, .int .i64 n] w fun e w' => e = .returned (.tuple #[.int .i64 (betw (-b) b n), .int .i64 0]) ∧ w = w' := by
  go_enter Try.func10, Try.ntmps10
  go_wp2_with fail
  refine (bound_yes b _ h1 h2).mono ?_
  rintro e w' ⟨rfl, rfl⟩
  go_wp2_with fail
  refine (between_any _ _ _ _).mono ?_
  rintro e w' ⟨rfl, rfl⟩
  go_wp2_with fail
  go_ret2
  exact ⟨rfl, rfl⟩
theorem clamp_no (b n : Int) (w : World) (h : b < 1 ∨ 2305843009213693952 < b) :
    Calls Try.prog 10 #[.int .i64 b, .int .i64 n] w fun e w' => e = .returned (.tuple #[.int .i64 0, .int .i64 2]) ∧ w = w' := by
  have HH := Lib.hid h
  clear h
  go_enter Try.func10, Try.ntmps10
  go_wp2_with fail
  refine (bound_no b _ HH.out).mono ?_
  rintro e w' ⟨rfl, rfl⟩
  go_wp2_with fail
  go_ret2
  exact ⟨rfl, rfl⟩

/-- How far two numbers lie apart. -/
def far (a b : Int) : Int := max a b - min a b
theorem u64_in (x : Int) (h1 : 0 ≤ x) (h2 : x < 18446744073709551616) : IntKind.u64.wrap x = x := by
  simp only [IntKind.wrap, IntKind.bits, IntKind.signed]; simp; omega
theorem u64_sub (a b : Int) (h : b ≤ a) (ha : I64 a) (hb : I64 b) : IntKind.u64.wrap (IntKind.u64.wrap a - IntKind.u64.wrap b) = a - b := by
  unfold I64 at ha hb
  simp only [IntKind.wrap, IntKind.bits, IntKind.signed]; simp; omega

theorem apart_any (a b : Int) (w : World) (ha : I64 a) (hb : I64 b) :
    Calls Try.prog 38 #[.int .i64 a, .int .i64 b] w fun e w' => e = .returned (.int .u64 (far a b)) ∧ w = w' := by
  unfold I64 at ha hb
  obtain ⟨f, hf⟩ : ∃ f, f = far a b := ⟨_, rfl⟩
  rw [← hf]
  rcases Int.lt_trichotomy a b with h | h | h
  · have e3 : IntKind.u64.wrap (IntKind.u64.wrap b - IntKind.u64.wrap a) = f := by rw [u64_sub b a (by omega) (by unfold I64; omega) (by unfold I64; omega), hf]; unfold far; omega
    have HF := Lib.hid hf
    have H3 := Lib.hid e3
    clear hf e3
    go_enter Try.func38, Try.ntmps38
    go_wp2
    go_ret
    exact ⟨by rw [H3.out]; rfl, rfl⟩
  · subst h
    have e3 : 0 = f := by rw [hf]; unfold far; omega
    have HF := Lib.hid hf
    have H3 := Lib.hid e3
    clear hf e3
    go_enter Try.func38, Try.ntmps38
    go_wp2
    go_ret
    exact ⟨by rw [H3.out]; rfl, rfl⟩
  · have e3 : IntKind.u64.wrap (IntKind.u64.wrap a - IntKind.u64.wrap b) = f := by rw [u64_sub a b (by omega) (by unfold I64; omega) (by unfold I64; omega), hf]; unfold far; omega
    have HF := Lib.hid hf
    have H3 := Lib.hid e3
    clear hf e3
    go_enter Try.func38, Try.ntmps38
    go_wp2
    go_ret
    exact ⟨by rw [H3.out]; rfl, rfl⟩
/-- A number without its sign. -/
def sizeI (n : Int) : Int := min (max n (-n)) 9223372036854775807

theorem size_any (n : Int) (w : World) (h : I64 n) : Calls Try.prog 28 #[.int .i64 n] w fun e w' => e = .returned (.int .i64 (sizeI n)) ∧ w = w' := by
  unfold I64 at h
  obtain ⟨f, hf⟩ : ∃ f, f = far 0 n := ⟨_, rfl⟩
  have hf0 : 0 ≤ f := by rw [hf]; unfold far; omega
  have hs : sizeI n = min f 9223372036854775807 := by rw [hf]; unfold far sizeI; omega
  rw [hs]
  have HF := Lib.hid hf
  clear hf hs
  rcases Int.lt_trichotomy f 9223372036854775807 with h1 | h1 | h1
  · have e : min f 9223372036854775807 = f := by omega
    rw [e]
    clear e
    go_enter Try.func28, Try.ntmps28
    go_wp2_with fail
    refine (apart_any 0 n _ (by unfold I64; omega) (by unfold I64; omega)).mono ?_
    rintro e w' ⟨he, rfl⟩
    rw [← HF.out] at he
    subst he
    go_wp2_with fail
    go_ret
    exact ⟨rfl, rfl⟩
  · have e : min f 9223372036854775807 = 9223372036854775807 := by omega
    rw [e]
    have H1 := Lib.hid h1
    clear e h1
    go_enter Try.func28, Try.ntmps28
    go_wp2_with fail
    refine (apart_any 0 n _ (by unfold I64; omega) (by unfold I64; omega)).mono ?_
    rintro e w' ⟨he, rfl⟩
    rw [← HF.out, H1.out] at he
    subst he
    go_wp2_with fail
    go_ret
    exact ⟨rfl, rfl⟩
  · have e : min f 9223372036854775807 = 9223372036854775807 := by omega
    rw [e]
    clear e
    go_enter Try.func28, Try.ntmps28
    go_wp2_with fail
    refine (apart_any 0 n _ (by unfold I64; omega) (by unfold I64; omega)).mono ?_
    rintro e w' ⟨he, rfl⟩
    rw [← HF.out] at he
    subst he
    go_wp2_with fail
    go_ret
    exact ⟨rfl, rfl⟩

/-- A step on the way. -/
def tow (a b s : Int) : Int := if s < 1 then a else if far a b ≤ s then b else if a < b then a + s else a - s
theorem far_pos (a b : Int) : 0 ≤ far a b := by unfold far; omega

theorem toward_any (a b s : Int) (w : World) (ha : I64 a) (hb : I64 b) (hs : I64 s) : Calls Try.prog 26 #[.int .i64 a, .int .i64 b, .int .i64 s] w fun e w' => e = .returned (.int .i64 (tow a b s)) ∧ w = w' := by
  unfold I64 at ha hb hs
  by_cases h1 : s < 1
  · have e : tow a b s = a := by unfold tow; rw [if_pos h1]
    rw [e]
    clear e
    go_enter Try.func26, Try.ntmps26
    go_wp2
    go_ret
    exact ⟨rfl, rfl⟩
  · obtain ⟨f, hf⟩ : ∃ f, f = far a b := ⟨_, rfl⟩
    have hf0 : 0 ≤ f := by rw [hf]; exact far_pos a b
    have hsu : IntKind.u64.wrap s = s := u64_in s (by omega) (by omega)
    by_cases h2 : f ≤ s
    · have e : tow a b s = b := by unfold tow; rw [if_neg h1, if_pos (by rw [← hf]; exact h2)]
      rw [e]
      have HF := Lib.hid hf
      clear e hf
      go_enter Try.func26, Try.ntmps26
      go_wp2_with fail
      refine (apart_any a b _ (by unfold I64; omega) (by unfold I64; omega)).mono ?_
      rintro e w' ⟨he, rfl⟩
      rw [← HF.out] at he
      subst he
      go_wp2_with fail
      go_ret
      exact ⟨rfl, rfl⟩
    · by_cases h3 : a < b
      · have e : tow a b s = a + s := by unfold tow; rw [if_neg h1, if_neg (by rw [← hf]; exact h2), if_pos h3]
        rw [e]
        have hr : a + s ≤ 9223372036854775807 := by rw [hf] at h2; unfold far at h2; omega
        have hr0 : -9223372036854775808 ≤ a + s := by omega
        have HF := Lib.hid hf
        clear e hf
        go_enter Try.func26, Try.ntmps26
        go_wp2_with fail
        refine (apart_any a b _ (by unfold I64; omega) (by unfold I64; omega)).mono ?_
        rintro e w' ⟨he, rfl⟩
        rw [← HF.out] at he
        subst he
        go_wp2_with fail
        go_ret
        exact ⟨rfl, rfl⟩
      · have e : tow a b s = a - s := by unfold tow; rw [if_neg h1, if_neg (by rw [← hf]; exact h2), if_neg h3]
        rw [e]
        have hr : -9223372036854775808 ≤ a - s := by rw [hf] at h2; unfold far at h2; omega
        have HF := Lib.hid hf
        clear e hf
        go_enter Try.func26, Try.ntmps26
        go_wp2_with fail
        refine (apart_any a b _ (by unfold I64; omega) (by unfold I64; omega)).mono ?_
        rintro e w' ⟨he, rfl⟩
        rw [← HF.out] at he
        subst he
        go_wp2_with fail
        go_ret
        exact ⟨rfl, rfl⟩
end Go.Proofs.Ytfkopmgmhmmcbaa
