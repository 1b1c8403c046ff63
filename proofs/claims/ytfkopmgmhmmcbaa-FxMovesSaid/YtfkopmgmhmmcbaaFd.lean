/- fx: Sum: its contract, and the document's. No condition but that all are numbers. -/
import Derived.Test.YtfkopmgmhmmcbaaFa
import Derived.Test.YtfkopmgmhmmcbaaAp
namespace Go.Proofs.Ytfkopmgmhmmcbaa
open Go.RowKit
set_option linter.unusedVariables false

/-- One number more, clamped. -/
def sumS (b s x : Int) : Int := betw (-b) b (s + x)
/-- The sum, clamped behind each number. -/
def sumL (b : Int) (xs : List Int) : Int := xs.foldl (sumS b) 0
theorem betw_bd {b : Int} (n : Int) (hb : 1 ≤ b) : -b ≤ betw (-b) b n ∧ betw (-b) b n ≤ b := by
  unfold betw
  split
  · omega
  · split <;> omega
theorem sumL_bd {b : Int} (xs : List Int) (hb : 1 ≤ b) : -b ≤ sumL b xs ∧ sumL b xs ≤ b := by
  unfold sumL
  suffices ∀ s, -b ≤ s ∧ s ≤ b → -b ≤ xs.foldl (sumS b) s ∧ xs.foldl (sumS b) s ≤ b from this 0 (by omega)
  induction xs with
  | nil => intro s h; exact h
  | cons x xs ih => intro s h; exact ih _ (betw_bd _ hb)
theorem sumL_snoc (b : Int) (xs : List Int) (x : Int) : sumL b (xs ++ [x]) = sumS b (sumL b xs) x := by simp [sumL]
theorem sumS_room (b s x : Int) (hs : -b ≤ s ∧ s ≤ b) : s + betw (-b - s) (b - s) x = sumS b s x := by
  unfold sumS betw
  repeat' split
  all_goals omega
theorem take_get (xs : List Int) {k : Nat} (h : k < xs.length) : xs.take (k + 1) = xs.take k ++ [xs.getD k 0] := by
  rw [List.take_succ_eq_append_getElem h]
  simp [List.getD, h]

set_option maxHeartbeats 400000 in
theorem sum_yes (b : Int) (a : Option Addr) (n c : Nat) (xs : List Int) (w : World) (h : IntsAt w a n xs) (hn : n ≤ maxLen) (h1 : 1 ≤ b) (h2 : b ≤ 2305843009213693952) :
    Calls Try.prog 12 #[.int .i64 b, .slice a n c] w fun e w' => e = .returned (.tuple #[.int .i64 (sumL b xs), .int .i64 0]) ∧ w = w' := by
  unfold maxLen at hn
  have HI := Lib.hid h
  have HLEN := Lib.hid (show n = xs.length from h.1)
  clear h
  go_enter Try.func12, Try.ntmps12
  go_wp2_with fail
  refine (bound_yes b _ h1 h2).mono ?_
  rintro e w' ⟨rfl, rfl⟩
  go_wp2_with fail
  go_loop [6, 14] (fun s i => ∃ k : Nat, k ≤ n ∧ i = .int .i64 k ∧ s = .int .i64 (sumL b (xs.take k))) (fun _ i => n - (intOf i).toNat)
  case atStart => exact ⟨0, Nat.zero_le _, rfl, rfl⟩
  case round =>
    obtain ⟨k, hk, rfl, rfl⟩ := hrel
    have hsb := sumL_bd (b := b) (xs.take k) h1
    by_cases hlt : k < n
    · have hkx : k < xs.length := by have := HLEN.out; omega
      rcases a with _ | ⟨lb, lo', ls⟩
      · have := HI.out.2.1 rfl; rw [this] at hkx; simp at hkx
      obtain ⟨rfl, hlc⟩ := HI.out.2.2 lb lo' ls rfl (List.ne_nil_of_length_pos (by omega))
      have hx := hlc k hkx
      obtain ⟨x, ex⟩ : ∃ x, x = xs.getD k 0 := ⟨_, rfl⟩
      rw [← ex] at hx
      have hts : sumL b (xs.take (k + 1)) = sumS b (sumL b (xs.take k)) x := by rw [take_get xs hkx, sumL_snoc, ex]
      obtain ⟨s, es⟩ : ∃ s, s = sumL b (xs.take k) := ⟨_, rfl⟩
      rw [← es] at hsb hts ⊢
      have hr := sumS_room b s x hsb
      have hrb := betw_bd (b := b) (s + x) h1
      obtain ⟨z, ez⟩ : ∃ z, z = betw (-b - s) (b - s) x := ⟨_, rfl⟩
      rw [← ez] at hr
      have hr1 : -b ≤ s + z ∧ s + z ≤ b := by rw [hr]; exact hrb
      have EX := Lib.hid ex
      have ES := Lib.hid es
      have EZ := Lib.hid ez
      have HR := Lib.hid (hts.trans hr.symm)
      clear hlc ex hts es hr hrb ez
      go_wp2_with fail
      refine (between_any _ _ _ _).mono ?_
      rintro e w' ⟨he, rfl⟩
      rw [← EZ.out] at he
      subst he
      go_wp2_with fail
      go_round
      case rel => exact ⟨k + 1, by omega, by go_num, by rw [HR.out]⟩
      case measure => simp [intOf]; omega
    · have hkn : sumL b (xs.take k) = sumL b xs := by rw [List.take_of_length_le (by have := HLEN.out; omega)]
      rw [hkn]
      clear hkn hsb
      go_wp2_with fail
      go_ret2
      exact ⟨rfl, rfl⟩
theorem sum_no (b : Int) (a : Option Addr) (n c : Nat) (w : World) (h : b < 1 ∨ 2305843009213693952 < b) :
    Calls Try.prog 12 #[.int .i64 b, .slice a n c] w fun e w' => e = .returned (.tuple #[.int .i64 0, .int .i64 2]) ∧ w = w' := by
  have HH := Lib.hid h
  clear h
  go_enter Try.func12, Try.ntmps12
  go_wp2_with fail
  refine (bound_no b _ HH.out).mono ?_
  rintro e w' ⟨rfl, rfl⟩
  go_wp2_with fail
  go_ret2
  exact ⟨rfl, rfl⟩
end Go.Proofs.Ytfkopmgmhmmcbaa
