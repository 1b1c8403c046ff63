
/- The document's own sums of words: their contracts. No condition. -/
import Derived.Test.YtihpmnnbiabggaaDoorCr
namespace Go.Proofs.YtihpmnnbiabggaaDoor
open Go.RowKit
set_option maxRecDepth 100000
set_option linter.unusedVariables false
variable {w w' : World} {F : List Nat}

theorem xor_step (x y k : Nat) : (x ^^^ y) % 2 ^ (k + 1) = (x ^^^ y) % 2 ^ k + (if x / 2 ^ k % 2 ≠ y / 2 ^ k % 2 then 2 ^ k else 0) := by
  rw [Nat.mod_pow_succ]
  congr 1
  have e : ∀ z : Nat, z / 2 ^ k % 2 = (z.testBit k).toNat := by
    intro z
    rw [Nat.testBit_eq_decide_div_mod_eq]
    rcases Nat.mod_two_eq_zero_or_one (z / 2 ^ k) with h | h <;> simp [h]
  rw [e (x ^^^ y), e x, e y, Nat.testBit_xor]
  cases x.testBit k <;> cases y.testBit k <;> simp

def twoP (k : Nat) : Int := ((2 ^ k : Nat) : Int)
def xorP (x y k : Nat) : Int := (((x ^^^ y) % 2 ^ k : Nat) : Int)
def halfP (x k : Nat) : Int := ((x / 2 ^ k : Nat) : Int)
theorem twoP_le {k : Nat} (h : k ≤ 16) : 1 ≤ twoP k ∧ twoP k ≤ 65536 := by
  unfold twoP
  have h1 : 2 ^ k ≤ 2 ^ 16 := Nat.pow_le_pow_right (by omega) h
  have h2 : 0 < 2 ^ k := Nat.pow_pos (by omega)
  omega
theorem twoP_succ (k : Nat) : 2 * twoP k = twoP (k + 1) := by unfold twoP; rw [Nat.pow_succ]; omega
theorem halfP_le {x k : Nat} (h : x < 65536) : 0 ≤ halfP x k ∧ halfP x k ≤ 65535 := by
  unfold halfP
  have h2 : x / 2 ^ k ≤ 65535 := Nat.le_trans (Nat.div_le_self x (2 ^ k)) (by omega)
  exact ⟨Int.natCast_nonneg _, Int.ofNat_le.2 h2⟩
theorem halfP_succ (x k : Nat) : halfP x k / 2 = halfP x (k + 1) := by
  unfold halfP
  rw [Nat.pow_succ, ← Nat.div_div_eq_div_mul]
  omega
theorem xorP_le {x y k : Nat} (h : x < 65536) (h2 : y < 65536) : 0 ≤ xorP x y k ∧ xorP x y k ≤ 65535 := by
  unfold xorP
  have h1 : (x ^^^ y) % 2 ^ k ≤ x ^^^ y := Nat.mod_le _ _
  have h3 : x ^^^ y < 2 ^ 16 := Nat.xor_lt_two_pow (n := 16) h h2
  omega
theorem xorP_succ (x y k : Nat) : xorP x y (k + 1) = if halfP x k % 2 = halfP y k % 2 then xorP x y k else xorP x y k + twoP k := by
  unfold xorP halfP twoP
  rw [xor_step]
  by_cases h : x / 2 ^ k % 2 = y / 2 ^ k % 2
  · rw [if_neg (by omega), if_pos (by omega)]; omega
  · rw [if_pos h, if_neg (by omega)]; omega

/-- Doubling, as the document says it. -/
theorem dbl_big {s : Nat} (h : s < 65536) (h1 : 32768 ≤ s) : (2 * (s - 32768)) ^^^ 4129 = CM.dbl s := by
  unfold CM.dbl
  have hb : s.testBit 15 = true := by rw [Nat.testBit_eq_decide_div_mod_eq, decide_eq_true_iff]; omega
  rw [if_pos hb, show 2 * (s - 32768) = 2 * s % 65536 by omega]
theorem crcOf_any (a : Option Addr) (n c : Nat) (xs : List Int) (w : World) (ht : Turns w) (hi : IntsAt w a n xs) (hn : n ≤ maxLen) :
    Calls Tryd.prog 39 #[.slice a n c] w fun e w' => e = .returned (.int .i64 (crcI 65535 xs)) ∧ w = w' := by
  have HT := Lib.hid ht
  have HI := Lib.hid hi
  clear ht hi
  go_enter Tryd.func39, Tryd.ntmps39
  go_wp2_with (go_at_call 47; refine (on_any _ _ _ _ _ _ HT.out HI.out hn).mono ?_; rintro e w' ⟨rfl, rfl⟩)
  go_ret
  exact ⟨rfl, rfl⟩
end Go.Proofs.YtihpmnnbiabggaaDoor
