
/- The document's own flash in memory, and how it turns by single stores; the bits that two words both have. -/
import Derived.Test.YtcaphgokckkmfaaLU
namespace Go.Proofs.Ytcaphgokckkmfaa
open Go.RowKit
set_option maxRecDepth 100000
set_option linter.unusedVariables false
variable {w w' : World} {F : List Nat}

theorem and_step (x y k : Nat) : (x &&& y) % 2 ^ (k + 1) = (x &&& y) % 2 ^ k + (if x / 2 ^ k % 2 = 1 ∧ y / 2 ^ k % 2 = 1 then 2 ^ k else 0) := by
  rw [Nat.mod_pow_succ]
  congr 1
  have h : (x &&& y) / 2 ^ k % 2 = (x / 2 ^ k % 2) * (y / 2 ^ k % 2) := by
    have e : ∀ z : Nat, z / 2 ^ k % 2 = (z.testBit k).toNat := by
      intro z
      rw [Nat.testBit_eq_decide_div_mod_eq]
      rcases Nat.mod_two_eq_zero_or_one (z / 2 ^ k) with h | h <;> simp [h]
    rw [e, e, e, Nat.testBit_and]
    cases x.testBit k <;> cases y.testBit k <;> rfl
  rw [h]
  rcases Nat.mod_two_eq_zero_or_one (x / 2 ^ k) with h1 | h1 <;> rcases Nat.mod_two_eq_zero_or_one (y / 2 ^ k) with h2 | h2 <;> simp [h1, h2]

def ftwoP (k : Nat) : Int := ((2 ^ k : Nat) : Int)
def andP (x y k : Nat) : Int := (((x &&& y) % 2 ^ k : Nat) : Int)
def fhalfP (x k : Nat) : Int := ((x / 2 ^ k : Nat) : Int)
theorem ftwoP_le {k : Nat} (h : k ≤ 16) : 1 ≤ ftwoP k ∧ ftwoP k ≤ 65536 := by
  unfold ftwoP
  have h1 : 2 ^ k ≤ 2 ^ 16 := Nat.pow_le_pow_right (by omega) h
  have h2 : 0 < 2 ^ k := Nat.pow_pos (by omega)
  omega
theorem ftwoP_succ (k : Nat) : 2 * ftwoP k = ftwoP (k + 1) := by unfold ftwoP; rw [Nat.pow_succ]; omega
theorem fhalfP_le {x k : Nat} (h : x < 65536) : 0 ≤ fhalfP x k ∧ fhalfP x k ≤ 65535 := by
  unfold fhalfP
  have h2 : x / 2 ^ k ≤ 65535 := Nat.le_trans (Nat.div_le_self x (2 ^ k)) (by omega)
  exact ⟨Int.natCast_nonneg _, Int.ofNat_le.2 h2⟩
theorem fhalfP_succ (x k : Nat) : fhalfP x k / 2 = fhalfP x (k + 1) := by
  unfold fhalfP
  rw [Nat.pow_succ, ← Nat.div_div_eq_div_mul]
  omega
theorem andP_le {x y k : Nat} (h : x < 65536) : 0 ≤ andP x y k ∧ andP x y k ≤ 65535 := by
  unfold andP
  have h1 : (x &&& y) % 2 ^ k ≤ x &&& y := Nat.mod_le _ _
  have h2 : x &&& y ≤ x := Nat.and_le_left
  omega
theorem andP_succ (x y k : Nat) : andP x y (k + 1) = if fhalfP x k % 2 = 1 ∧ fhalfP y k % 2 = 1 then andP x y k + ftwoP k else andP x y k := by
  unfold andP fhalfP ftwoP
  rw [and_step]
  by_cases h : x / 2 ^ k % 2 = 1 ∧ y / 2 ^ k % 2 = 1
  · rw [if_pos h, if_pos (by omega)]; omega
  · rw [if_neg h, if_neg (by omega)]; omega

set_option maxHeartbeats 1000000 in
theorem and_any (x y : Nat) (w : World) (hx : x < 65536) (hy : y < 65536) : Calls Try.prog 62 #[.int .i64 x, .int .i64 y] w fun e w' => e = .returned (.int .i64 (bits .and .i64 (x : Int) (y : Int))) ∧ w = w' := by
  have hfin : andP x y 16 = bits .and .i64 (x : Int) (y : Int) := by
    rw [bits_i64_and x y hx hy]
    unfold andP
    rw [Nat.mod_eq_of_lt]
    exact Nat.lt_of_le_of_lt Nat.and_le_left (by omega)
  have x0 : (x : Int) = fhalfP x 0 := by simp [fhalfP]
  have y0 : (y : Int) = fhalfP y 0 := by simp [fhalfP]
  have HF := Lib.hid hfin
  rw [← hfin]
  obtain ⟨X, hX⟩ : ∃ X : Int, X = (x : Int) := ⟨_, rfl⟩
  obtain ⟨Y, hY⟩ : ∃ Y : Int, Y = (y : Int) := ⟨_, rfl⟩
  rw [← hX, ← hY]
  have X0 := Lib.hid (hX.trans x0)
  have Y0 := Lib.hid (hY.trans y0)
  have HLX := Lib.hid hx
  have HLY := Lib.hid hy
  clear hX hY x0 y0 hfin hx hy
  go_enter Try.func62, Try.ntmps62
  go_wp2
  go_loop [0, 1, 5, 6, 7] (fun va vb vo v1 vi => ∃ k : Nat, k ≤ 16 ∧ va = .int .i64 (fhalfP x k) ∧ vb = .int .i64 (fhalfP y k) ∧ vo = .int .i64 (andP x y k) ∧ v1 = .int .i64 (ftwoP k) ∧ vi = .int .i64 k) (fun _ _ _ _ vi => 16 - (intOf vi).toNat)
  case atStart => exact ⟨0, by omega, by rw [X0.out], by rw [Y0.out], by simp [andP, Nat.mod_one], rfl, rfl⟩
  case round =>
    obtain ⟨k, hk, rfl, rfl, rfl, rfl, rfl⟩ := hrel
    have hxk := fhalfP_le (k := k) HLX.out
    have hyk := fhalfP_le (k := k) HLY.out
    have hak := andP_le (y := y) (k := k) HLX.out
    have htk := ftwoP_le hk
    obtain ⟨A, hA⟩ : ∃ A, A = fhalfP x k := ⟨_, rfl⟩
    obtain ⟨B, hB⟩ : ∃ B, B = fhalfP y k := ⟨_, rfl⟩
    obtain ⟨C, hC⟩ : ∃ C, C = andP x y k := ⟨_, rfl⟩
    obtain ⟨D, hD⟩ : ∃ D, D = ftwoP k := ⟨_, rfl⟩
    rw [← hA, ← hB, ← hC, ← hD]
    rw [← hA] at hxk
    rw [← hB] at hyk
    rw [← hC] at hak
    rw [← hD] at htk
    have sA : A / 2 = fhalfP x (k + 1) := by rw [hA]; exact fhalfP_succ x k
    have sB : B / 2 = fhalfP y (k + 1) := by rw [hB]; exact fhalfP_succ y k
    have sD : 2 * D = ftwoP (k + 1) := by rw [hD]; exact ftwoP_succ k
    have sC : andP x y (k + 1) = if A % 2 = 1 ∧ B % 2 = 1 then C + D else C := by rw [hA, hB, hC, hD]; exact andP_succ x y k
    have SA := Lib.hid sA
    have SB := Lib.hid sB
    have SC := Lib.hid sC
    have SD := Lib.hid sD
    have HC := Lib.hid hC
    clear sA sB sC sD hA hB hC hD
    by_cases hlt : k < 16
    · by_cases h1 : A % 2 = 1
      · have hb1 : (A % 2 == 1) = true := by simp [h1]
        by_cases h2 : B % 2 = 1
        · have hb2 : (B % 2 == 1) = true := by simp [h2]
          have SC2 := Lib.hid (SC.out.trans (if_pos ⟨h1, h2⟩))
          clear h1 h2
          go_wp2
          go_round
          case rel => exact ⟨k + 1, by omega, by rw [← SA.out], by rw [← SB.out], by rw [SC2.out], by rw [← SD.out], by go_num⟩
          case measure => simp [intOf]; omega
        · have hb2 : (B % 2 == 1) = false := by simp [h2]
          have SC2 := Lib.hid (SC.out.trans (if_neg (fun h => h2 h.2)))
          clear h1 h2
          go_wp2
          go_round
          case rel => exact ⟨k + 1, by omega, by rw [← SA.out], by rw [← SB.out], by rw [SC2.out], by rw [← SD.out], by go_num⟩
          case measure => simp [intOf]; omega
      · have hb1 : (A % 2 == 1) = false := by simp [h1]
        have SC2 := Lib.hid (SC.out.trans (if_neg (fun h => h1 h.1)))
        clear h1
        go_wp2
        go_round
        case rel => exact ⟨k + 1, by omega, by rw [← SA.out], by rw [← SB.out], by rw [SC2.out], by rw [← SD.out], by go_num⟩
        case measure => simp [intOf]; omega
    · have hk16 : andP x y 16 = C := by rw [HC.out, show k = 16 from by omega]
      have HK := Lib.hid hk16
      clear hk16
      go_wp2
      go_ret
      exact ⟨by rw [HK.out]; rfl, rfl⟩

end Go.Proofs.Ytcaphgokckkmfaa
