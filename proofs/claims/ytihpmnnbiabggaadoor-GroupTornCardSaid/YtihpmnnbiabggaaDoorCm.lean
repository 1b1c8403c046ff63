
/- CRC-16, polynomial 4129: plain facts on numbers. No condition. -/
import Derived.Test.YtihpmnnbiabggaaDoorAp
import Derived.Test.YtihpmnnbiabggaaDoorAm
namespace Go.Proofs.YtihpmnnbiabggaaDoor
namespace CM

def dbl (s : Nat) : Nat := (2 * s % 65536) ^^^ (if s.testBit 15 then 4129 else 0)
def dblN : Nat → Nat → Nat
  | 0, s => s
  | n + 1, s => dblN n (dbl s)
def crc (s : Nat) (ws : List Nat) : Nat := ws.foldl (fun s w => dblN 16 (s ^^^ w)) s

theorem dbl_lt (s : Nat) : dbl s < 65536 := by
  unfold dbl
  refine Nat.xor_lt_two_pow (n := 16) (Nat.mod_lt _ (by omega)) ?_
  split <;> omega
theorem dblN_lt {n s : Nat} (h : s < 65536) : dblN n s < 65536 := by
  induction n generalizing s with
  | zero => exact h
  | succ n ih => exact ih (dbl_lt s)
theorem two_xor (a b : Nat) : 2 * (a ^^^ b) % 65536 = (2 * a % 65536) ^^^ (2 * b % 65536) := by
  have e : ∀ x : Nat, 2 * x = x <<< 1 := fun x => by rw [Nat.shiftLeft_eq]; omega
  rw [e, e, e, Nat.shiftLeft_xor_distrib]
  exact Nat.xor_mod_two_pow (n := 16)
theorem xor_swap (a b c d : Nat) : (a ^^^ b) ^^^ (c ^^^ d) = (a ^^^ c) ^^^ (b ^^^ d) := by
  rw [Nat.xor_assoc, Nat.xor_assoc, ← Nat.xor_assoc b c d, Nat.xor_comm b c, Nat.xor_assoc c b d]
theorem dbl_xor (a b : Nat) : dbl (a ^^^ b) = dbl a ^^^ dbl b := by
  unfold dbl
  rw [two_xor, xor_swap (2 * a % 65536)]
  congr 1
  rw [Nat.testBit_xor]
  cases a.testBit 15 <;> cases b.testBit 15 <;> simp
theorem dblN_xor (n a b : Nat) : dblN n (a ^^^ b) = dblN n a ^^^ dblN n b := by
  induction n generalizing a b with
  | zero => rfl
  | succ n ih => rw [dblN, dblN, dblN, dbl_xor, ih]
theorem dblN_add (m n s : Nat) : dblN (m + n) s = dblN n (dblN m s) := by
  induction m generalizing s with
  | zero => rw [Nat.zero_add]; rfl
  | succ m ih => rw [Nat.succ_add, dblN, ih]; rfl
theorem dblN_zero (n : Nat) : dblN n 0 = 0 := by
  induction n with
  | zero => rfl
  | succ n ih => rw [dblN, show dbl 0 = 0 from rfl, ih]
/-- Doubling without a carry. -/
theorem dbl_small {s : Nat} (h : s < 32768) : dbl s = 2 * s := by
  unfold dbl
  rw [show s.testBit 15 = false from Nat.testBit_lt_two_pow (by omega)]
  simp; omega
theorem dblN_small {n s : Nat} (h : s * 2 ^ n < 65536) : dblN n s = s * 2 ^ n := by
  induction n generalizing s with
  | zero => rw [Nat.pow_zero, Nat.mul_one]; rfl
  | succ n ih =>
    have h1 : 1 ≤ 2 ^ n := Nat.pow_pos (by omega)
    have h2 : s * 2 ^ (n + 1) = 2 * s * 2 ^ n := by rw [Nat.pow_succ, Nat.mul_comm (2 ^ n), ← Nat.mul_assoc, Nat.mul_comm s 2]
    rw [h2] at h ⊢
    have h3 : 2 * s < 65536 := Nat.lt_of_le_of_lt (Nat.le_mul_of_pos_right _ h1) h
    rw [dblN, dbl_small (by omega), ih h]
/-- Doubling is told by what comes of it: nothing is lost. -/
theorem dbl_eq_zero {s : Nat} (h : s < 65536) (h0 : dbl s = 0) : s = 0 := by
  unfold dbl at h0
  cases hb : s.testBit 15
  · rw [hb] at h0
    simp at h0
    have h1 : s < 32768 := by
      rw [Nat.testBit_eq_decide_div_mod_eq, decide_eq_false_iff_not] at hb
      omega
    omega
  · rw [hb] at h0
    have h1 := congrArg (fun x => Nat.testBit x 0) h0
    simp only [Nat.testBit_xor, if_true] at h1
    rw [show Nat.testBit (2 * s % 65536) 0 = false from by rw [Nat.testBit_eq_decide_div_mod_eq, decide_eq_false_iff_not]; omega] at h1
    exact absurd h1 (by decide)
theorem dblN_eq_zero {n s : Nat} (h : s < 65536) (h0 : dblN n s = 0) : s = 0 := by
  induction n generalizing s with
  | zero => exact h0
  | succ n ih => exact dbl_eq_zero h (ih (dbl_lt s) h0)
theorem xor_eq_zero {a b : Nat} : a ^^^ b = 0 ↔ a = b := by
  constructor
  · intro h
    have := congrArg (fun x => x ^^^ b) h
    simp only [Nat.xor_assoc, Nat.xor_self, Nat.xor_zero, Nat.zero_xor] at this
    exact this
  · rintro rfl; exact Nat.xor_self _
theorem dblN_inj {n a b : Nat} (ha : a < 65536) (hb : b < 65536) (h : dblN n a = dblN n b) : a = b := by
  have h1 : dblN n (a ^^^ b) = 0 := by rw [dblN_xor, h, Nat.xor_self]
  exact xor_eq_zero.1 (dblN_eq_zero (Nat.xor_lt_two_pow (n := 16) ha hb) h1)

def turnsL : List Nat := [0, 4129, 8258, 12387, 16516, 20645, 24774, 28903, 33032, 37161, 41290, 45419, 49548, 53677, 57806, 61935]
/-- Four at once, by the table. -/
theorem dblN_four {s : Nat} (h : s < 65536) : dblN 4 s = (s * 16 % 65536) ^^^ turnsL.getD (s / 4096) 0 := by
  have hs : s = (s / 4096 * 4096) ^^^ (s % 4096) := by
    have e1 : s / 4096 * 4096 = (s / 4096) <<< 12 := by rw [Nat.shiftLeft_eq]
    have h1 : (s / 4096) <<< 12 ||| s % 4096 = (s / 4096) <<< 12 + s % 4096 := Nat.shiftLeft_add_eq_or_of_lt (by omega) _ |>.symm
    refine Nat.eq_of_testBit_eq (fun i => ?_)
    have h2 : s.testBit i = ((s / 4096) <<< 12 ||| s % 4096).testBit i := by
      rw [h1, Nat.shiftLeft_eq]; congr 1; omega
    rw [h2, e1, Nat.testBit_xor, Nat.testBit_or, Nat.testBit_shiftLeft]
    by_cases hi : 12 ≤ i
    · have : (s % 4096).testBit i = false := Nat.testBit_lt_two_pow (Nat.lt_of_lt_of_le (Nat.mod_lt _ (by omega)) (show 2 ^ 12 ≤ 2 ^ i from Nat.pow_le_pow_right (by omega) hi))
      simp [this, hi]
    · simp [hi]
  have hh : ∀ t : Nat, t < 16 → dblN 4 (t * 4096) = turnsL.getD t 0 := by decide
  have ht : s / 4096 < 16 := by omega
  conv => lhs; rw [hs, dblN_xor, hh _ ht, dblN_small (by omega)]
  rw [Nat.xor_comm]
  congr 1
  omega

theorem crc_nil (s : Nat) : crc s [] = s := rfl
theorem crc_cons (s w : Nat) (l : List Nat) : crc s (w :: l) = crc (dblN 16 (s ^^^ w)) l := rfl
theorem crc_append (s : Nat) (a b : List Nat) : crc s (a ++ b) = crc (crc s a) b := List.foldl_append ..
theorem crc_lt {s : Nat} {l : List Nat} (h : s < 65536) (hl : ∀ w ∈ l, w < 65536) : crc s l < 65536 := by
  induction l generalizing s with
  | nil => exact h
  | cons w l ih =>
    rw [crc_cons]
    exact ih (dblN_lt (Nat.xor_lt_two_pow (n := 16) h (hl w (List.mem_cons_self ..)))) (fun x hx => hl x (List.mem_cons_of_mem _ hx))
/-- The sum of words and what differs, by what differs alone. -/
theorem crc_xor (s t : Nat) (a b : List Nat) (h : a.length = b.length) : crc (s ^^^ t) (List.zipWith (· ^^^ ·) a b) = crc s a ^^^ crc t b := by
  induction a generalizing s t b with
  | nil => cases b with
    | nil => rfl
    | cons y b => cases h
  | cons x a ih =>
    cases b with
    | nil => cases h
    | cons y b =>
      rw [List.zipWith_cons_cons, crc_cons, crc_cons, crc_cons, xor_swap, dblN_xor]
      exact ih _ _ b (by simpa using h)
theorem crc_inj {s t : Nat} {l : List Nat} (hs : s < 65536) (ht : t < 65536) (hl : ∀ w ∈ l, w < 65536) (h : crc s l = crc t l) : s = t := by
  induction l generalizing s t with
  | nil => exact h
  | cons w l ih =>
    have hw := hl w (List.mem_cons_self ..)
    have h1 := ih (dblN_lt (Nat.xor_lt_two_pow (n := 16) hs hw)) (dblN_lt (Nat.xor_lt_two_pow (n := 16) ht hw)) (fun x hx => hl x (List.mem_cons_of_mem _ hx)) h
    have h2 := dblN_inj (Nat.xor_lt_two_pow (n := 16) hs hw) (Nat.xor_lt_two_pow (n := 16) ht hw) h1
    have := congrArg (fun x => x ^^^ w) h2
    simp only [Nat.xor_assoc, Nat.xor_self, Nat.xor_zero] at this
    exact this
theorem crc_same {s : Nat} {w : Nat} : dblN 16 (s ^^^ w) = crc s [w] := rfl
/-- A sum with itself as the next word goes on to 0. -/
theorem crc_end (s : Nat) : crc s [s] = 0 := by
  rw [crc_cons, Nat.xor_self, dblN_zero]; rfl
theorem crc_end_iff {s x : Nat} (hs : s < 65536) (hx : x < 65536) : crc s [x] = 0 ↔ x = s := by
  constructor
  · intro h
    rw [crc_cons, crc_nil] at h
    exact (xor_eq_zero.1 (dblN_eq_zero (Nat.xor_lt_two_pow (n := 16) hs hx) h)).symm
  · rintro rfl; exact crc_end _
/-- Sixteen bits that begin n bits behind a word's highest: what they do to a sum. -/
theorem burst {x n : Nat} (hx : x < 65536) (hn : n ≤ 16) : dblN 16 (x / 2 ^ n) ^^^ (x * 2 ^ (16 - n) % 65536) = dblN (16 - n) x := by
  have hp : 2 ^ n * 2 ^ (16 - n) = 65536 := by rw [← Nat.pow_add, show n + (16 - n) = 16 by omega]
  have hs : x = (x / 2 ^ n * 2 ^ n) ^^^ (x % 2 ^ n) := by
    have e1 : x / 2 ^ n * 2 ^ n = (x / 2 ^ n) <<< n := by rw [Nat.shiftLeft_eq]
    have hm : x % 2 ^ n < 2 ^ n := Nat.mod_lt _ (Nat.pow_pos (by omega))
    have h1 : (x / 2 ^ n) <<< n ||| x % 2 ^ n = (x / 2 ^ n) <<< n + x % 2 ^ n := Nat.shiftLeft_add_eq_or_of_lt hm _ |>.symm
    refine Nat.eq_of_testBit_eq (fun i => ?_)
    have h2 : x.testBit i = ((x / 2 ^ n) <<< n ||| x % 2 ^ n).testBit i := by
      rw [h1, Nat.shiftLeft_eq, Nat.mul_comm, Nat.div_add_mod]
    rw [h2, e1, Nat.testBit_xor, Nat.testBit_or, Nat.testBit_shiftLeft]
    by_cases hi : n ≤ i
    · have : (x % 2 ^ n).testBit i = false := Nat.testBit_lt_two_pow (Nat.lt_of_lt_of_le hm (Nat.pow_le_pow_right (by omega) hi))
      simp [this, hi]
    · simp [hi]
  have hm : x % 2 ^ n < 2 ^ n := Nat.mod_lt _ (Nat.pow_pos (by omega))
  have hl : x % 2 ^ n * 2 ^ (16 - n) < 65536 := by
    rw [← hp]; exact Nat.mul_lt_mul_of_pos_right hm (Nat.pow_pos (by omega))
  have hh : x / 2 ^ n * 2 ^ n < 65536 := Nat.lt_of_le_of_lt (Nat.div_mul_le_self _ _) hx
  have hr : x * 2 ^ (16 - n) % 65536 = x % 2 ^ n * 2 ^ (16 - n) := by
    rw [← hp, Nat.mul_mod_mul_right]
  conv => rhs; rw [hs, dblN_xor, dblN_small hl]
  rw [hr]
  congr 1
  rw [← dblN_small hh, ← dblN_add]
  congr 1
  omega
end CM
end Go.Proofs.YtihpmnnbiabggaaDoor
