
/- pack: numbers in words, and bits in words: plain facts, no program. -/
import Derived.Test.YtihpmnnbiabggaaDoorKp
namespace Go.Proofs.YtihpmnnbiabggaaDoor
open Go.RowKit
set_option linter.unusedVariables false

/-- 2 to the 16k. -/
def fullN : Nat → Int
  | 0 => 1
  | k + 1 => 65536 * fullN k
/-- What k words keep of a number with a sign. -/
def keptS (k : Nat) (n : Int) : Int := (n + fullN k / 2) % fullN k - fullN k / 2
/-- .. without one. -/
def keptP (k : Nat) (n : Int) : Int := n % fullN k
theorem full1 : fullN 1 = 65536 := rfl
theorem full2 : fullN 2 = 4294967296 := rfl
theorem full3 : fullN 3 = 281474976710656 := rfl
theorem full4 : fullN 4 = 18446744073709551616 := rfl

/-- Does a number go into k words? -/
def fitB (k : Nat) (s : Bool) (n : Int) : Bool :=
  if s = true then decide (-(fullN k / 2) ≤ n ∧ n < fullN k / 2) else decide (0 ≤ n ∧ n < fullN k ∧ n ≤ 9223372036854775807)

/-- A number's k lowest words, the highest one first. -/
def wd : Nat → Int → List Int
  | 0, _ => []
  | k + 1, n => wd k (n / 65536) ++ [n % 65536]
theorem wd_len (k : Nat) (n : Int) : (wd k n).length = k := by
  induction k generalizing n with
  | zero => rfl
  | succ k ih => simp [wd, ih]
/-- The same, taken from its highest one on. -/
theorem wd_cons (k : Nat) (n : Int) : wd (k + 1) n = (n / fullN k % 65536) :: wd k n := by
  induction k generalizing n with
  | zero => simp [wd, fullN]
  | succ k ih =>
    rw [wd, ih (n / 65536)]
    show _ = _ :: (wd k (n / 65536) ++ [n % 65536])
    rw [List.cons_append]
    congr 2
    show n / 65536 / fullN k = n / (65536 * fullN k)
    rw [Int.ediv_ediv_of_nonneg (by omega)]
/-- The number that words hold. -/
def valL (xs : List Int) : Int := xs.foldl (fun v x => v * 65536 + x) 0
theorem valL_snoc (xs : List Int) (x : Int) : valL (xs ++ [x]) = valL xs * 65536 + x := by simp [valL]
theorem full_pos (k : Nat) : 0 < fullN k := by
  induction k with
  | zero => decide
  | succ k ih => simp only [fullN]; omega
theorem valL_wd (k : Nat) (n : Int) : valL (wd k n) = n % fullN k := by
  induction k generalizing n with
  | zero => simp [wd, valL, fullN]
  | succ k ih =>
    rw [wd, valL_snoc, ih]
    simp only [fullN]
    have h1 := Int.mul_ediv_add_emod (n / 65536) (fullN k)
    have h2 := Int.emod_nonneg (n / 65536) (show fullN k ≠ 0 by have := full_pos k; omega)
    have h3 := Int.emod_lt_of_pos (n / 65536) (full_pos k)
    have h4 := Int.mul_ediv_add_emod n 65536
    have h5 := Int.emod_nonneg n (show (65536 : Int) ≠ 0 by omega)
    have h6 := Int.emod_lt_of_pos n (show (0 : Int) < 65536 by omega)
    have h7 := (Int.ediv_emod_unique (a := n) (b := 65536 * fullN k) (r := n / 65536 % fullN k * 65536 + n % 65536) (q := n / 65536 / fullN k) (by have := full_pos k; omega)).2 ⟨by rw [Int.mul_assoc]; omega, by omega, by omega⟩
    exact h7.2.symm
theorem valL_bd {xs : List Int} (h : ∀ x ∈ xs, 0 ≤ x ∧ x ≤ 65535) : 0 ≤ valL xs ∧ valL xs < fullN xs.length := by
  suffices ∀ n (xs : List Int), xs.length = n → (∀ x ∈ xs, 0 ≤ x ∧ x ≤ 65535) → 0 ≤ valL xs ∧ valL xs < fullN n from this _ xs rfl h
  intro n
  induction n with
  | zero =>
    intro xs hl _
    have : xs = [] := List.length_eq_zero_iff.1 hl
    subst this
    decide
  | succ n ih =>
    intro xs hl hx
    have hne : xs ≠ [] := List.ne_nil_of_length_pos (by omega)
    obtain ⟨ys, y, rfl⟩ : ∃ ys y, xs = ys ++ [y] := ⟨xs.dropLast, xs.getLast hne, (List.dropLast_concat_getLast hne).symm⟩
    have h1 := ih ys (by simp at hl; omega) (fun x hx' => hx x (by simp [hx']))
    have h2 := hx y (by simp)
    rw [valL_snoc]
    simp only [fullN]
    omega
/-- All numbers' words, one behind the other. -/
def flatW (k : Nat) (xs : List Int) : List Int := xs.flatMap (wd k)
theorem flatW_len (k : Nat) (xs : List Int) : (flatW k xs).length = k * xs.length := by
  induction xs with
  | nil => rfl
  | cons x xs ih =>
    have : flatW k (x :: xs) = wd k x ++ flatW k xs := rfl
    rw [this, List.length_append, wd_len, ih, List.length_cons, Nat.mul_succ]
    omega
theorem flatW_snoc (k : Nat) (xs : List Int) (x : Int) : flatW k (xs ++ [x]) = flatW k xs ++ wd k x := by simp [flatW]

/-- What is put, and what it is answered. -/
def putR (k : Int) (s : Bool) (xs : List Int) : Int × List Int :=
  if 1 ≤ k ∧ k ≤ 4 ∧ ∀ x ∈ xs, fitB k.toNat s x = true then (0, flatW k.toNat xs) else (2, [])
/-- What is got, and what it is answered. -/
def getR (k : Int) (s : Bool) (xs : List Int) : Int × Int :=
  if ¬ (1 ≤ k ∧ k ≤ 4) then (2, 0)
  else if ¬ ∀ x ∈ xs.take k.toNat, 0 ≤ x ∧ x ≤ 65535 then (2, 0)
  else if xs.length < k.toNat then (7, 0)
  else if s = true then (0, keptS k.toNat (valL (xs.take k.toNat)))
  else if 9223372036854775807 < valL (xs.take k.toNat) then (3, 0)
  else (0, valL (xs.take k.toNat))

theorem fit_pos {k : Nat} {n : Int} (hf : fitB k false n = true) : n % fullN k = n ∧ n ≤ 9223372036854775807 := by
  unfold fitB at hf
  simp only [Bool.false_eq_true, if_false, decide_eq_true_eq] at hf
  exact ⟨Int.emod_eq_of_lt hf.1 hf.2.1, hf.2.2⟩
theorem kept_in {k : Nat} {n : Int} (h1 : 1 ≤ k) (h : -(fullN k / 2) ≤ n ∧ n < fullN k / 2) : keptS k n = n := by
  obtain ⟨j, rfl⟩ : ∃ j, k = j + 1 := ⟨k - 1, by omega⟩
  unfold keptS
  have h2 : fullN (j + 1) = 65536 * fullN j := rfl
  rw [Int.emod_eq_of_lt (by omega) (by omega)]
  omega
theorem kept_mod (k : Nat) (n : Int) : keptS k (n % fullN k) = keptS k n := by
  unfold keptS
  rw [Int.emod_add_emod]
theorem fit_neg {k : Nat} {n : Int} (h1 : 1 ≤ k) (hf : fitB k true n = true) : keptS k (n % fullN k) = n := by
  unfold fitB at hf
  simp only [if_true, decide_eq_true_eq] at hf
  rw [kept_mod, kept_in h1 hf]
theorem kept_bd {k : Nat} (n : Int) (h1 : 1 ≤ k) : -(fullN k / 2) ≤ keptS k n ∧ keptS k n < fullN k / 2 := by
  obtain ⟨j, rfl⟩ : ∃ j, k = j + 1 := ⟨k - 1, by omega⟩
  unfold keptS
  have h2 : fullN (j + 1) = 65536 * fullN j := rfl
  have h3 := full_pos j
  have h5 := Int.emod_nonneg (n + fullN (j + 1) / 2) (show fullN (j + 1) ≠ 0 by omega)
  have h6 := Int.emod_lt_of_pos (n + fullN (j + 1) / 2) (show 0 < fullN (j + 1) by omega)
  omega

/-- What was put is got. -/
theorem get_put (k : Nat) (s : Bool) (n : Int) (h1 : 1 ≤ k) (h4 : k ≤ 4) (hf : fitB k s n = true) (rest : List Int) : getR k s (wd k n ++ rest) = (0, n) := by
  unfold getR
  have e : (wd k n ++ rest).take k = wd k n := by rw [List.take_append_of_le_length (by rw [wd_len]; exact Nat.le_refl _), List.take_of_length_le (by rw [wd_len]; exact Nat.le_refl _)]
  have hw : ∀ j m, ∀ x ∈ wd j m, 0 ≤ x ∧ x ≤ 65535 := by
    intro j
    induction j with
    | zero => intro m x hx; simp [wd] at hx
    | succ j ih =>
      intro m x hx
      simp only [wd, List.mem_append, List.mem_singleton] at hx
      rcases hx with hx | rfl
      · exact ih _ x hx
      · omega
  rw [if_neg (by omega), Int.toNat_natCast, e, if_neg (by simpa using hw k n), if_neg (by simp [wd_len]), valL_wd]
  cases s
  · obtain ⟨h5, h6⟩ := fit_pos hf
    rw [if_neg (by decide), h5, if_neg (by omega)]
  · rw [if_pos rfl, fit_neg h1 hf]

/-- Bits, the highest first: the w lowest ones of v. -/
def bl : Nat → Int → List Int
  | 0, _ => []
  | j + 1, v => bl j (v / 2) ++ [v % 2]
/-- The number that bits make. -/
def valB (bs : List Int) : Int := bs.foldl (fun v b => 2 * v + b) 0
def P2 : Nat → Int
  | 0 => 1
  | k + 1 => 2 * P2 k
theorem P2_pos (k : Nat) : 0 < P2 k := by
  induction k with
  | zero => decide
  | succ k ih => simp only [P2]; omega
theorem P2_eq (k : Nat) : P2 k = 2 ^ k := by
  induction k with
  | zero => rfl
  | succ k ih => rw [P2, ih, Int.pow_succ]; omega
theorem P2_add (a b : Nat) : P2 (a + b) = P2 a * P2 b := by rw [P2_eq, P2_eq, P2_eq, Int.pow_add]
def IsBits (bs : List Int) : Prop := ∀ b ∈ bs, b = 0 ∨ b = 1
theorem bl_len (w : Nat) (v : Int) : (bl w v).length = w := by
  induction w generalizing v with
  | zero => rfl
  | succ w ih => simp [bl, ih]
theorem bl_bits (w : Nat) (v : Int) : IsBits (bl w v) := by
  induction w generalizing v with
  | zero => intro b hb; simp [bl] at hb
  | succ w ih =>
    intro b hb
    simp only [bl, List.mem_append, List.mem_singleton] at hb
    rcases hb with hb | rfl
    · exact ih _ b hb
    · omega
theorem valB_snoc (bs : List Int) (b : Int) : valB (bs ++ [b]) = 2 * valB bs + b := by simp [valB]
theorem valB_bl (w : Nat) (v : Int) : valB (bl w v) = v % P2 w := by
  induction w generalizing v with
  | zero => simp [bl, valB, P2]
  | succ w ih =>
    rw [bl, valB_snoc, ih]
    simp only [P2]
    have h1 := Int.mul_ediv_add_emod (v / 2) (P2 w)
    have h2 := Int.emod_nonneg (v / 2) (show P2 w ≠ 0 by have := P2_pos w; omega)
    have h3 := Int.emod_lt_of_pos (v / 2) (P2_pos w)
    have h7 := (Int.ediv_emod_unique (a := v) (b := 2 * P2 w) (r := 2 * (v / 2 % P2 w) + v % 2) (q := v / 2 / P2 w) (by have := P2_pos w; omega)).2 ⟨by rw [Int.mul_assoc]; omega, by omega, by omega⟩
    exact h7.2.symm
theorem snoc_ind {P : List Int → Prop} (h0 : P []) (h1 : ∀ xs x, P xs → P (xs ++ [x])) : ∀ xs, P xs := by
  suffices ∀ n (xs : List Int), xs.length = n → P xs from fun xs => this _ xs rfl
  intro n
  induction n with
  | zero => intro xs hl; rw [List.length_eq_zero_iff.1 hl]; exact h0
  | succ n ih =>
    intro xs hl
    have hne : xs ≠ [] := List.ne_nil_of_length_pos (by omega)
    rw [← List.dropLast_concat_getLast hne]
    exact h1 _ _ (ih _ (by simp; omega))
theorem valB_bd (bs : List Int) (h : IsBits bs) : 0 ≤ valB bs ∧ valB bs < P2 bs.length := by
  revert h
  refine snoc_ind (P := fun bs => IsBits bs → 0 ≤ valB bs ∧ valB bs < P2 bs.length) ?_ ?_ bs
  · intro _; exact ⟨by simp [valB], by simp [valB, P2]⟩
  · intro xs x ih hb
    have h1 := ih (fun b hb' => hb b (by simp [hb']))
    have h2 := hb x (by simp)
    rw [valB_snoc, List.length_append]
    show _ ∧ _ < P2 (xs.length + 1)
    simp only [P2]
    omega
theorem bl_valB (bs : List Int) (h : IsBits bs) : bl bs.length (valB bs) = bs := by
  revert h
  refine snoc_ind (P := fun bs => IsBits bs → bl bs.length (valB bs) = bs) ?_ ?_ bs
  · intro _; rfl
  · intro xs x ih hb
    have h1 := ih (fun b hb' => hb b (by simp [hb']))
    have h2 := hb x (by simp)
    rw [valB_snoc, List.length_append]
    show bl (xs.length + 1) _ = _
    rw [bl, show (2 * valB xs + x) / 2 = valB xs by omega, h1, show (2 * valB xs + x) % 2 = x by omega]
theorem bl_getD (w : Nat) (v : Int) (i : Nat) (h : i < w) : (bl w v).getD i 0 = v / P2 (w - 1 - i) % 2 := by
  induction w generalizing v i with
  | zero => omega
  | succ w ih =>
    rw [bl, List.getD, List.getElem?_append]
    by_cases hi : i < w
    · rw [if_pos (by rw [bl_len]; exact hi)]
      have := ih (v / 2) i hi
      rw [List.getD] at this
      rw [this, show w + 1 - 1 - i = (w - 1 - i) + 1 by omega, P2, Int.ediv_ediv_of_nonneg (by omega)]
    · have : i = w := by omega
      subst this
      rw [if_neg (by rw [bl_len]; omega), bl_len]
      simp [P2]

/-- Bits in words of sixteen: what is left of the last one is 0. -/
def pad (bs : List Int) : List Int := bs ++ List.replicate (16 - bs.length) 0
theorem pad_len {bs : List Int} (h : bs.length ≤ 16) : (pad bs).length = 16 := by simp [pad]; omega
theorem pad_bits {bs : List Int} (h : IsBits bs) : IsBits (pad bs) := by
  intro b hb
  simp only [pad, List.mem_append, List.mem_replicate] at hb
  rcases hb with hb | ⟨_, rfl⟩
  · exact h b hb
  · exact .inl rfl
theorem valB_zeros (bs : List Int) (k : Nat) : valB (bs ++ List.replicate k 0) = valB bs * P2 k := by
  induction k with
  | zero => simp [P2]
  | succ k ih =>
    rw [List.replicate_succ', ← List.append_assoc, valB_snoc, ih, P2, Int.mul_left_comm]
    omega
theorem valB_pad (bs : List Int) : valB (pad bs) = valB bs * P2 (16 - bs.length) := valB_zeros ..
def wordsOf : Nat → List Int → List Int
  | 0, _ => []
  | n + 1, bs => valB (pad (bs.take 16)) :: wordsOf n (bs.drop 16)
theorem wordsOf_len (n : Nat) (bs : List Int) : (wordsOf n bs).length = n := by
  induction n generalizing bs with
  | zero => rfl
  | succ n ih => simp [wordsOf, ih]
theorem wordsOf_nil (n : Nat) : wordsOf n [] = List.replicate n 0 := by
  induction n with
  | zero => rfl
  | succ n ih =>
    rw [wordsOf, List.replicate_succ, List.drop_nil, ih]
    congr 1
theorem wordsOf_at (n : Nat) (bs : List Int) (h : bs.length < 16 * n) : ∃ q, (IsBits bs → 0 ≤ q ∧ q < P2 (bs.length % 16)) ∧ (wordsOf n bs).getD (bs.length / 16) 0 = q * P2 (16 - bs.length % 16) ∧
    ∀ b, wordsOf n (bs ++ [b]) = (wordsOf n bs).set (bs.length / 16) ((2 * q + b) * P2 (15 - bs.length % 16)) := by
  induction n generalizing bs with
  | zero => omega
  | succ n ih =>
    by_cases hl : bs.length < 16
    · have e1 : bs.length % 16 = bs.length := by omega
      have e2 : bs.length / 16 = 0 := by omega
      refine ⟨valB bs, ?_, ?_, ?_⟩
      · intro hb; rw [e1]; exact valB_bd bs hb
      · rw [e2, e1, wordsOf, List.take_of_length_le (by omega), List.getD_cons_zero, valB_pad]
      · intro b
        rw [e2, e1, wordsOf, wordsOf, List.set_cons_zero, List.take_of_length_le (by simp; omega), List.drop_eq_nil_of_le (by simp; omega), List.drop_eq_nil_of_le (by omega), valB_pad, valB_snoc, List.length_append]
        rw [show 16 - (bs.length + [b].length) = 15 - bs.length by simp]
    · obtain ⟨q, h1, h2, h3⟩ := ih (bs.drop 16) (by simp; omega)
      have e1 : (bs.drop 16).length % 16 = bs.length % 16 := by simp; omega
      have e2 : bs.length / 16 = (bs.drop 16).length / 16 + 1 := by simp; omega
      rw [e1] at h1 h2 h3
      refine ⟨q, ?_, ?_, ?_⟩
      · intro hb; exact h1 (fun b hb' => hb b (List.mem_of_mem_drop hb'))
      · rw [e2, wordsOf, List.getD_cons_succ]; exact h2
      · intro b
        rw [e2, wordsOf, wordsOf, List.set_cons_succ, ← h3 b, List.take_append_of_le_length (by omega), List.drop_append_of_le_length (by omega)]
/-- The bits of words. -/
def bitsOf (xs : List Int) : List Int := xs.flatMap (bl 16)
theorem bitsOf_cons (x : Int) (xs : List Int) : bitsOf (x :: xs) = bl 16 x ++ bitsOf xs := rfl
theorem bitsOf_len (xs : List Int) : (bitsOf xs).length = 16 * xs.length := by
  induction xs with
  | nil => rfl
  | cons x xs ih => rw [bitsOf_cons, List.length_append, bl_len, ih, List.length_cons]; omega
theorem bitsOf_bits (xs : List Int) : IsBits (bitsOf xs) := by
  intro b hb
  obtain ⟨x, _, hx⟩ := List.mem_flatMap.1 hb
  exact bl_bits 16 x b hx
theorem bitsOf_getD (xs : List Int) (p : Nat) (h : p < 16 * xs.length) : (bitsOf xs).getD p 0 = xs.getD (p / 16) 0 / P2 (15 - p % 16) % 2 := by
  induction xs generalizing p with
  | nil => simp at h
  | cons x xs ih =>
    rw [bitsOf_cons]
    by_cases hp : p < 16
    · rw [List.getD, List.getElem?_append, if_pos (by rw [bl_len]; exact hp)]
      have := bl_getD 16 x p hp
      rw [List.getD] at this
      rw [this, show p / 16 = 0 by omega, show p % 16 = p by omega, List.getD_cons_zero]
    · rw [List.getD, List.getElem?_append, if_neg (by rw [bl_len]; omega), bl_len]
      have := ih (p - 16) (by simp at h; omega)
      rw [List.getD] at this
      rw [this, show p / 16 = (p - 16) / 16 + 1 by omega, List.getD_cons_succ, show (p - 16) % 16 = p % 16 by omega]
/-- Bits that were laid into words are there again. -/
theorem bitsOf_wordsOf (n : Nat) (bs : List Int) (hb : IsBits bs) (h : bs.length ≤ 16 * n) : bitsOf (wordsOf n bs) = bs ++ List.replicate (16 * n - bs.length) 0 := by
  induction n generalizing bs with
  | zero =>
    have : bs = [] := List.length_eq_zero_iff.1 (by omega)
    subst this
    rfl
  | succ n ih =>
    have ht : IsBits (bs.take 16) := fun b hb' => hb b (List.mem_of_mem_take hb')
    rw [wordsOf, bitsOf_cons, ih (bs.drop 16) (fun b hb' => hb b (List.mem_of_mem_drop hb')) (by simp; omega)]
    have h1 := bl_valB (pad (bs.take 16)) (pad_bits ht)
    rw [pad_len (by simp; omega)] at h1
    rw [h1, pad]
    by_cases hl : bs.length < 16
    · rw [List.take_of_length_le (by omega), List.drop_eq_nil_of_le (by omega), List.append_assoc, List.nil_append, List.replicate_append_replicate]
      congr 2
      simp
      omega
    · rw [show 16 - (bs.take 16).length = 0 by simp; omega, List.replicate_zero, List.append_nil, ← List.append_assoc, List.take_append_drop]
      congr 2
      simp
      omega
/-- Words of bits of words are these words, cut off behind the last bit. -/
theorem wordsOf_bitsOf (xs : List Int) (hx : ∀ x ∈ xs, 0 ≤ x ∧ x ≤ 65535) : wordsOf xs.length (bitsOf xs) = xs := by
  induction xs with
  | nil => rfl
  | cons x xs ih =>
    have e1 : (bl 16 x ++ bitsOf xs).take 16 = bl 16 x := by rw [List.take_append_of_le_length (by rw [bl_len]; omega), List.take_of_length_le (by rw [bl_len]; omega)]
    have e2 : (bl 16 x ++ bitsOf xs).drop 16 = bitsOf xs := by
      have := List.drop_left (l₁ := bl 16 x) (l₂ := bitsOf xs)
      rwa [bl_len] at this
    rw [bitsOf_cons, List.length_cons, wordsOf, e1, e2, ih (fun y hy => hx y (by simp [hy])), valB_pad, bl_len, valB_bl]
    have := hx x (by simp)
    have e3 : P2 16 = 65536 := rfl
    have e4 : P2 (16 - 16) = 1 := rfl
    rw [e3, e4, show x % 65536 * 1 = x by omega]
theorem div_mul_bits (j : Nat) (r : Nat) (x : Int) (h : r + j = 16) : valB ((bl 16 x).take r) = x % 65536 / P2 j := by
  suffices ∀ j w (x : Int), j ≤ w → valB ((bl w x).take (w - j)) = x % P2 w / P2 j by
    have h1 := this j 16 x (by omega)
    rw [show 16 - j = r by omega] at h1
    exact h1
  clear h r j x
  intro j
  induction j with
  | zero =>
    intro w x _
    rw [Nat.sub_zero, List.take_of_length_le (by rw [bl_len]; exact Nat.le_refl _), valB_bl]
    simp [P2]
  | succ j ih =>
    intro w x hj
    obtain ⟨w, rfl⟩ : ∃ v, w = v + 1 := ⟨w - 1, by omega⟩
    have h1 := ih w (x / 2) (by omega)
    rw [bl, List.take_append_of_le_length (by rw [bl_len]; omega), show w + 1 - (j + 1) = w - j by omega, h1]
    simp only [P2]
    have h2 := P2_pos w
    rw [← Int.ediv_ediv_of_nonneg (show (0:Int) ≤ 2 by omega)]
    congr 1
    have a1 := Int.mul_ediv_add_emod (x / 2) (P2 w)
    have a2 := Int.emod_nonneg (x / 2) (show P2 w ≠ 0 by omega)
    have a3 := Int.emod_lt_of_pos (x / 2) h2
    have h7 := (Int.ediv_emod_unique (a := x) (b := 2 * P2 w) (r := 2 * (x / 2 % P2 w) + x % 2) (q := x / 2 / P2 w) (by omega)).2 ⟨by rw [Int.mul_assoc]; omega, by omega, by omega⟩
    rw [h7.2]
    omega
/-- All but the last word are whole; of the last one the first bits are kept. -/
theorem wordsOf_cut (xs : List Int) (t : Nat) (hx : ∀ x ∈ xs, 0 ≤ x ∧ x ≤ 65535) (h1 : t ≤ 16 * xs.length) (h2 : 16 * xs.length < t + 16) (i : Nat) (hi : i < xs.length) :
    (wordsOf xs.length ((bitsOf xs).take t)).getD i 0 = if i + 1 = xs.length ∧ 0 < t % 16 then xs.getD i 0 / P2 (16 - t % 16) * P2 (16 - t % 16) else xs.getD i 0 := by
  induction xs generalizing t i with
  | nil => simp at hi
  | cons x xs ih =>
    rw [bitsOf_cons, List.length_cons, wordsOf]
    simp only [List.length_cons] at h1 h2 hi
    by_cases hlast : xs.length = 0
    · have : xs = [] := List.length_eq_zero_iff.1 hlast
      subst this
      obtain rfl : i = 0 := by omega
      have hb := hx x (by simp)
      rw [List.getD_cons_zero, List.getD_cons_zero, List.take_take, show min 16 t = t by simp at h1; omega]
      rw [List.take_append_of_le_length (by rw [bl_len]; simp at h1; omega), valB_pad, div_mul_bits (16 - t) t x (by simp at h1; omega)]
      rw [show ((bl 16 x).take t).length = t by rw [List.length_take, bl_len]; simp at h1; omega]
      rw [show x % 65536 = x by omega]
      by_cases h0 : 0 < t % 16
      · rw [if_pos ⟨rfl, h0⟩, show t % 16 = t by simp at h1; omega]
      · rw [if_neg (by omega), show 16 - t = 0 by simp at h1 h2; omega]
        simp [P2]
    · have e1 : ((bl 16 x ++ bitsOf xs).take t).take 16 = bl 16 x := by
        rw [List.take_take, show min 16 t = 16 by omega, List.take_append_of_le_length (by rw [bl_len]; omega), List.take_of_length_le (by rw [bl_len]; omega)]
      have e2 : ((bl 16 x ++ bitsOf xs).take t).drop 16 = (bitsOf xs).take (t - 16) := by
        rw [List.drop_take]
        have := List.drop_left (l₁ := bl 16 x) (l₂ := bitsOf xs)
        rw [bl_len] at this
        rw [this]
      rw [e1, e2]
      have hb := hx x (by simp)
      rcases i with _ | i
      · rw [List.getD_cons_zero, List.getD_cons_zero, if_neg (by omega), valB_pad, bl_len, valB_bl]
        have e3 : P2 16 = 65536 := rfl
        have e4 : P2 (16 - 16) = 1 := rfl
        rw [e3, e4]
        omega
      · rw [List.getD_cons_succ, List.getD_cons_succ, ih (t - 16) (fun y hy => hx y (by simp [hy])) (by omega) (by omega) i (by omega), show (t - 16) % 16 = t % 16 by omega]
        by_cases hc : i + 1 = xs.length ∧ 0 < t % 16
        · rw [if_pos hc, if_pos (by omega)]
        · rw [if_neg hc, if_neg (by omega)]

/-- All fields' bits. -/
def allB : List Int → List Int → List Int
  | w :: ws, v :: vs => bl w.toNat v ++ allB ws vs
  | _, _ => []
/-- How many bits fields take. -/
def totL (ws : List Int) : Nat := (ws.map Int.toNat).sum
/-- What the fields of these widths are. -/
def splitL : List Int → List Int → List Int
  | [], _ => []
  | w :: ws, bs => valB (bs.take w.toNat) :: splitL ws (bs.drop w.toNat)
theorem allB_bits (ws vs : List Int) : IsBits (allB ws vs) := by
  induction ws generalizing vs with
  | nil => intro b hb; simp [allB] at hb
  | cons w ws ih =>
    cases vs with
    | nil => intro b hb; simp [allB] at hb
    | cons v vs =>
      intro b hb
      simp only [allB, List.mem_append] at hb
      rcases hb with hb | hb
      · exact bl_bits _ _ b hb
      · exact ih vs b hb
theorem allB_len {ws vs : List Int} (h : ws.length = vs.length) : (allB ws vs).length = totL ws := by
  induction ws generalizing vs with
  | nil => rfl
  | cons w ws ih =>
    cases vs with
    | nil => simp at h
    | cons v vs =>
      simp only [allB, List.length_append, bl_len, totL, List.map_cons, List.sum_cons]
      rw [ih (by simpa using h)]
      rfl
theorem splitL_len (ws bs : List Int) : (splitL ws bs).length = ws.length := by
  induction ws generalizing bs with
  | nil => rfl
  | cons w ws ih => simp [splitL, ih]
/-- Fields that were put are got. -/
theorem split_all (ws vs rest : List Int) (hl : ws.length = vs.length) (hv : ∀ i, i < vs.length → 0 ≤ vs.getD i 0 ∧ vs.getD i 0 < P2 (ws.getD i 0).toNat) : splitL ws (allB ws vs ++ rest) = vs := by
  induction ws generalizing vs with
  | nil =>
    have : vs = [] := List.length_eq_zero_iff.1 (by simpa using hl.symm)
    rw [this]
    rfl
  | cons w ws ih =>
    cases vs with
    | nil => simp at hl
    | cons v vs =>
      simp only [allB, splitL]
      have h0 := hv 0 (by simp)
      simp only [List.getD_cons_zero] at h0
      have e1 : (bl w.toNat v ++ allB ws vs ++ rest).take w.toNat = bl w.toNat v := by
        rw [List.append_assoc, List.take_append_of_le_length (by rw [bl_len]; exact Nat.le_refl _), List.take_of_length_le (by rw [bl_len]; exact Nat.le_refl _)]
      have e2 : (bl w.toNat v ++ allB ws vs ++ rest).drop w.toNat = allB ws vs ++ rest := by
        have := List.drop_left (l₁ := bl w.toNat v) (l₂ := allB ws vs ++ rest)
        rw [bl_len] at this
        rw [List.append_assoc, this]
      rw [e1, e2, ih vs (by simpa using hl) (fun i hi => by have := hv (i + 1) (by simp; omega); simpa using this), valB_bl, Int.emod_eq_of_lt h0.1 h0.2]
/-- The bits of the fields that bits make are these bits. -/
theorem all_split (ws bs : List Int) (hb : IsBits bs) (h : totL ws ≤ bs.length) : allB ws (splitL ws bs) = bs.take (totL ws) := by
  induction ws generalizing bs with
  | nil => simp [allB, totL]
  | cons w ws ih =>
    have e : totL (w :: ws) = w.toNat + totL ws := by simp [totL]
    rw [e] at h
    simp only [allB, splitL]
    rw [ih (bs.drop w.toNat) (fun b hb' => hb b (List.mem_of_mem_drop hb')) (by simp; omega)]
    have h1 := bl_valB (bs.take w.toNat) (fun b hb' => hb b (List.mem_of_mem_take hb'))
    rw [show (bs.take w.toNat).length = w.toNat by simp; omega] at h1
    rw [h1, e, List.take_add]
theorem splitL_bd (ws bs : List Int) (hb : IsBits bs) (h : totL ws ≤ bs.length) : ∀ i, i < ws.length → 0 ≤ (splitL ws bs).getD i 0 ∧ (splitL ws bs).getD i 0 < P2 (ws.getD i 0).toNat := by
  induction ws generalizing bs with
  | nil => intro i hi; simp at hi
  | cons w ws ih =>
    have e : totL (w :: ws) = w.toNat + totL ws := by simp [totL]
    rw [e] at h
    intro i hi
    rcases i with _ | i
    · simp only [splitL, List.getD_cons_zero]
      have h1 := valB_bd (bs.take w.toNat) (fun b hb' => hb b (List.mem_of_mem_take hb'))
      rwa [show (bs.take w.toNat).length = w.toNat by simp; omega] at h1
    · simp only [splitL, List.getD_cons_succ]
      exact ih (bs.drop w.toNat) (fun b hb' => hb b (List.mem_of_mem_drop hb')) (by simp; omega) i (by simp at hi; omega)
end Go.Proofs.YtihpmnnbiabggaaDoor
