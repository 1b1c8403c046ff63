/- The document's wide numbers: digits (plain facts), and the contracts of one, zero, against, plus, less. No condition but that the digits are those of numbers below 256 to 20. -/
import Derived.Test.YtdanmeemoifapaaDa
import Derived.Deep.CutBlock
import Derived.Deep.DeepCutAuto
namespace Go.Proofs.Ytdanmeemoifapaa
open Go.RowKit
set_option linter.unusedVariables false

/-- A digit. -/
def dig (x k : Nat) : Int := ((x / 256 ^ k % 256 : Nat) : Int)
theorem dig_lo (x k : Nat) : 0 ≤ dig x k := Int.natCast_nonneg _
theorem dig_hi (x k : Nat) : dig x k ≤ 255 := by unfold dig; omega
theorem pow_succ256 (k : Nat) : 256 ^ (k + 1) = 256 ^ k * 256 := Nat.pow_succ ..
theorem pow_pos256 (k : Nat) : 0 < 256 ^ k := Nat.pow_pos (by decide)
theorem div_succ (x k : Nat) : x / 256 ^ (k + 1) = x / 256 ^ k / 256 := by rw [pow_succ256, Nat.div_div_eq_div_mul]

/-- Numbers of twenty digits are the same where their digits are. -/
theorem dig_inj {x y : Nat} (hx : x < 256 ^ 20) (hy : y < 256 ^ 20) (h : ∀ k, k < 20 → dig x k = dig y k) : x = y := by
  have key : ∀ n, n ≤ 20 → x / 256 ^ (20 - n) = y / 256 ^ (20 - n) := by
    intro n
    induction n with
    | zero => intro _; rw [Nat.div_eq_of_lt (by simpa using hx), Nat.div_eq_of_lt (by simpa using hy)]
    | succ n ih =>
      intro hn
      have h1 := ih (by omega)
      have h2 := h (20 - (n + 1)) (by omega)
      unfold dig at h2
      rw [show 20 - n = 20 - (n + 1) + 1 by omega, div_succ, div_succ] at h1
      generalize x / 256 ^ (20 - (n + 1)) = X at *
      generalize y / 256 ^ (20 - (n + 1)) = Y at *
      omega
  simpa using key 20 (by omega)

/-- What is carried into a digit of a sum. -/
def carry (x y k : Nat) : Nat := (x % 256 ^ k + y % 256 ^ k) / 256 ^ k
theorem carry_le (x y k : Nat) : carry x y k ≤ 1 := by
  have h1 := Nat.mod_lt x (pow_pos256 k)
  have h2 := Nat.mod_lt y (pow_pos256 k)
  unfold carry
  have : (x % 256 ^ k + y % 256 ^ k) / 256 ^ k < 2 := Nat.div_lt_of_lt_mul (by omega)
  omega
theorem add_div (x y k : Nat) : (x + y) / 256 ^ k = x / 256 ^ k + y / 256 ^ k + carry x y k := by
  unfold carry
  have e1 := Nat.div_add_mod x (256 ^ k)
  have e2 := Nat.div_add_mod y (256 ^ k)
  have : x + y = (x % 256 ^ k + y % 256 ^ k) + 256 ^ k * (x / 256 ^ k + y / 256 ^ k) := by rw [Nat.mul_add]; omega
  rw [this, Nat.add_mul_div_left _ _ (pow_pos256 k)]; omega
theorem dig_add (x y k : Nat) : dig (x + y) k = (dig x k + dig y k + carry x y k) % 256 ∧ (carry x y (k + 1) : Int) = (dig x k + dig y k + carry x y k) / 256 := by
  have h1 := add_div x y k
  have h2 := add_div x y (k + 1)
  rw [div_succ, div_succ, div_succ] at h2
  unfold dig
  generalize (x + y) / 256 ^ k = S at *
  generalize x / 256 ^ k = X at *
  generalize y / 256 ^ k = Y at *
  omega

/-- What is borrowed by a digit of a difference. -/
def borrow (x y k : Nat) : Int := if x % 256 ^ k < y % 256 ^ k then 1 else 0
theorem borrow_bd (x y k : Nat) : 0 ≤ borrow x y k ∧ borrow x y k ≤ 1 := by unfold borrow; split <;> omega
theorem dig_sub (x y k : Nat) (h : y ≤ x) : (dig x k - dig y k - borrow x y k < 0 ∧ dig (x - y) k = dig x k - dig y k - borrow x y k + 256 ∧ borrow x y (k + 1) = 1) ∨
    (0 ≤ dig x k - dig y k - borrow x y k ∧ dig (x - y) k = dig x k - dig y k - borrow x y k ∧ borrow x y (k + 1) = 0) := by
  obtain ⟨d, rfl⟩ : ∃ d, x = d + y := ⟨x - y, by omega⟩
  rw [Nat.add_sub_cancel]
  have c1 := carry_le d y k
  have c2 := carry_le d y (k + 1)
  have e1 := dig_add d y k
  have b : ∀ j, borrow (d + y) y j = carry d y j := by
    intro j
    unfold borrow carry
    have h1 := Nat.mod_lt d (pow_pos256 j)
    have h2 := Nat.mod_lt y (pow_pos256 j)
    rw [Nat.add_mod]
    generalize d % 256 ^ j = D at *
    generalize y % 256 ^ j = Y at *
    generalize 256 ^ j = B at *
    by_cases hB : D + Y < B
    · rw [Nat.mod_eq_of_lt hB, Nat.div_eq_of_lt hB, if_neg (by omega)]; rfl
    · have h3 : (D + Y) % B = D + Y - B := by rw [Nat.mod_eq_sub_mod (by omega), Nat.mod_eq_of_lt (by omega)]
      have h4 : (D + Y) / B = 1 := Nat.div_eq_of_lt_le (by omega) (by omega)
      rw [h3, h4, if_pos (by omega)]; rfl
  rw [b k, b (k + 1)]
  have d1 := dig_lo d k
  have d2 := dig_hi d k
  have y1 := dig_lo y k
  have y2 := dig_hi y k
  omega

/-- Zeros. -/
def zeroF : Nat → Int := fun _ => 0
theorem zeros_eq : (#[.int .i64 0, .int .i64 0, .int .i64 0, .int .i64 0, .int .i64 0, .int .i64 0, .int .i64 0, .int .i64 0, .int .i64 0, .int .i64 0, .int .i64 0, .int .i64 0, .int .i64 0, .int .i64 0, .int .i64 0, .int .i64 0, .int .i64 0, .int .i64 0, .int .i64 0, .int .i64 0] : Array Value) = arr (dig 0) := by
  have : dig 0 = fun _ => (0 : Int) := by funext k; simp [dig]
  rw [this]; rfl
theorem ones_eq : (#[.int .i64 1, .int .i64 0, .int .i64 0, .int .i64 0, .int .i64 0, .int .i64 0, .int .i64 0, .int .i64 0, .int .i64 0, .int .i64 0, .int .i64 0, .int .i64 0, .int .i64 0, .int .i64 0, .int .i64 0, .int .i64 0, .int .i64 0, .int .i64 0, .int .i64 0, .int .i64 0] : Array Value) = arr (dig 1) := by
  have : arr (dig 1) = arr (fun k => if k = 0 then (1 : Int) else 0) := arr_congr fun k hk => by
    unfold dig
    cases k with
    | zero => rfl
    | succ k =>
      have : 1 < 256 ^ (k + 1) := Nat.one_lt_pow (by omega) (by decide)
      rw [Nat.div_eq_of_lt this]; rfl
  rw [this]; rfl

theorem one_any (w : World) : Calls Try.prog 35 #[] w fun e w' => e = .returned (.agg (arr (dig 1))) ∧ Keeps [] w w' := by
  go_enter Try.func35, Try.ntmps35
  go_upto_region 1 with fail
  simp only [zeros_eq]
  have h0 : ArrAt (w.alloc (.cells (arr (dig 0)) 27)) w.heap.size (dig 0) := heap_alloc_new w _
  have k0 : Keeps [] w (w.alloc (.cells (arr (dig 0)) 27)) := (Keeps.refl _ _).alloc _
  generalize w.alloc (.cells (arr (dig 0)) 27) = w0 at *
  go_wp2_with (simp only [ones_eq]; refine st_arr _ _ h0 rfl rfl rfl rfl ?_; intro w1 h1 k1 s1; simp only [Act.put])
  refine bodyPost_ret (ret_arr rfl h1 rfl) rfl ⟨rfl, k0.trans k1 (by simp)⟩

/-- Two arrays held against each other. -/
theorem equal_arr (f g : Nat → Int) (w : World) : ∃ r : Bool, (Op.equalIn 10000 27 (.agg (arr f)) (.agg (arr g))).run Try.prog w = .ok r w ∧ (r = true ↔ ∀ k, k < 20 → f k = g k) := by
  obtain ⟨i0, hi, -⟩ : ∃ i, Try.prog.info? 3 = some i ∧ True := by
    cases h : Try.prog.info? 3 with
    | none => exact absurd h (by decide +kernel)
    | some i => exact ⟨i, rfl, trivial⟩
  have hc : Try.prog.cellsOf 3 = 1 := by kernel_rfl
  have ha : ∀ ww, (isAgg 3).run Try.prog ww = .ok false ww := Try.isAgg3
  have key : ∀ (l : List Nat), (∀ i ∈ l, i < 20) → ∃ r : Bool, (Op.eqItems 9999 3 1 (arr f) (arr g) l).run Try.prog w = .ok r w ∧ (r = true ↔ ∀ k ∈ l, f k = g k) := by
    intro l
    induction l with
    | nil => intro _; exact ⟨true, rfl, by simp⟩
    | cons k l ih =>
      intro hl
      obtain ⟨r, hr, hiff⟩ := ih (fun i hi => hl i (List.mem_cons_of_mem _ hi))
      have hk := hl k (List.mem_cons_self ..)
      have p1 : (part 3 (arr f) (k * 1)).run Try.prog w = .ok (.int .i64 (f k)) w := by
        unfold part
        rw [Sem.run_bind, ha, Nat.mul_one, arr_get f k hk]
        rfl
      have p2 : (part 3 (arr g) (k * 1)).run Try.prog w = .ok (.int .i64 (g k)) w := by
        unfold part
        rw [Sem.run_bind, ha, Nat.mul_one, arr_get g k hk]
        rfl
      have p3 := run_equalIn_int (P := Try.prog) w 9998 3 .i64 .i64 (f k) (g k) Try.underlying3
      simp only [Op.eqItems, Sem.run_bind, p1, p2, p3, Result.andThen_ok]
      by_cases e : f k = g k
      · refine ⟨r, by simpa [e] using hr, ?_⟩
        rw [hiff]
        simp [e]
      · exact ⟨false, by simp [e], by simp [e]⟩
  obtain ⟨r, hr, hiff⟩ := key (List.range 20) (by simp)
  refine ⟨r, ?_, by simpa using hiff⟩
  rw [← hr, ← hc]
  exact run_equalIn_array w 9999 (arr f) (arr g) Try.underlying27 hi

theorem zero_any (x : Nat) (hx : x < 256 ^ 20) (w : World) : Calls Try.prog 33 #[.agg (arr (dig x))] w fun e w' => e = .returned (.bool (decide (x = 0))) ∧ Keeps [] w w' := by
  have heq : ∀ ww, (Op.equalIn 10000 27 (.agg (arr (dig x))) (.agg (arr (dig 0)))).run Try.prog ww = .ok (decide (x = 0)) ww := by
    intro ww
    obtain ⟨r, h1, h2⟩ := equal_arr (dig x) (dig 0) ww
    rw [h1]
    congr 1
    rw [Bool.eq_iff_iff, h2, decide_eq_true_iff]
    constructor
    · intro h; exact dig_inj hx (by decide) h
    · rintro rfl; intros; rfl
  obtain ⟨b, hb⟩ : ∃ b, b = decide (x = 0) := ⟨_, rfl⟩
  rw [← hb] at heq ⊢
  clear hb
  go_enter Try.func33, Try.ntmps33
  go_upto_region 1 with fail
  have h0 : ArrAt (w.alloc (.cells (arr (dig x)) 27)) w.heap.size (dig x) := heap_alloc_new w _
  have k0 : Keeps [] w (w.alloc (.cells (arr (dig x)) 27)) := (Keeps.refl _ _).alloc _
  generalize w.alloc (.cells (arr (dig x)) 27) = w0 at *
  go_wp2_with (first | (refine ld_arr _ h0 rfl rfl rfl ?_; simp only [Act.put]) | (simp only [zeros_eq]))
  go_ret
  exact ⟨rfl, k0⟩
end Go.Proofs.Ytdanmeemoifapaa
