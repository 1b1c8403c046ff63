/- wide: Down, Near, MulDown, MulNear: the contracts. No condition but that all are numbers of their kinds. -/
import Derived.Test.YtdanmeemoifapaaWd
namespace Go.Proofs.Ytdanmeemoifapaa
open Go.RowKit
set_option linter.unusedVariables false

theorem num_unfold (n : Int) : num n = .agg #[.int .i64 (n / 18446744073709551616), .int .u64 (n % 18446744073709551616)] := rfl

theorem down_no (n c : Int) (w : World) (hc : c < 1) : Calls Try.prog 23 #[num n, .int .i64 c] w fun e w' => e = .returned (.tuple #[.int .i64 0, .int .i64 2]) ∧ Keeps [] w w' := by
  rw [num_unfold]
  go_enter Try.func23, Try.ntmps23
  go_wp2
  go_ret2
  exact ⟨rfl, (Keeps.refl _ _).alloc _⟩
theorem near_no (n c : Int) (w : World) (hc : c < 1) : Calls Try.prog 24 #[num n, .int .i64 c] w fun e w' => e = .returned (.tuple #[.int .i64 0, .int .i64 2]) ∧ Keeps [] w w' := by
  rw [num_unfold]
  go_enter Try.func24, Try.ntmps24
  go_wp2
  go_ret2
  exact ⟨rfl, (Keeps.refl _ _).alloc _⟩

/-- A division stays within 128 bits. -/
theorem div_range (n c : Int) (hn : I128 n) (hc : 1 ≤ c) : I128 (n / c) := by
  unfold I128 at hn ⊢
  constructor
  · exact Int.le_ediv_of_mul_le (by omega) (by
      have := Int.mul_le_mul_of_nonneg_left hc (show (0 : Int) ≤ 170141183460469231731687303715884105728 by decide); omega)
  · exact Int.le_of_lt_add_one (Int.ediv_lt_of_lt_mul (by omega) (by
      have := Int.mul_le_mul_of_nonneg_left hc (show (0 : Int) ≤ 170141183460469231731687303715884105728 by decide); omega))

theorem down_yes (n c : Int) (w : World) (hn : I128 n) (hc : 1 ≤ c) (hc1 : c ≤ 9223372036854775807) :
    Calls Try.prog 23 #[num n, .int .i64 c] w fun e w' => e = .returned (.tuple #[.int .i64 (slimI (n / c)), .int .i64 (slimE (n / c))]) ∧ Keeps [] w w' := by
  have hd := div_range n c hn hc
  have h1 := split_any n c
  obtain ⟨d, hdd⟩ : ∃ d, d = n / c := ⟨_, rfl⟩
  obtain ⟨r, hrr⟩ : ∃ d, d = n % c := ⟨_, rfl⟩
  rw [← hdd] at hd ⊢
  have HD := Lib.hid hdd
  have HR := Lib.hid hrr
  have HI := Lib.hid hd
  have hcc : ¬ c < 1 := by omega
  clear hdd hrr hd h1
  rw [num_unfold n]
  go_enter Try.func23, Try.ntmps23
  go_wp2_with fail
  rw [← num_unfold n]
  refine (split_any n c _ hn hc hc1).mono ?_
  rintro e w1 ⟨he, k1⟩
  rw [← HD.out, ← HR.out, num_unfold d] at he
  subst he
  go_wp2_with fail
  rw [← num_unfold d]
  refine (slim_any d _ HI.out).mono ?_
  rintro e w2 ⟨rfl, k2⟩
  go_wp2_with fail
  go_ret2
  exact ⟨rfl, ((((Keeps.refl _ _).alloc _).trans0 k1).alloc _).trans0 k2⟩

theorem muldown_no (a b c : Int) (w : World) (ha : I64 a) (hb : I64 b) (hc : c < 1) :
    Calls Try.prog 19 #[.int .i64 a, .int .i64 b, .int .i64 c] w fun e w' => e = .returned (.tuple #[.int .i64 0, .int .i64 2]) ∧ Keeps [] w w' := by
  go_enter Try.func19, Try.ntmps19
  go_wp2_with fail
  refine (wmul_any a b _ ha hb).mono ?_
  rintro e w1 ⟨rfl, k1⟩
  go_wp2_with fail
  refine (down_no (a * b) c _ hc).mono ?_
  rintro e w2 ⟨rfl, k2⟩
  go_wp2_with fail
  go_ret2
  exact ⟨rfl, k1.trans0 k2⟩
theorem mulnear_no (a b c : Int) (w : World) (ha : I64 a) (hb : I64 b) (hc : c < 1) :
    Calls Try.prog 21 #[.int .i64 a, .int .i64 b, .int .i64 c] w fun e w' => e = .returned (.tuple #[.int .i64 0, .int .i64 2]) ∧ Keeps [] w w' := by
  go_enter Try.func21, Try.ntmps21
  go_wp2_with fail
  refine (wmul_any a b _ ha hb).mono ?_
  rintro e w1 ⟨rfl, k1⟩
  go_wp2_with fail
  refine (near_no (a * b) c _ hc).mono ?_
  rintro e w2 ⟨rfl, k2⟩
  go_wp2_with fail
  go_ret2
  exact ⟨rfl, k1.trans0 k2⟩

theorem mul_I128 (a b : Int) (ha : I64 a) (hb : I64 b) : I128 (a * b) := by
  have := mul_range a b ha hb
  unfold I128; omega

theorem muldown_yes (a b c : Int) (w : World) (ha : I64 a) (hb : I64 b) (hc : 1 ≤ c) (hc1 : c ≤ 9223372036854775807) :
    Calls Try.prog 19 #[.int .i64 a, .int .i64 b, .int .i64 c] w fun e w' => e = .returned (.tuple #[.int .i64 (slimI (a * b / c)), .int .i64 (slimE (a * b / c))]) ∧ Keeps [] w w' := by
  have key := down_yes (a * b) c
  obtain ⟨x, hx⟩ : ∃ x, x = slimI (a * b / c) := ⟨_, rfl⟩
  obtain ⟨y, hy⟩ : ∃ x, x = slimE (a * b / c) := ⟨_, rfl⟩
  rw [← hx, ← hy] at key ⊢
  have HK := Lib.hid (key · (mul_I128 a b ha hb) hc hc1)
  clear key hx hy
  go_enter Try.func19, Try.ntmps19
  go_wp2_with fail
  refine (wmul_any a b _ ha hb).mono ?_
  rintro e w1 ⟨rfl, k1⟩
  go_wp2_with fail
  refine (HK.out _).mono ?_
  rintro e w2 ⟨rfl, k2⟩
  go_wp2_with fail
  go_ret2
  exact ⟨rfl, k1.trans0 k2⟩

/-- Rounded to the nearest, of two to the one farther from 0. -/
def nearW (n c : Int) : Int := if c - n % c < n % c ∨ (n % c = c - n % c ∧ 0 ≤ n) then n / c + 1 else n / c

theorem nums_up (w : World) (d : Int) : NumsAt (w.alloc (.cells #[.int .i64 (d / 18446744073709551616), .int .u64 (d % 18446744073709551616), .int .i64 0, .int .u64 1] 25)) w.heap.size [d, 1] := by
  intro i hi
  have : i = 0 ∨ i = 1 := by simp at hi; omega
  have hb := heap_alloc_new w (.cells #[.int .i64 (d / 18446744073709551616), .int .u64 (d % 18446744073709551616), .int .i64 0, .int .u64 1] 25)
  rcases this with rfl | rfl
  · exact ⟨cell_of_block hb rfl, cell_of_block hb rfl⟩
  · exact ⟨cell_of_block hb rfl, cell_of_block hb rfl⟩

theorem near_range (n c : Int) (hn : I128 n) (hc : 1 ≤ c) (h : 2 ≤ c) : I128 (n / c + 1) := by
  have h1 : n / c ≤ 85070591730234615865843651857942052864 := by
    unfold I128 at hn
    refine Int.le_of_lt_add_one (Int.ediv_lt_of_lt_mul (by omega) ?_)
    have := Int.mul_le_mul_of_nonneg_left h (show (0 : Int) ≤ 85070591730234615865843651857942052865 by decide)
    omega
  have := div_range n c hn hc
  unfold I128 at this ⊢
  omega

set_option maxHeartbeats 1000000 in
theorem near_yes (n c : Int) (w : World) (hn : I128 n) (hc : 1 ≤ c) (hc1 : c ≤ 9223372036854775807) :
    Calls Try.prog 24 #[num n, .int .i64 c] w fun e w' => e = .returned (.tuple #[.int .i64 (slimI (nearW n c)), .int .i64 (slimE (nearW n c))]) ∧ Keeps [] w w' := by
  have hd := div_range n c hn hc
  obtain ⟨N, hN⟩ : ∃ d, d = nearW n c := ⟨_, rfl⟩
  obtain ⟨d, hdd⟩ : ∃ d, d = n / c := ⟨_, rfl⟩
  obtain ⟨r, hrr⟩ : ∃ d, d = n % c := ⟨_, rfl⟩
  have hr0 : 0 ≤ r := by rw [hrr]; exact Int.emod_nonneg _ (by omega)
  have hr1 : r < c := by rw [hrr]; exact Int.emod_lt_of_pos _ (by omega)
  obtain ⟨h, hh⟩ : ∃ h, h = n / 18446744073709551616 := ⟨_, rfl⟩
  have hcase : (c - r < r ∧ N = d + 1) ∨ (r = c - r ∧ 0 ≤ h ∧ N = d + 1) ∨ (r = c - r ∧ h < 0 ∧ N = d) ∨ (r < c - r ∧ N = d) := by
    unfold nearW at hN
    rw [← hrr, ← hdd] at hN
    split at hN
    · omega
    · omega
  have hup : N = d + 1 → I128 (d + 1) := by
    intro h1
    have h2 : 2 ≤ c := by
      rcases hcase with h3 | h3 | h3 | h3 <;> omega
    rw [hdd]; exact near_range n c hn hc h2
  rw [← hN]
  have HHH := Lib.hid hh
  have HD := Lib.hid hdd
  have HR := Lib.hid hrr
  rw [← hdd] at hd
  have HI := Lib.hid hd
  have HUP := Lib.hid hup
  have hcc : ¬ c < 1 := by omega
  clear hdd hrr hd hN hup
  rw [num_unfold n]
  rcases hcase with ⟨h1, rfl⟩ | ⟨h1, h2, rfl⟩ | ⟨h1, h2, rfl⟩ | ⟨h1, rfl⟩
  · have n1 : decide (c - r < r) = true := by simpa using h1
    have hP : num (w128 (plainSum [d, 1])) = num (d + 1) := by
      rw [w128_in (by have := HUP.out rfl; simpa [plainSum] using this)]
      simp [plainSum]
    have HP := Lib.hid hP
    clear hP
    clear h1 hh
    go_enter Try.func24, Try.ntmps24
    go_wp2_with fail
    rw [← num_unfold n]
    refine (split_any n c _ hn hc hc1).mono ?_
    rintro e w1 ⟨he, k1⟩
    rw [← HD.out, ← HR.out, num_unfold d] at he
    subst he
    have g0 : w1.cell? ⟨w.heap.size, 0, none⟩ = some (.int .i64 h) := (k1.cell (by simp) (by simp)).trans (by rw [HHH.out]; exact cell_of_block (heap_alloc_new w _) rfl)
    have hsz : w.heap.size < w1.heap.size := by have := k1.size; simp at this; omega
    have g0' : ∀ o, (w1.alloc o).cell? ⟨w.heap.size, 0, none⟩ = some (.int .i64 h) := fun o => (World.cell?_alloc_past _ _ _ hsz).trans g0
    have K1 := Lib.hid ((Keeps.refl [] w).alloc _ |>.trans0 k1)
    clear k1
    go_upto_region 6 with fail
    have hS : ∀ wz, Keeps [] (w1.alloc (.cells #[.int .i64 (d / 18446744073709551616), .int .u64 (d % 18446744073709551616)] 25)) wz → wz.cell? ⟨w1.heap.size, 0, none⟩ = some (.int .i64 (d / 18446744073709551616)) ∧ wz.cell? ⟨w1.heap.size, 1, none⟩ = some (.int .u64 (d % 18446744073709551616)) := by
      intro wz hz
      have hb := heap_alloc_new w1 (.cells #[.int .i64 (d / 18446744073709551616), .int .u64 (d % 18446744073709551616)] 25)
      exact ⟨cell_of_block (hz.held hb (by simp)) rfl, cell_of_block (hz.held hb (by simp)) rfl⟩
    have HS := Lib.hid hS
    clear hS g0 g0'
    go_region_held3 (fun w' => w'.cell? ⟨w1.heap.size, 0, none⟩ = some (.int .i64 (d / 18446744073709551616)) ∧ w'.cell? ⟨w1.heap.size, 1, none⟩ = some (.int .u64 (d % 18446744073709551616))) (first | exact ⟨p1.1, p1.2⟩ | exact ⟨p2.1, p2.2⟩ | exact ⟨p3.1, p3.2⟩ | go_keep)
      (first
        | (go_at_call 12; refine (of_any 1 _ (by unfold I64; omega)).mono ?_; rintro e w2 ⟨he, k2⟩; have e1 : num 1 = .agg #[.int .i64 0, .int .u64 1] := rfl; rw [e1] at he; clear e1; subst he; have K2 := Lib.hid (((Keeps.refl [] _).drewN _).trans0 k2); have p1 := HS.out _ K2.out; clear k2)
        | (go_at_call 14; refine (add_any [d, 1] _ 2 _ _ (by have := HI.out; simp; unfold I128 at *; omega) rfl (by omega) (nums_up _ d)).mono ?_; rintro e w3 ⟨he, k3⟩; rw [HP.out, num_unfold] at he; subst he; have K3 := Lib.hid ((K2.out.alloc _).trans0 k3); have p2 := HS.out _ K3.out; clear k3)
        | (go_at_call 38; refine (slim_any (d + 1) _ (HUP.out (by first | trivial | rfl))).mono ?_; rintro e w4 ⟨he, k4⟩; subst he; have K4 := Lib.hid (K3.out.trans0 k4); have p3 := HS.out _ K4.out; clear k4))
    go_wp2_with fail
    go_ret2
    exact ⟨rfl, (K1.out.alloc _).trans0 K4.out⟩
  · have n1 : decide (c - r < r) = false := by simp; omega
    have n2 : (r == c - r) = true := by simpa using h1
    have n3 : decide (0 ≤ h) = true := by simpa using h2
    have hP : num (w128 (plainSum [d, 1])) = num (d + 1) := by
      rw [w128_in (by have := HUP.out rfl; simpa [plainSum] using this)]
      simp [plainSum]
    have HP := Lib.hid hP
    clear hP
    clear h1 h2 hh
    go_enter Try.func24, Try.ntmps24
    go_wp2_with fail
    rw [← num_unfold n]
    refine (split_any n c _ hn hc hc1).mono ?_
    rintro e w1 ⟨he, k1⟩
    rw [← HD.out, ← HR.out, num_unfold d] at he
    subst he
    have g0 : w1.cell? ⟨w.heap.size, 0, none⟩ = some (.int .i64 h) := (k1.cell (by simp) (by simp)).trans (by rw [HHH.out]; exact cell_of_block (heap_alloc_new w _) rfl)
    have hsz : w.heap.size < w1.heap.size := by have := k1.size; simp at this; omega
    have g0' : ∀ o, (w1.alloc o).cell? ⟨w.heap.size, 0, none⟩ = some (.int .i64 h) := fun o => (World.cell?_alloc_past _ _ _ hsz).trans g0
    have K1 := Lib.hid ((Keeps.refl [] w).alloc _ |>.trans0 k1)
    clear k1
    go_upto_region 6 with fail
    have hS : ∀ wz, Keeps [] (w1.alloc (.cells #[.int .i64 (d / 18446744073709551616), .int .u64 (d % 18446744073709551616)] 25)) wz → wz.cell? ⟨w1.heap.size, 0, none⟩ = some (.int .i64 (d / 18446744073709551616)) ∧ wz.cell? ⟨w1.heap.size, 1, none⟩ = some (.int .u64 (d % 18446744073709551616)) := by
      intro wz hz
      have hb := heap_alloc_new w1 (.cells #[.int .i64 (d / 18446744073709551616), .int .u64 (d % 18446744073709551616)] 25)
      exact ⟨cell_of_block (hz.held hb (by simp)) rfl, cell_of_block (hz.held hb (by simp)) rfl⟩
    have HS := Lib.hid hS
    clear hS g0 g0'
    go_region_held3 (fun w' => w'.cell? ⟨w1.heap.size, 0, none⟩ = some (.int .i64 (d / 18446744073709551616)) ∧ w'.cell? ⟨w1.heap.size, 1, none⟩ = some (.int .u64 (d % 18446744073709551616))) (first | exact ⟨p1.1, p1.2⟩ | exact ⟨p2.1, p2.2⟩ | exact ⟨p3.1, p3.2⟩ | go_keep)
      (first
        | (go_at_call 12; refine (of_any 1 _ (by unfold I64; omega)).mono ?_; rintro e w2 ⟨he, k2⟩; have e1 : num 1 = .agg #[.int .i64 0, .int .u64 1] := rfl; rw [e1] at he; clear e1; subst he; have K2 := Lib.hid (((Keeps.refl [] _).drewN _).trans0 k2); have p1 := HS.out _ K2.out; clear k2)
        | (go_at_call 14; refine (add_any [d, 1] _ 2 _ _ (by have := HI.out; simp; unfold I128 at *; omega) rfl (by omega) (nums_up _ d)).mono ?_; rintro e w3 ⟨he, k3⟩; rw [HP.out, num_unfold] at he; subst he; have K3 := Lib.hid ((K2.out.alloc _).trans0 k3); have p2 := HS.out _ K3.out; clear k3)
        | (go_at_call 38; refine (slim_any (d + 1) _ (HUP.out (by first | trivial | rfl))).mono ?_; rintro e w4 ⟨he, k4⟩; subst he; have K4 := Lib.hid (K3.out.trans0 k4); have p3 := HS.out _ K4.out; clear k4))
    go_wp2_with fail
    go_ret2
    exact ⟨rfl, (K1.out.alloc _).trans0 K4.out⟩
  · have n1 : decide (c - r < r) = false := by simp; omega
    have n2 : (r == c - r) = true := by simpa using h1
    have n3 : decide (0 ≤ h) = false := by simp; omega
    clear h1 h2 hh HUP
    go_enter Try.func24, Try.ntmps24
    go_wp2_with fail
    rw [← num_unfold n]
    refine (split_any n c _ hn hc hc1).mono ?_
    rintro e w1 ⟨he, k1⟩
    rw [← HD.out, ← HR.out, num_unfold N] at he
    subst he
    have g0 : w1.cell? ⟨w.heap.size, 0, none⟩ = some (.int .i64 h) := (k1.cell (by simp) (by simp)).trans (by rw [HHH.out]; exact cell_of_block (heap_alloc_new w _) rfl)
    have hsz : w.heap.size < w1.heap.size := by have := k1.size; simp at this; omega
    have g0' : ∀ o, (w1.alloc o).cell? ⟨w.heap.size, 0, none⟩ = some (.int .i64 h) := fun o => (World.cell?_alloc_past _ _ _ hsz).trans g0
    have K1 := Lib.hid ((Keeps.refl [] w).alloc _ |>.trans0 k1)
    clear k1
    go_wp2_with fail
    rw [← num_unfold N]
    refine (slim_any N _ HI.out).mono ?_
    rintro e w2 ⟨rfl, k2⟩
    go_wp2_with fail
    go_ret2
    exact ⟨rfl, (K1.out.alloc _).trans0 k2⟩
  · have n1 : decide (c - r < r) = false := by simp; omega
    have n2 : (r == c - r) = false := by simp; omega
    clear h1 hh HUP
    go_enter Try.func24, Try.ntmps24
    go_wp2_with fail
    rw [← num_unfold n]
    refine (split_any n c _ hn hc hc1).mono ?_
    rintro e w1 ⟨he, k1⟩
    rw [← HD.out, ← HR.out, num_unfold N] at he
    subst he
    have g0 : w1.cell? ⟨w.heap.size, 0, none⟩ = some (.int .i64 h) := (k1.cell (by simp) (by simp)).trans (by rw [HHH.out]; exact cell_of_block (heap_alloc_new w _) rfl)
    have hsz : w.heap.size < w1.heap.size := by have := k1.size; simp at this; omega
    have g0' : ∀ o, (w1.alloc o).cell? ⟨w.heap.size, 0, none⟩ = some (.int .i64 h) := fun o => (World.cell?_alloc_past _ _ _ hsz).trans g0
    have K1 := Lib.hid ((Keeps.refl [] w).alloc _ |>.trans0 k1)
    clear k1
    go_wp2_with fail
    rw [← num_unfold N]
    refine (slim_any N _ HI.out).mono ?_
    rintro e w2 ⟨rfl, k2⟩
    go_wp2_with fail
    go_ret2
    exact ⟨rfl, (K1.out.alloc _).trans0 k2⟩

theorem mulnear_yes (a b c : Int) (w : World) (ha : I64 a) (hb : I64 b) (hc : 1 ≤ c) (hc1 : c ≤ 9223372036854775807) :
    Calls Try.prog 21 #[.int .i64 a, .int .i64 b, .int .i64 c] w fun e w' => e = .returned (.tuple #[.int .i64 (slimI (nearW (a * b) c)), .int .i64 (slimE (nearW (a * b) c))]) ∧ Keeps [] w w' := by
  have key := near_yes (a * b) c
  obtain ⟨x, hx⟩ : ∃ x, x = slimI (nearW (a * b) c) := ⟨_, rfl⟩
  obtain ⟨y, hy⟩ : ∃ x, x = slimE (nearW (a * b) c) := ⟨_, rfl⟩
  rw [← hx, ← hy] at key ⊢
  have HK := Lib.hid (key · (mul_I128 a b ha hb) hc hc1)
  clear key hx hy
  go_enter Try.func21, Try.ntmps21
  go_wp2_with fail
  refine (wmul_any a b _ ha hb).mono ?_
  rintro e w1 ⟨rfl, k1⟩
  go_wp2_with fail
  refine (HK.out _).mono ?_
  rintro e w2 ⟨rfl, k2⟩
  go_wp2_with fail
  go_ret2
  exact ⟨rfl, k1.trans0 k2⟩
end Go.Proofs.Ytdanmeemoifapaa
