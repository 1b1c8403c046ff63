/- fx: Down, Near, Even, Left: their contracts. No condition but that all are numbers. -/
import Derived.Test.YtfkopmgmhmmcbaaFb
namespace Go.Proofs.Ytfkopmgmhmmcbaa
open Go.RowKit
set_option linter.unusedVariables false

theorem down_yes (a b : Int) (w : World) (ha : I64 a) (hb : I64 b) (h1 : 1 ≤ b) :
    Calls Try.prog 18 #[.int .i64 a, .int .i64 b] w fun e w' => e = .returned (.tuple #[.int .i64 (a / b), .int .i64 0]) ∧ Keeps [] w w' := by
  go_enter Try.func18, Try.ntmps18
  go_wp2_with fail
  refine (rounded_down a b _ ha hb h1).mono ?_
  rintro e w' ⟨rfl, m, rfl⟩
  go_wp2_with fail
  go_ret2
  exact ⟨rfl, (Keeps.refl _ _).drewN m⟩
theorem down_no (a b : Int) (w : World) (h1 : b < 1) :
    Calls Try.prog 18 #[.int .i64 a, .int .i64 b] w fun e w' => e = .returned (.tuple #[.int .i64 0, .int .i64 2]) ∧ Keeps [] w w' := by
  go_enter Try.func18, Try.ntmps18
  go_wp2_with fail
  refine (rounded_no a b _ _ _ _ h1).mono ?_
  rintro e w' ⟨rfl, rfl⟩
  go_wp2_with fail
  go_ret2
  exact ⟨rfl, Keeps.refl _ _⟩

theorem near_yes (a b : Int) (w : World) (ha : I64 a) (hb : I64 b) (h1 : 1 ≤ b) :
    Calls Try.prog 20 #[.int .i64 a, .int .i64 b] w fun e w' => e = .returned (.tuple #[.int .i64 (nearI a b), .int .i64 0]) ∧ Keeps [] w w' := by
  have hc : (w.alloc (.cells #[.int .i64 a] 3)).cell? ⟨w.heap.size, 0, none⟩ = some (.int .i64 a) := by rw [World.cell?_alloc_new]; rfl
  have HC := Lib.hid hc
  clear hc
  go_enter Try.func20, Try.ntmps20
  go_wp2_with fail
  refine (rounded_near a b _ _ ha hb h1 HC.out).mono ?_
  rintro e w' ⟨rfl, m, rfl⟩
  go_wp2_with fail
  go_ret2
  exact ⟨rfl, ((Keeps.refl _ _).alloc _).drewN m⟩
theorem near_no (a b : Int) (w : World) (h1 : b < 1) :
    Calls Try.prog 20 #[.int .i64 a, .int .i64 b] w fun e w' => e = .returned (.tuple #[.int .i64 0, .int .i64 2]) ∧ Keeps [] w w' := by
  go_enter Try.func20, Try.ntmps20
  go_wp2_with fail
  refine (rounded_no a b _ _ _ _ h1).mono ?_
  rintro e w' ⟨rfl, rfl⟩
  go_wp2_with fail
  go_ret2
  exact ⟨rfl, (Keeps.refl _ _).alloc _⟩

theorem even_yes (a b : Int) (w : World) (ha : I64 a) (hb : I64 b) (h1 : 1 ≤ b) :
    Calls Try.prog 22 #[.int .i64 a, .int .i64 b] w fun e w' => e = .returned (.tuple #[.int .i64 (evenI a b), .int .i64 0]) ∧ Keeps [] w w' := by
  go_enter Try.func22, Try.ntmps22
  go_wp2_with fail
  refine (rounded_even a b _ ha hb h1).mono ?_
  rintro e w' ⟨rfl, m, rfl⟩
  go_wp2_with fail
  go_ret2
  exact ⟨rfl, (Keeps.refl _ _).drewN m⟩
theorem even_no (a b : Int) (w : World) (h1 : b < 1) :
    Calls Try.prog 22 #[.int .i64 a, .int .i64 b] w fun e w' => e = .returned (.tuple #[.int .i64 0, .int .i64 2]) ∧ Keeps [] w w' := by
  go_enter Try.func22, Try.ntmps22
  go_wp2_with fail
  refine (rounded_no a b _ _ _ _ h1).mono ?_
  rintro e w' ⟨rfl, rfl⟩
  go_wp2_with fail
  go_ret2
  exact ⟨rfl, Keeps.refl _ _⟩

theorem left_yes (a b : Int) (w : World) (ha : I64 a) (hb : I64 b) (h1 : 1 ≤ b) :
    Calls Try.prog 24 #[.int .i64 a, .int .i64 b] w fun e w' => e = .returned (.tuple #[.int .i64 (a % b), .int .i64 0]) ∧ Keeps [] w w' := by
  obtain ⟨q, hq⟩ : ∃ q, q = a / b := ⟨_, rfl⟩
  obtain ⟨r, hr⟩ : ∃ r, r = a % b := ⟨_, rfl⟩
  rw [← hr]
  have HQ := Lib.hid hq
  have HR := Lib.hid hr
  clear hq hr
  go_enter Try.func24, Try.ntmps24
  go_wp2_with fail
  refine (split_any a b _ ha hb h1).mono ?_
  rintro e w' ⟨he, m, rfl⟩
  rw [← HQ.out, ← HR.out] at he
  subst he
  go_wp2_with fail
  go_ret2
  exact ⟨rfl, (Keeps.refl _ _).drewN m⟩
theorem left_no (a b : Int) (w : World) (h1 : b < 1) :
    Calls Try.prog 24 #[.int .i64 a, .int .i64 b] w fun e w' => e = .returned (.tuple #[.int .i64 0, .int .i64 2]) ∧ Keeps [] w w' := by
  go_enter Try.func24, Try.ntmps24
  go_wp2_with fail
  go_ret2
  exact ⟨rfl, Keeps.refl _ _⟩

end Go.Proofs.Ytfkopmgmhmmcbaa
