
/- group: a group's words gone through slot by slot: Slots, part, and the iterator's contract. No condition but lengths. -/
import Derived.Test.YtihpmnnbiabggaaDoorAp
import Derived.RangeFuncNested
import Derived.RangeFuncBound
import Derived.RangeFuncCalls
import Derived.RangeFuncLeaves
import Derived.RangeFuncBox
import Derived.Shelf.Abstract
import Derived.Shelf.RegionOpen
import Derived.OwnWalkIn
import Derived.TacticsInMore
import Derived.LoopNIn
import Derived.LoopIn
namespace Go.Proofs.YtihpmnnbiabggaaDoor
open Go.RowKit Go.Shelf
set_option linter.unusedVariables false
set_option maxRecDepth 100000
attribute [local go_sem] Oper.semAt_some

/-- How many slots so many words have. -/
def slotsI (x : Int) : Int := if 0 ≤ x then x / 16 else 0
theorem slotsI_nat (n : Nat) : slotsI (n : Int) = ((n / 16 : Nat) : Int) := by unfold slotsI; omega

theorem Slots_any (x : Int) (w : World) (h : I64 x) : Calls Tryd.prog 7 #[.int .i64 x] w fun e w' => e = .returned (.int .i64 (slotsI x)) ∧ w = w' := by
  unfold I64 at h
  by_cases h0 : 0 ≤ x
  · have e : slotsI x = x / 16 := by unfold slotsI; rw [if_pos h0]
    have e1 : IntKind.i64.wrap (x.tdiv 16) = x / 16 := by rw [Int.tdiv_eq_ediv_of_nonneg h0, IntKind.wrap_i64]; omega
    rw [e]
    rcases Int.lt_or_eq_of_le h0 with h1 | h1
    · go_enter Tryd.func7, Tryd.ntmps7
      go_wp2
      all_goals (try omega)
      all_goals (go_ret; try exact ⟨by simp [*], rfl⟩)
    · subst h1
      go_enter Tryd.func7, Tryd.ntmps7
      go_wp2
      go_ret
      exact ⟨rfl, rfl⟩
  · have e : slotsI x = 0 := by unfold slotsI; rw [if_neg h0]
    rw [e]
    have h1 : x < 0 := by omega
    go_enter Tryd.func7, Tryd.ntmps7
    go_wp2
    all_goals (try omega)
    all_goals (go_ret; try exact ⟨rfl, rfl⟩)

/-- The words of the slots from one place up to another. -/
theorem part_any (b o n c i j : Nat) (w : World) (hij : i < j) (hj : 16 * j ≤ n) (hn : n ≤ c) (hc : c ≤ maxLen) :
    Calls Tryd.prog 23 #[.slice (some ⟨b, o, none⟩) n c, .int .i64 i, .int .i64 j] w fun e w' => e = .returned (.slice (some ⟨b, o + 16 * i, none⟩) (16 * (j - i)) (c - 16 * i)) ∧ w = w' := by
  unfold maxLen at hc
  have e1 : IntKind.i64.wrap ((i : Int) * 16) = ((16 * i : Nat) : Int) := by rw [IntKind.wrap_i64]; omega
  have e2 : IntKind.i64.wrap ((j : Int) * 16) = ((16 * j : Nat) : Int) := by rw [IntKind.wrap_i64]; omega
  obtain ⟨I, hI⟩ : ∃ I, I = 16 * i := ⟨_, rfl⟩
  obtain ⟨J, hJ⟩ : ∃ J, J = 16 * j := ⟨_, rfl⟩
  rw [← hI] at e1
  rw [← hJ] at e2
  have hIJ : I < J := by omega
  have hJn : J ≤ n := by omega
  have e3 : 16 * (j - i) = J - I := by omega
  rw [← hI, e3]
  clear hI hJ e3
  go_enter Tryd.func23, Tryd.ntmps23
  go_wp2
  go_ret
  exact ⟨rfl, rfl⟩

/-- The iterator: the words are boxed; the function value captures the box. -/
theorem slots_any (a : Option Addr) (n c : Nat) (w : World) :
    Calls Tryd.prog 15 #[.slice a n c] w fun e w' => e = .returned (.func (.func 22) #[] #[.pointer (some ⟨w.heap.size, 0, none⟩)]) ∧ w' = w.alloc (.cells #[.slice a n c] 40) := by
  go_enter Tryd.func15, Tryd.ntmps15
  go_wp2
  go_ret
  exact ⟨rfl, rfl⟩

end Go.Proofs.YtihpmnnbiabggaaDoor
