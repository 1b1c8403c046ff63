
/- slot: the document's Read: the contract. No condition but that all are numbers of 64 bits. -/
import Derived.Test.YtihpmnnbiabggaaDoorSq
import Derived.Test.YtihpmnnbiabggaaDoorSi
import Derived.StillTailTactics
import Derived.Deep.CutRange
namespace Go.Proofs.YtihpmnnbiabggaaDoor
open Go.RowKit
set_option maxRecDepth 100000
set_option linter.unusedVariables false

/-- The record that the document reads of sixteen words, right or not. -/
def refL (xs : List Int) : List Int := wrap64 (xs.getD 0 0 - 23040) :: (amongI (xs.getD 1 0) 65536 * 65536 + amongI (xs.getD 2 0) 65536) :: (xs.drop 3).take 11
theorem refL_len {xs : List Int} (h : xs.length = 16) : (refL xs).length = 13 := by simp [refL, h]
theorem among_word {x : Int} (h : 0 ≤ x ∧ x ≤ 65535) : amongI x 65536 = x := by
  have e : IntKind.u64.wrap x = x := by rw [IntKind.wrap_u64]; omega
  unfold amongI
  rw [e, Int.tmod_eq_emod_of_nonneg h.1, Int.emod_eq_of_lt h.1 (by omega)]
  unfold wrap64; omega
theorem whole_ref {xs : List Int} (hl : xs.length = 16) (h : wholeB xs = true) : refL xs = recOf xs := by
  obtain ⟨h1, h2, h3⟩ := whole_three hl h
  have e1 : wrap64 (xs.getD 0 0 - 23040) = xs.getD 0 0 - 23040 := by unfold wrap64; omega
  unfold refL recOf
  rw [e1, among_word h2, among_word h3]
theorem refL_64 {xs : List Int} (h : ∀ x ∈ xs, I64 x) : ∀ x ∈ refL xs, I64 x := by
  intro x hx
  simp only [refL, List.mem_cons] at hx
  rcases hx with rfl | rfl | hx
  · exact wrap_64 _
  · have h1 := amongI_lt (xs.getD 1 0) 65536 (by omega) (by omega)
    have h2 := amongI_lt (xs.getD 2 0) 65536 (by omega) (by omega)
    unfold I64; omega
  · exact h x (List.mem_of_mem_drop (List.mem_of_mem_take hx))
/-- The record as far as it is filled. -/
def fillL (k s : Int) (p : List Int) (i : Nat) : List Int := k :: s :: (p.take i ++ List.replicate (11 - i) 0)
theorem fillL_len (k s : Int) {p : List Int} (h : p.length = 11) {i : Nat} (hi : i ≤ 11) : (fillL k s p i).length = 13 := by simp [fillL, h]; omega
theorem fill_step (k s : Int) {p : List Int} (h : p.length = 11) {i : Nat} (hi : i < 11) : (fillL k s p i).set (2 + i) (p.getD i 0) = fillL k s p (i + 1) := by
  unfold fillL
  rw [Nat.add_comm]
  simp only [List.set_cons_succ]
  congr 2
  have e : (p.take i).length = i := by simp; omega
  rw [List.set_append_right _ _ (by omega), e, Nat.sub_self, List.take_succ_eq_append_getElem (by omega), List.append_assoc]
  congr 1
  rw [show 11 - i = (11 - (i + 1)) + 1 by omega, List.replicate_succ]
  simp [List.getD, h, hi]
theorem lit2 (k s : Int) : (#[.int .i64 k, .int .i64 s, .int .i64 0, .int .i64 0, .int .i64 0, .int .i64 0, .int .i64 0, .int .i64 0, .int .i64 0, .int .i64 0, .int .i64 0, .int .i64 0, .int .i64 0] : Array Value) = ints (k :: s :: zer 11) := rfl

end Go.Proofs.YtihpmnnbiabggaaDoor
