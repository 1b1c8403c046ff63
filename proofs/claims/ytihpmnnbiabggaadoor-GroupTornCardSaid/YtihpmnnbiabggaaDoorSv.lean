
/- SlotOther, SlotFirst walked. No condition but the table of the sums, and that all are numbers of 64 bits. -/
import Derived.Test.YtihpmnnbiabggaaDoorSu
namespace Go.Proofs.YtihpmnnbiabggaaDoor
open Go.RowKit
set_option maxRecDepth 100000
set_option linter.unusedVariables false

theorem set_same {xs : List Int} {k : Nat} (h : k < xs.length) : xs.set k (xs.getD k 0) = xs := by
  refine List.ext_getElem (by simp) fun i h1 h2 => ?_
  rw [List.getElem_set]
  split
  · rename_i e
    subst e
    simp [List.getD, h2]
  · rfl
theorem wordsL_64 {l : List Int} (hb : rightB l = true) {k : Nat} {v : Int} (hv : I64 v) : ∀ x ∈ (wordsL l).set k v, I64 x := by
  intro x hx
  rcases List.mem_or_eq_of_mem_set hx with h | rfl
  · exact words_64 hb x h
  · exact hv

/-- Words of which those from the n-th to the i-th are blank. -/
def blankL (xs : List Int) (n i : Nat) : List Int := xs.take n ++ (List.replicate (i - n) 65535 ++ xs.drop i)
theorem blankL_len {xs : List Int} {n i : Nat} (h : n ≤ i) (hi : i ≤ xs.length) : (blankL xs n i).length = xs.length := by simp [blankL]; omega
theorem blankL_start (xs : List Int) (n : Nat) : blankL xs n n = xs := by simp [blankL]
theorem blankL_step {xs : List Int} {n i : Nat} (h : n ≤ i) (hi : i < xs.length) : (blankL xs n i).set i 65535 = blankL xs n (i + 1) := by
  unfold blankL
  have e1 : (xs.take n).length = n := by simp; omega
  rw [List.set_append_right _ _ (by omega), e1, List.set_append_right _ _ (by simp), List.length_replicate, Nat.sub_self, List.drop_eq_getElem_cons hi, List.set_cons_zero, show i + 1 - n = (i - n) + 1 by omega, List.replicate_succ']
  simp
theorem blank_last {xs : List Int} (h : xs.length = 16) {n : Nat} (hn : n < 16) : (blankL xs n 16).getD 15 0 = 65535 := by
  unfold blankL
  simp only [List.getD]
  rw [List.getElem?_append_right (by simp; omega), List.getElem?_append_left (by simp; omega), List.getElem?_replicate]
  rw [if_pos (by simp; omega)]
  rfl
theorem blank_not_whole {xs : List Int} (h : xs.length = 16) {n : Nat} (hn : n < 16) : readR (blankL xs n 16) = (60, zer 13) := by
  have hl : (blankL xs n 16).length = 16 := by rw [blankL_len (by omega) (by omega), h]
  unfold readR
  rw [if_pos hl, if_neg]
  intro hw
  have := whole_last hl hw
  rw [blank_last h hn] at this
  omega
theorem blank_is {l : List Int} (hl : l.length = 13) (hb : rightB l = true) {n : Nat} (hn : n < 16) : blankB (blankL (wordsL l) n 16) = decide (n = 0) := by
  have h16 := wordsL_len hl
  have hlen : (blankL (wordsL l) n 16).length = 16 := by rw [blankL_len (by omega) (by omega), h16]
  unfold blankB
  rw [hlen]
  by_cases h0 : n = 0
  · subst h0
    have : blankL (wordsL l) 0 16 = List.replicate 16 65535 := by
      unfold blankL
      rw [List.drop_eq_nil_of_le (by omega)]
      simp
    rw [this]
    simp
  · rw [decide_eq_false h0, Bool.and_eq_false_iff]
    right
    rw [List.all_eq_false]
    refine ⟨(wordsL l).getD 0 0, ?_, ?_⟩
    · unfold blankL
      rw [List.mem_append]
      left
      rw [List.mem_iff_getElem?]
      refine ⟨0, ?_⟩
      rw [List.getElem?_take, if_pos (by omega)]
      simp [List.getD, h16]
    · have := (right_out hb).1
      rw [words_first]
      intro hh
      rw [beq_iff_eq] at hh
      omega
theorem blank_64 {xs : List Int} (h : ∀ x ∈ xs, I64 x) (n i : Nat) : ∀ x ∈ blankL xs n i, I64 x := by
  intro x hx
  simp only [blankL, List.mem_append, List.mem_replicate] at hx
  rcases hx with hx | ⟨-, rfl⟩ | hx
  · exact h x (List.mem_of_mem_take hx)
  · unfold I64; omega
  · exact h x (List.mem_of_mem_drop hx)

end Go.Proofs.YtihpmnnbiabggaaDoor
