
/- SlotBack walked. No condition but the table of the sums, and that all are numbers of 64 bits. -/
import Derived.Test.YtihpmnnbiabggaaDoorSv
import Derived.Deep.CutBlock
import Derived.Deep.CutRange
namespace Go.Proofs.YtihpmnnbiabggaaDoor
open Go.RowKit
set_option maxRecDepth 100000
set_option linter.unusedVariables false

theorem take100 (xs : List Int) {n : Nat} (h : n = xs.length) : (xs.take 100).length = min n 100 := by rw [List.length_take, h, Nat.min_comm]

/-- Words hands back words or none, both as one. -/
def Told (w w' : World) (l : List Int) (V : Value) (E : Int) : Prop :=
  ((rightB l = false ∧ V = .slice none 0 0 ∧ E = 2) ∨ (rightB l = true ∧ E = 0 ∧ ∃ g cc, V = .slice (some ⟨g, 0, none⟩) 16 cc ∧ w.heap.size ≤ g ∧ Arr w' g cc (wordsL l))) ∧ Keeps [] w w'
theorem words_both (l : List Int) (w : World) (ht : Turns w) (hl : l.length = 13) (h64 : ∀ x ∈ l, I64 x) :
    Calls Tryd.prog 33 #[.agg (ints l)] w fun e w' => ∃ V E, e = .returned (.tuple #[V, .int .i64 E]) ∧ Told w w' l V E := by
  cases hb : rightB l
  · refine (words_no l w ht hl h64 hb).mono ?_
    rintro e w' ⟨rfl, k⟩
    exact ⟨_, _, rfl, .inl ⟨hb, rfl, rfl⟩, k⟩
  · refine (words_yes l w ht hl h64 hb).mono ?_
    rintro e w' ⟨g, cc, rfl, hg, hA, k⟩
    exact ⟨_, _, rfl, .inr ⟨hb, rfl, g, cc, rfl, hg, hA⟩, k⟩

theorem blank_words {l : List Int} (hl : l.length = 13) (hb : rightB l = true) : blankB (wordsL l) = false := by
  have h := blank_is hl hb (n := 15) (by omega)
  unfold blankB at h ⊢
  rw [Bool.and_eq_false_iff]
  right
  rw [List.all_eq_false]
  refine ⟨(wordsL l).getD 0 0, ?_, ?_⟩
  · rw [List.mem_iff_getElem?]
    exact ⟨0, by simp [List.getD, wordsL_len hl]⟩
  · have := (right_out hb).1
    rw [words_first]
    intro hh
    rw [beq_iff_eq] at hh
    omega
theorem read_cases (ys : List Int) : (∃ E : Int, E ≠ 0 ∧ readR ys = (E, zer 13)) ∨ (ys.length = 16 ∧ wholeB ys = true ∧ readR ys = (0, recOf ys)) := by
  unfold readR
  split
  · rename_i h
    split
    · rename_i h2
      exact .inr ⟨h, h2, rfl⟩
    · exact .inl ⟨60, by decide, rfl⟩
  · exact .inl ⟨2, by decide, rfl⟩
theorem recOf_64 {ys : List Int} (hb : rightB (recOf ys) = true) : ∀ x ∈ recOf ys, I64 x := by
  obtain ⟨h1, h2, h3⟩ := right_out hb
  intro x hx
  unfold recOf at hx h1 h2 h3
  simp only [List.mem_cons] at hx
  simp only [List.getD_cons_zero, List.getD_cons_succ, List.drop_succ_cons, List.drop_zero] at h1 h2 h3
  rcases hx with rfl | rfl | hx
  · unfold I64; omega
  · unfold I64; omega
  · have := h3 x hx
    unfold I64; omega

end Go.Proofs.YtihpmnnbiabggaaDoor
