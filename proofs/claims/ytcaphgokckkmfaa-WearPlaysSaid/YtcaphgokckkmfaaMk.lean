
/- A slice of ints that make makes. No condition but its length. -/
import Derived.Test.YtcaphgokckkmfaaAp
namespace Go.Proofs.Ytcaphgokckkmfaa
open Go.RowKit
set_option maxRecDepth 100000
set_option linter.unusedVariables false

theorem madeCells_ints (n : Nat) : madeCells #[.int .i64 0] n = ints (List.replicate n 0) := by
  apply Array.ext
  · simp [madeCells, ints]
  · intro i h1 h2
    simp [madeCells, ints, Nat.mod_one]
theorem run_make_ints (t : TypeId) (ht : Try.prog.underlying t = some (.slice 3)) (n : Nat) (hn : n ≤ 1000000) (w : World) :
    (Instr.makeSlice t (.int .i64 (n : Int)) (.int .i64 (n : Int))).run Try.prog w = .ok (.slice (some ⟨w.heap.size, 0, none⟩) n n) (w.alloc (.cells (ints (List.replicate n 0)) 3)) := by
  obtain ⟨i0, hi, hz0, hz1, hz2⟩ := info_parts Try.info3
  have h := run_make (P := Try.prog) w t 3 i0 _ ht hi hz0 .i64 .i64 n n (by omega) (by omega) (by rw [hz2]; omega) (by omega)
  rw [hz1, Nat.mul_one] at h
  simpa [madeCells_ints, Value.cells] using h
theorem arr_made (w : World) (l : List Int) (hl : l.length ≤ 1000000) : Arr (w.alloc (.cells (ints l) 3)) w.heap.size l.length l :=
  ⟨⟨ints l, heap_alloc_new w _, by simp only [ints]; rw [List.take_of_length_le (by simp)], by simp [ints]⟩, Nat.le_refl _, by unfold maxLen; omega⟩

end Go.Proofs.Ytcaphgokckkmfaa
