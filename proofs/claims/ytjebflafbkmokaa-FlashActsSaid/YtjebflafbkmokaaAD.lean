/- Read and the counts of a flash, in one contract each, as the document's own are said. -/
import Derived.Test.YtjebflafbkmokaaAB
namespace Go.Proofs.Ytjebflafbkmokaa
open Go.RowKit
set_option linter.unusedVariables false
variable {w : World} {b bw be : Nat} {dv : Value} {s : FS}

theorem read_any (h : Fl w b bw be dv s) (n : Int) (hl : s.w.length ≤ 1000000) :
    Calls Try.prog 22 #[.pointer (some ⟨b, 0, none⟩), .int .i64 n] w fun e w' => e = .returned (.tuple #[.int .i64 (s.readP n).1, .int .i64 (s.readP n).2]) ∧ w = w' := by
  by_cases hin : withinB 0 ((s.w.length : Int) - 1) n = true
  · have h1 := hin
    rw [withinB_iff] at h1
    obtain ⟨q, rfl⟩ := Int.eq_ofNat_of_zero_le h1.1
    have hq : q < s.w.length := by omega
    by_cases ho : s.off = true
    · have e : s.readP q = (0, 10) := by simp [FS.readP, hin, ho]
      rw [e]; exact read_off h q hl hq ho
    · have ho2 : s.off = false := by simpa using ho
      have e : s.readP q = (s.w.getD q 0, 0) := by simp [FS.readP, hin, ho2]
      rw [e]; exact read_in h q hl hq ho2
  · have e : s.readP n = (0, 2) := by simp [FS.readP, hin]
    rw [e]
    rw [withinB_iff] at hin
    exact read_out h n hl (by omega)

theorem erases_any1 (h : Fl w b bw be dv s) (n : Int) (hl : s.er.length ≤ 1000000) :
    Calls Try.prog 30 #[.pointer (some ⟨b, 0, none⟩), .int .i64 n] w fun e w' => e = .returned (.int .i64 (s.erP n)) ∧ w = w' := by
  by_cases hin : withinB 0 ((s.er.length : Int) - 1) n = true
  · have h1 := hin
    rw [withinB_iff] at h1
    obtain ⟨q, rfl⟩ := Int.eq_ofNat_of_zero_le h1.1
    have hq : q < s.er.length := by omega
    have e : s.erP q = s.er.getD q 0 := by simp [FS.erP, hin]
    rw [e]; exact erases_in h q hl hq
  · have e : s.erP n = 0 := by simp [FS.erP, hin]
    rw [e]
    rw [withinB_iff] at hin
    exact erases_out h n hl (by omega)

end Go.Proofs.Ytjebflafbkmokaa
