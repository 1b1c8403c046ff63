/- Read, Erase, the counts of the document's own flash, and small: their contracts. -/
import Derived.Test.YtjebflafbkmokaaRP
import Derived.Test.YtjebflafbkmokaaM
namespace Go.Proofs.Ytjebflafbkmokaa
open Go.RowKit
set_option linter.unusedVariables false
variable {w w' : World} {F : List Nat} {b gw cw be : Nat} {lv : Value} {s : FS}

/-- What a read says. -/
def FS.readP (s : FS) (at_ : Int) : Int × Int :=
  if withinB 0 ((s.w.length : Int) - 1) at_ then (if s.off then (0, 10) else (s.w.getD at_.toNat 0, 0)) else (0, 2)
def FS.erP (s : FS) (p : Int) : Int := if withinB 0 ((s.er.length : Int) - 1) p then s.er.getD p.toNat 0 else 0

theorem refRead_any (hF : Rf w b gw cw be lv s) (at_ : Int) (hwl : s.w.length ≤ 1000000) :
    Calls Try.prog 23 #[.pointer (some ⟨b, 0, none⟩), .int .i64 at_] w fun e w' => e = .returned (.tuple #[.int .i64 (s.readP at_).1, .int .i64 (s.readP at_).2]) ∧ w = w' := by
  have c3 := hF.c3
  have c7 := hF.c7
  have lb := hF.lb
  by_cases h0 : 0 ≤ at_
  · by_cases h1 : at_ < s.w.length
    · obtain ⟨q, rfl⟩ := Int.eq_ofNat_of_zero_le h0
      have hq : q < s.w.length := by omega
      have hin : withinB 0 ((s.w.length : Int) - 1) q = true := by rw [withinB_iff]; omega
      by_cases ho : s.off = true
      · have hfin : s.readP q = (0, 10) := by simp [FS.readP, hin, ho]
        rw [ho] at c7
        rw [hfin]
        clear hin hfin ho
        go_enter Try.func23, Try.ntmps23
        go_wp2_with fail
        go_ret2
        exact ⟨rfl, rfl⟩
      · have ho2 : s.off = false := by simpa using ho
        have hfin : s.readP q = (s.w.getD q 0, 0) := by simp [FS.readP, hin, ho2]
        rw [ho2] at c7
        have ce := hF.hw.cell hq
        obtain ⟨x, hx⟩ : ∃ x, x = s.w.getD q 0 := ⟨_, rfl⟩
        rw [hfin, ← hx]
        rw [← hx] at ce
        clear hin hfin ho ho2 hx
        go_enter Try.func23, Try.ntmps23
        go_wp2_with fail
        go_ret2
        exact ⟨rfl, rfl⟩
    · have hfin : s.readP at_ = (0, 2) := by
        have : ¬ withinB 0 ((s.w.length : Int) - 1) at_ = true := by rw [withinB_iff]; omega
        simp [FS.readP, this]
      rw [hfin]
      clear hfin
      go_enter Try.func23, Try.ntmps23
      go_wp2_with fail
      go_ret2
      exact ⟨rfl, rfl⟩
  · have hfin : s.readP at_ = (0, 2) := by
      have : ¬ withinB 0 ((s.w.length : Int) - 1) at_ = true := by rw [withinB_iff]; omega
      simp [FS.readP, this]
    rw [hfin]
    clear hfin
    go_enter Try.func23, Try.ntmps23
    go_wp2_with fail
    go_ret2
    exact ⟨rfl, rfl⟩

theorem refErases_any (hF : Rf w b gw cw be lv s) (p : Int) (hel : s.er.length ≤ 1000000) :
    Calls Try.prog 31 #[.pointer (some ⟨b, 0, none⟩), .int .i64 p] w fun e w' => e = .returned (.int .i64 (s.erP p)) ∧ w = w' := by
  have c5 := hF.c5
  have lb := hF.lb
  by_cases h0 : 0 ≤ p
  · by_cases h1 : p < s.er.length
    · obtain ⟨q, rfl⟩ := Int.eq_ofNat_of_zero_le h0
      have hq : q < s.er.length := by omega
      have hin : withinB 0 ((s.er.length : Int) - 1) q = true := by rw [withinB_iff]; omega
      have hfin : s.erP q = s.er.getD q 0 := by simp [FS.erP, hin]
      have ce := hF.ce hq
      obtain ⟨x, hx⟩ : ∃ x, x = s.er.getD q 0 := ⟨_, rfl⟩
      rw [hfin, ← hx]
      rw [← hx] at ce
      clear hin hfin hx
      go_enter Try.func31, Try.ntmps31
      go_wp2_with fail
      go_ret
      exact ⟨rfl, rfl⟩
    · have hfin : s.erP p = 0 := by
        have : ¬ withinB 0 ((s.er.length : Int) - 1) p = true := by rw [withinB_iff]; omega
        simp [FS.erP, this]
      rw [hfin]
      clear hfin
      go_enter Try.func31, Try.ntmps31
      go_wp2_with fail
      go_ret
      exact ⟨rfl, rfl⟩
  · have hfin : s.erP p = 0 := by
      have : ¬ withinB 0 ((s.er.length : Int) - 1) p = true := by rw [withinB_iff]; omega
      simp [FS.erP, this]
    rw [hfin]
    clear hfin
    go_enter Try.func31, Try.ntmps31
    go_wp2_with fail
    go_ret
    exact ⟨rfl, rfl⟩

def smI (x k : Int) : Int := if k < x then k else x
theorem small_any (g p n : Int) (w : World) : Calls Try.prog 11 #[.agg #[.int .i64 g, .int .i64 p, .int .i64 n]] w fun e w' => e = .returned (.agg #[.int .i64 (smI g 9), .int .i64 (smI p 9), .int .i64 (smI n 32)]) ∧ Keeps [] w w' := by
  obtain ⟨A, hA⟩ : ∃ A, (if (9 : Int) < g then (9 : Int) else g) = A := ⟨_, rfl⟩
  obtain ⟨B, hB⟩ : ∃ B, (if (9 : Int) < p then (9 : Int) else p) = B := ⟨_, rfl⟩
  obtain ⟨C, hC⟩ : ∃ C, (if (32 : Int) < n then (32 : Int) else n) = C := ⟨_, rfl⟩
  unfold smI
  rw [hA, hB, hC]
  go_enter Try.func11, Try.ntmps11
  go_wp2
  exact bodyPost_ret (v := .agg #[.int .i64 A, .int .i64 B, .int .i64 C]) (by simp [results, Try.results11, go_sem]) rfl ⟨rfl, ((Keeps.refl _ _).alloc _).alloc _⟩

end Go.Proofs.Ytjebflafbkmokaa
