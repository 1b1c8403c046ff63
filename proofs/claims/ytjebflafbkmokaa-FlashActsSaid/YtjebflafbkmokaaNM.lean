/- A cut below 0 is none: what a flash comes to does not hang on which. Plain facts. -/
import Derived.Test.YtjebflafbkmokaaRE
namespace Go.Proofs.Ytjebflafbkmokaa
open Go.RowKit
set_option linter.unusedVariables false

/-- A flash of which a cut below 0 is written -1. -/
def FS.nm (s : FS) : FS := { s with cut := if s.cut < -1 then -1 else s.cut }

theorem nm_put (s : FS) (r : Raw3) : s.nm.put r = (s.put r).nm := by
  by_cases h1 : s.cut < -1
  · have h2 : ¬ s.cut > 0 := by omega
    have h3 : ¬ ((-1 : Int) > 0) := by omega
    simp only [FS.nm, FS.put, if_pos h1, if_neg h2, if_neg h3]
  · by_cases h2 : s.cut > 0
    · have h3 : ¬ (s.cut - 1 < -1) := by omega
      simp only [FS.nm, FS.put, if_neg h1, if_pos h2, if_neg h3]
    · simp only [FS.nm, FS.put, if_neg h1, if_neg h2]
theorem nm_runL {l : List Raw3} : ∀ {s : FS}, FS.runL s.nm l = ((FS.runL s l).1.nm, (FS.runL s l).2) := by
  induction l with
  | nil => intro s; rfl
  | cons r l ih =>
    intro s
    by_cases hc : s.cut = 0
    · have hc2 : s.nm.cut = 0 := by simp [FS.nm, hc]
      rw [runL_cut hc, runL_cut hc2]
      simp [FS.nm]
    · have hc2 : s.nm.cut ≠ 0 := by simp only [FS.nm]; split <;> omega
      rw [runL_cons hc, runL_cons hc2, nm_put, ih]
theorem nm_w (s : FS) : s.nm.w = s.w := rfl
theorem nm_er (s : FS) : s.nm.er = s.er := rfl
theorem nm_off (s : FS) : s.nm.off = s.off := rfl
theorem nm_done (s : FS) : s.nm.done = s.done := rfl
theorem nm_prog (s : FS) (a : Int) (xs : List Int) : s.nm.prog a xs = ((s.prog a xs).1, (s.prog a xs).2.nm) := by
  unfold FS.prog
  rw [nm_w, nm_off, nm_runL]
  split
  · split <;> rfl
  · rfl
theorem nm_eraseP (s : FS) (p : Int) : s.nm.eraseP p = ((s.eraseP p).1, (s.eraseP p).2.nm) := by
  unfold FS.eraseP
  rw [nm_er, nm_off, show s.nm.n = s.n from rfl, nm_runL]
  split
  · split <;> rfl
  · rfl

theorem putR_plain {s : FS} {a v : Int} : s.putR (false, a, v) = s.put (false, a, v) := by simp [FS.putR, FS.put]
theorem runR_raws {xs : List Int} : ∀ {s : FS} {a : Int}, FS.runR s (rawsOf a xs) = FS.runL s (rawsOf a xs) := by
  induction xs with
  | nil => intro s a; rfl
  | cons x r ih =>
    intro s a
    simp only [rawsOf, FS.runR, FS.runL, putR_plain, ih]
theorem progR_eq (s : FS) (a : Int) (xs : List Int) : s.progR a xs = s.prog a xs := by
  unfold FS.progR FS.prog; rw [runR_raws]
theorem nm_readP (s : FS) (a : Int) : s.nm.readP a = s.readP a := rfl
theorem nm_erP (s : FS) (a : Int) : s.nm.erP a = s.erP a := rfl

end Go.Proofs.Ytjebflafbkmokaa
