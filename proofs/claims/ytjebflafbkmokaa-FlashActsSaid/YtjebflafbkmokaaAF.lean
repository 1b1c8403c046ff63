/- Two flashes side by side: what the statement asks of them behind each act, and at its end. -/
import Derived.Test.YtjebflafbkmokaaAE
import Derived.Test.YtjebflafbkmokaaV
namespace Go.Proofs.Ytjebflafbkmokaa
open Go.RowKit
set_option linter.unusedVariables false
variable {W wr wx : World} {xb xw xe rb re : Nat} {s t s2 t2 : FS} {L : List (Nat × Obj)} {N : Nat} {A B C : Int}

theorem bo_since (h : Bo W wr xb xw xe rb re s t L) (hd : s.done.length ≤ 1000000000) :
    Calls Try.prog 33 #[.pointer (some ⟨xb, 0, none⟩), .int .i64 (-1)] wr fun e w' => ∃ v, e = .returned v ∧ RawCopy wr w' v s.done := by
  obtain ⟨dx, gw, cw, lv, h1, h2⟩ := h
  exact since_neg h1.fx hd
theorem bo_size (h : Bo W wr xb xw xe rb re s t L) : Calls Try.prog 13 #[.pointer (some ⟨xb, 0, none⟩)] wr fun e w' => e = .returned (.int .i64 s.w.length) ∧ wr = w' := by
  obtain ⟨dx, gw, cw, lv, h1, h2⟩ := h
  exact size_yes h1.fx
theorem bo_geometry (h : Bo W wr xb xw xe rb re s t L) (hf : Fit s N A B C) : Calls Try.prog 34 #[.pointer (some ⟨xb, 0, none⟩)] wr fun e w' => e = .returned (.agg #[.int .i64 A, .int .i64 B, .int .i64 C]) ∧ Keeps [] wr w' := by
  obtain ⟨dx, gw, cw, lv, h1, h2⟩ := h
  have := geometry_yes h1.fx
  rwa [hf.geo.1, hf.geo.2.1, hf.geo.2.2] at this

/-- What stands in the document's flash, and goes on standing there while nothing turns. -/
theorem Bo.refAll (h : Bo W wr xb xw xe rb re s t L) : ∃ gw cw la lc, ∀ wz, Keeps [] wr wz → (wz.cell? ⟨rb, 3, none⟩ = some (.slice (some ⟨gw, 0, none⟩) t.w.length cw) ∧ wz.cell? ⟨rb, 4, none⟩ = some (.slice la t.done.length lc)) ∧ IntsAt wz (some ⟨gw, 0, none⟩) t.w.length t.w ∧ RawsAt wz la t.done.length t.done := by
  obtain ⟨dx, gw, cw, lv, h1, h2⟩ := h
  obtain ⟨la, lc, e, hr, _⟩ := RawsAt.of_own h1.fr.hd
  refine ⟨gw, cw, la, lc, fun wz hk => ?_⟩
  have h3 := h1.fr.keep0 hk
  have h4 := h3.c4
  rw [e] at h4
  exact ⟨⟨h3.c3, h4⟩, h3.hw.ints, hr.keep hk (by simp)⟩

theorem same_ints {a a' : Option Addr} {n c c' : Nat} {xs : List Int} {w : World} (h : IntsAt w a n xs) (h' : IntsAt w a' n xs) (hn : n ≤ 1000000) :
    Calls Try.prog 19 #[.slice a n c, .slice a' n c'] w fun e w' => e = .returned (.bool true) ∧ ∃ m, w' = w.drewN m := by
  have := sameInts_any a a' n n c c' xs xs w h h' (by unfold maxLen; omega) (by unfold maxLen; omega)
  rwa [decide_eq_true rfl] at this
theorem same_raws {a a' : Option Addr} {k c c' : Nat} {xs : List Raw3} {w : World} (h : RawsAt w a k xs) (h' : RawsAt w a' k xs) (hk : k ≤ 1000000000) :
    Calls Try.prog 32 #[.slice a k c, .slice a' k c'] w fun e w' => e = .returned (.bool true) ∧ ∃ m, w' = w.drewN m :=
  sameRaws_any a a' k k c c' xs xs w h h' (by unfold maxLen; omega) (by unfold maxLen; omega) rfl

end Go.Proofs.Ytjebflafbkmokaa
