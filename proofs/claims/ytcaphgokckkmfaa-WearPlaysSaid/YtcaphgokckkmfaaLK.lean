
/- The statements' small helpers, and the flash's copies: their contracts. -/
import Derived.Test.YtcaphgokckkmfaaLI
import Derived.Test.YtcaphgokckkmfaaAm
import Derived.Test.YtcaphgokckkmfaaIn
import Derived.Test.YtcaphgokckkmfaaSi
namespace Go.Proofs.Ytcaphgokckkmfaa
open Go.RowKit
set_option maxRecDepth 100000
set_option linter.unusedVariables false
variable {w w' : World} {g c : Nat} {xs ys : List Int} {F : List Nat}

theorem clone_some (ad : Addr) (n c : Nat) (xs : List Int) (w : World) (h : IntsAt w (some ad) n xs) (hn : n * 8 ≤ 140737488355328) :
    Calls Try.prog 56 #[.slice (some ad) n c] w fun e w' => ∃ v, e = .returned v ∧ ∃ g c', v = .slice (some ⟨g, 0, none⟩) xs.length c' ∧ w.heap.size ≤ g ∧ Arr w' g c' xs ∧ Keeps [] w w' := by
  obtain ⟨i0, hi, hz0, hz1, hz2⟩ := info_parts Try.info3
  obtain ⟨rfl, h2⟩ := h
  have h : IntsAt w (some ad) xs.length xs := ⟨rfl, h2⟩
  have hka : Keeps [] w (w.alloc (.cells #[] 3)) := (Keeps.refl _ _).alloc _
  have hno := (h.keep hka (by simp)).news
  have q := fun (w : World) (a : Option Addr) (n c : Nat) => Lib.run_eql_slice_nil (P := Try.prog) w 38 3 a n c 0 0 Try.underlying38
  go_enter Try.func56, Try.ntmps56
  go_wp2_with (at_builtin; refine wpList_append_new _ rfl (.tmp 5) (.tmp 6) 38 rfl w.heap.size 3 i0 (.int .i64 0) 1 8 Try.underlying38 hi hz0 hz1 hz2 rfl (by decide) (.slice (some ⟨w.heap.size, 0, none⟩) 0 0) 0 [] rfl (own_empty w) ad xs.length c (xs.map (Value.int .i64)) rfl (by simp) hno (by simp [Value.oneCell']) (by unfold maxLen; omega) (by omega) (by simp) ?_; intro v' w' q1 q2 q3 q4)
  have hv : v' ≠ .slice none 0 0 := fun e => absurd (q3.1 e).1 (by simp)
  go_ret
  exact ⟨_, rfl, copied q1 q2 hv⟩
theorem Fl.intsW {b bw be : Nat} {dv : Value} {s : FS} (h : Fl w b bw be dv s) : IntsAt w (some ⟨bw, 0, none⟩) s.w.length s.w := by
  refine ⟨rfl, (by simp), ?_⟩
  rintro b o s' e
  injection e with e
  injection e with e1 e2 e3
  subst e1; subst e2; subst e3
  exact fun _ => ⟨rfl, fun i hi => by rw [Nat.zero_add]; exact h.cw hi⟩

theorem image_yes {b bw be : Nat} {dv : Value} {s : FS} (h : Fl w b bw be dv s) (hl : s.w.length ≤ 1000000) :
    Calls Try.prog 27 #[.pointer (some ⟨b, 0, none⟩)] w fun e w' => ∃ v, e = .returned v ∧ ∃ g c', v = .slice (some ⟨g, 0, none⟩) s.w.length c' ∧ w.heap.size ≤ g ∧ Arr w' g c' s.w ∧ Keeps [] w w' := by
  have c0 := h.c0
  go_enter Try.func27, Try.ntmps27
  go_wp2_with (first
    | (go_at_call 40; refine (made_fl h).mono ?_; rintro e w' ⟨rfl, rfl⟩)
    | (go_at_call 56; refine (clone_some _ _ _ _ _ h.intsW (by omega)).mono ?_; rintro e w' ⟨v, rfl, hv⟩))
  go_ret
  exact ⟨_, rfl, hv⟩

end Go.Proofs.Ytcaphgokckkmfaa
