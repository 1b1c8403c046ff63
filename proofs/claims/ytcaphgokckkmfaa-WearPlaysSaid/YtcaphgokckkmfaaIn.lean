
/- A copy of a list of ints: its contract. -/
import Derived.Test.YtcaphgokckkmfaaAp
namespace Go.Proofs.Ytcaphgokckkmfaa
open Go.RowKit
set_option maxRecDepth 100000
set_option linter.unusedVariables false
variable {w w' : World} {g c : Nat} {xs ys : List Int} {F : List Nat}

theorem own_empty (w : World) : (w.alloc (.cells #[] 3)).ownsRow w.heap.size 3 1 (.slice (some ⟨w.heap.size, 0, none⟩) 0 0) 0 [] :=
  World.ownsRow_made w #[] 0 (Nat.le_refl _) (by unfold maxLen; omega) (by simp)

/-- Behind the append of a copy: what is left. -/
theorem copied {v' : Value} {xs : List Int} (ho : w'.ownsRow w.heap.size 3 1 v' (0 + xs.length) ([] ++ xs.map (Value.int .i64)))
    (hg : (w.alloc (.cells #[] 3)).grownBy w' (some w.heap.size)) (hne : v' ≠ .slice none 0 0) : ∃ g c', v' = .slice (some ⟨g, 0, none⟩) xs.length c' ∧ w.heap.size ≤ g ∧ Arr w' g c' xs ∧ Keeps [] w w' := by
  obtain ⟨g, c', rfl, h1, h2⟩ := Arr.of_own (by simpa using ho) hne
  exact ⟨g, c', rfl, h1, h2, ((Keeps.refl _ _).alloc _).grown hg (by intro k e; injection e with e; exact .inr (by omega))⟩

theorem ints_some (ad : Addr) (n c : Nat) (xs : List Int) (w : World) (h : IntsAt w (some ad) n xs) (hn : n * 8 ≤ 140737488355328) :
    Calls Try.prog 33 #[.slice (some ad) n c] w fun e w' => ∃ v, e = .returned v ∧ ∃ g c', v = .slice (some ⟨g, 0, none⟩) xs.length c' ∧ w.heap.size ≤ g ∧ Arr w' g c' xs ∧ Keeps [] w w' := by
  obtain ⟨i0, hi, hz0, hz1, hz2⟩ := info_parts Try.info3
  obtain ⟨rfl, h2⟩ := h
  have h : IntsAt w (some ad) xs.length xs := ⟨rfl, h2⟩
  have hka : Keeps [] w (w.alloc (.cells #[] 3)) := (Keeps.refl _ _).alloc _
  have hno := (h.keep hka (by simp)).news
  go_enter Try.func33, Try.ntmps33
  go_wp2_with (at_builtin; refine wpList_append_new _ rfl (.tmp 3) (.tmp 4) 38 rfl w.heap.size 3 i0 (.int .i64 0) 1 8 Try.underlying38 hi hz0 hz1 hz2 rfl (by decide) (.slice (some ⟨w.heap.size, 0, none⟩) 0 0) 0 [] rfl (own_empty w) ad xs.length c (xs.map (Value.int .i64)) rfl (by simp) hno (by simp [Value.oneCell']) (by unfold maxLen; omega) (by omega) (by simp) ?_; intro v' w' q1 q2 q3 q4)
  have hv : v' ≠ .slice none 0 0 := fun e => absurd (q3.1 e).1 (by simp)
  go_ret
  exact ⟨_, rfl, copied q1 q2 hv⟩
theorem ints_none (n c : Nat) (w : World) (hn : n = 0) :
    Calls Try.prog 33 #[.slice none n c] w fun e w' => ∃ v, e = .returned v ∧ ∃ g c', v = .slice (some ⟨g, 0, none⟩) 0 c' ∧ w.heap.size ≤ g ∧ Arr w' g c' [] ∧ Keeps [] w w' := by
  subst hn
  go_enter Try.func33, Try.ntmps33
  go_wp2
  go_ret
  refine ⟨_, rfl, w.heap.size, 0, rfl, Nat.le_refl _, ⟨⟨#[], heap_alloc_new w _, by simp, rfl⟩, Nat.le_refl _, by unfold maxLen; omega⟩, (Keeps.refl _ _).alloc _⟩

theorem ints_any (a : Option Addr) (n c : Nat) (xs : List Int) (w : World) (h : IntsAt w a n xs) (hn : n * 8 ≤ 140737488355328) :
    Calls Try.prog 33 #[.slice a n c] w fun e w' => ∃ v, e = .returned v ∧ ∃ g c', v = .slice (some ⟨g, 0, none⟩) xs.length c' ∧ w.heap.size ≤ g ∧ Arr w' g c' xs ∧ Keeps [] w w' := by
  rcases a with _ | ad
  · have h1 := h.2.1 rfl
    subst h1
    exact ints_none n c w h.1
  · exact ints_some ad n c xs w h hn

end Go.Proofs.Ytcaphgokckkmfaa
