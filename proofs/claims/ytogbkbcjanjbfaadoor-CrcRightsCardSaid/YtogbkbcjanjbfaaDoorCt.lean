/- What is right: contracts. -/
import Derived.Test.YtogbkbcjanjbfaaDoorCs
namespace Go.Proofs.YtogbkbcjanjbfaaDoor
open Go.RowKit
set_option linter.unusedVariables false
variable {w w' : World} {F : List Nat}

theorem Turns.drewN (h : Turns w) (m : Nat) : Turns (w.drewN m) := h.keep ((Keeps.refl _ _).drewN m)
theorem IntsAt.drewN {a : Option Addr} {n : Nat} {xs : List Int} (h : IntsAt w a n xs) (m : Nat) : IntsAt (w.drewN m) a n xs := h.keep0 ((Keeps.refl _ _).drewN m)
theorem same_flip {P : Program} {f : FuncId} {args : Array Value} {v : Value} (h : Calls P f args w fun e w' => e = .returned v ∧ w = w') : Calls P f args w fun e w' => e = .returned v ∧ w' = w := h.mono fun _ _ h => ⟨h.1, h.2.symm⟩

/-- Is the last one the sum of those ahead? -/
def rightB (xs : List Int) : Bool := match xs.getLast? with
  | none => false
  | some x => x == (crcI 65535 xs.dropLast : Int)
theorem rightB_snoc (l : List Int) (x : Int) : rightB (l ++ [x]) = (x == (crcI 65535 l : Int)) := by
  simp [rightB]

theorem right_nil (a : Option Addr) (c : Nat) (w : World) :
    Calls Tryd.prog 21 #[.slice a 0 c] w fun e w' => e = .returned (.bool false) ∧ ∃ m, w' = w.drewN m := by
  go_enter Tryd.func21, Tryd.ntmps21
  go_wp2
  go_quiet (fail)
  go_wp2
  go_ret
  exact ⟨rfl, _, rfl⟩
theorem right_some (a : Option Addr) (c : Nat) (l : List Int) (x : Int) (w : World) (ht : Turns w) (hi : IntsAt w a (l.length + 1) (l ++ [x])) (hn : l.length + 1 ≤ c) (hc : c ≤ maxLen) :
    Calls Tryd.prog 21 #[.slice a (l.length + 1) c] w fun e w' => e = .returned (.bool (rightB (l ++ [x]))) ∧ ∃ m, w' = w.drewN m := by
  unfold maxLen at hc
  obtain ⟨k, hk⟩ : ∃ k, k = l.length := ⟨_, rfl⟩
  rw [rightB_snoc]
  have hi2 := hi.take (k := k) (by omega)
  rw [hk, List.take_left] at hi2
  rcases a with _ | ⟨lb, lo', ls⟩
  · have := hi.2.1 rfl; simp at this
  obtain ⟨rfl, hlc⟩ := hi.2.2 lb lo' ls rfl (by simp)
  have hx := hlc k (by simp; omega)
  have hg : (l ++ [x]).getD k 0 = x := by rw [hk]; simp [List.getD]
  rw [hg] at hx
  rw [← hk] at hi2 hn ⊢
  have HT := Lib.hid ht
  have HI := Lib.hid hi2
  clear hi2 hlc hg ht hi hk
  go_enter Tryd.func21, Tryd.ntmps21
  go_wp2
  go_quiet ((go_at_call 13; refine Calls.quiet_of_same (same_flip (of_any _ _ _ l _ (HT.out.drewN _) (HI.out.drewN _) (by unfold maxLen; omega)))))
  go_wp2
  go_ret
  exact ⟨rfl, _, rfl⟩
theorem refRight_nil (a : Option Addr) (c : Nat) (w : World) :
    Calls Tryd.prog 22 #[.slice a 0 c] w fun e w' => e = .returned (.bool false) ∧ ∃ m, w' = w.drewN m := by
  go_enter Tryd.func22, Tryd.ntmps22
  go_wp2
  go_quiet (fail)
  go_wp2
  go_ret
  exact ⟨rfl, _, rfl⟩
theorem refRight_some (a : Option Addr) (c : Nat) (l : List Int) (x : Int) (w : World) (hi : IntsAt w a (l.length + 1) (l ++ [x])) (hx64 : ∀ x ∈ l, I64 x) (hn : l.length + 1 ≤ c) (hc : c ≤ maxLen) :
    Calls Tryd.prog 22 #[.slice a (l.length + 1) c] w fun e w' => e = .returned (.bool (rightB (l ++ [x]))) ∧ ∃ m, w' = w.drewN m := by
  unfold maxLen at hc
  obtain ⟨k, hk⟩ : ∃ k, k = l.length := ⟨_, rfl⟩
  rw [rightB_snoc]
  have hi2 := hi.take (k := k) (by omega)
  rw [hk, List.take_left] at hi2
  rcases a with _ | ⟨lb, lo', ls⟩
  · have := hi.2.1 rfl; simp at this
  obtain ⟨rfl, hlc⟩ := hi.2.2 lb lo' ls rfl (by simp)
  have hx := hlc k (by simp; omega)
  have hg : (l ++ [x]).getD k 0 = x := by rw [hk]; simp [List.getD]
  rw [hg] at hx
  rw [← hk] at hi2 hn ⊢
  have HX := Lib.hid hx64
  have HI := Lib.hid hi2
  clear hi2 hlc hg hx64 hi hk
  go_enter Tryd.func22, Tryd.ntmps22
  go_wp2
  go_quiet ((go_at_call 14; refine Calls.quiet_of_same (same_flip (refOf_any _ _ _ l _ (HI.out.drewN _) HX.out (by unfold maxLen; omega)))))
  go_wp2
  go_ret
  exact ⟨rfl, _, rfl⟩
theorem right_any (a : Option Addr) (n c : Nat) (xs : List Int) (w : World) (ht : Turns w) (hi : IntsAt w a n xs) (hn : n ≤ c) (hc : c ≤ maxLen) :
    Calls Tryd.prog 21 #[.slice a n c] w fun e w' => e = .returned (.bool (rightB xs)) ∧ ∃ m, w' = w.drewN m := by
  rcases List.eq_nil_or_concat xs with rfl | ⟨l, x, rfl⟩
  · obtain rfl : n = 0 := hi.1
    exact right_nil a c w
  · rw [List.concat_eq_append] at hi ⊢
    obtain rfl : n = l.length + 1 := by have := hi.1; simpa using this
    exact right_some a c l x w ht hi hn hc
theorem refRight_any (a : Option Addr) (n c : Nat) (xs : List Int) (w : World) (hi : IntsAt w a n xs) (hx64 : ∀ x ∈ xs, I64 x) (hn : n ≤ c) (hc : c ≤ maxLen) :
    Calls Tryd.prog 22 #[.slice a n c] w fun e w' => e = .returned (.bool (rightB xs)) ∧ ∃ m, w' = w.drewN m := by
  rcases List.eq_nil_or_concat xs with rfl | ⟨l, x, rfl⟩
  · obtain rfl : n = 0 := hi.1
    exact refRight_nil a c w
  · rw [List.concat_eq_append] at hi hx64 ⊢
    obtain rfl : n = l.length + 1 := by have := hi.1; simpa using this
    exact refRight_some a c l x w hi (fun y hy => hx64 y (by simp [hy])) hn hc

theorem wk_a : crcI 65535 [12594, 13108, 13622, 14136] = 41259 := by decide +kernel
theorem wk_b : crcI 65535 [] = 65535 := by decide +kernel
theorem wk_c : rightB [7, crcI 65535 [7]] = true := by decide +kernel
theorem of_new (w : World) (b : Nat) (hb : b = w.heap.size) (ht : Turns w) (l : List Int) (x : Array Value) (hx : x = ints l) (n : Nat) (hn : n = l.length) (h2 : n ≤ 1000) (v : Int) (hv : v = crcI 65535 l) :
    Calls Tryd.prog 13 #[.slice (some ⟨b, 0, none⟩) n n] (w.alloc (.cells x 3)) fun e w' => e = .returned (.int .i64 v) ∧ w.alloc (.cells x 3) = w' := by
  subst hn; subst hv; subst hb
  exact of_any _ _ _ l _ (ht.keep ((Keeps.refl _ _).alloc _)) (ints_new w l x hx 3) (by unfold maxLen; omega)
theorem right_new (w : World) (b : Nat) (hb : b = w.heap.size) (ht : Turns w) (l : List Int) (x : Array Value) (hx : x = ints l) (n : Nat) (hn : n = l.length) (h2 : n ≤ 1000) (v : Bool) (hv : v = rightB l) :
    Calls Tryd.prog 21 #[.slice (some ⟨b, 0, none⟩) n n] (w.alloc (.cells x 3)) fun e w' => e = .returned (.bool v) ∧ ∃ m, w' = (w.alloc (.cells x 3)).drewN m := by
  subst hn; subst hv; subst hb
  exact right_any _ _ _ l _ (ht.keep ((Keeps.refl _ _).alloc _)) (ints_new w l x hx 3) (Nat.le_refl _) (by unfold maxLen; omega)
set_option maxRecDepth 100000 in
set_option maxHeartbeats 1000000 in
theorem works_any (w : World) (ht : Turns w) : Calls Tryd.prog 16 #[] w fun e w' => e = .returned (.bool true) ∧ Keeps [] w w' := by
  have HT := Lib.hid ht
  clear ht
  go_enter Tryd.func16, Tryd.ntmps16
  go_wp2_with fail
  refine (of_new _ _ rfl HT.out [12594, 13108, 13622, 14136] _ rfl 4 rfl (by omega) 41259 (by rw [wk_a]; rfl)).mono ?_
  rintro e w' ⟨rfl, rfl⟩
  go_wp2_with fail
  refine (of_any _ _ _ [] _ (HT.out.keep ((Keeps.refl _ _).alloc _)) (IntsAt.nil _) (by unfold maxLen; omega)).mono ?_
  rintro e w' ⟨he, rfl⟩
  rw [wk_b] at he
  subst he
  go_wp2_with fail
  refine (of_new _ _ (by simp) (HT.out.keep ((Keeps.refl _ _).alloc _)) [7] _ rfl 1 rfl (by omega) _ rfl).mono ?_
  rintro e w' ⟨rfl, rfl⟩
  go_wp2_with fail
  refine (right_new _ _ (by simp) ((HT.out.keep ((Keeps.refl _ _).alloc _)).keep ((Keeps.refl _ _).alloc _)) [7, crcI 65535 [7]] _ rfl 2 rfl (by omega) true (by rw [wk_c])).mono ?_
  rintro e w' ⟨rfl, m, rfl⟩
  go_wp2_with fail
  refine (right_nil _ _ _).mono ?_
  rintro e w' ⟨rfl, m', rfl⟩
  go_wp2_with fail
  go_ret
  exact ⟨rfl, ((((Keeps.refl _ _).alloc _).alloc _).alloc _).drewN _⟩
end Go.Proofs.YtogbkbcjanjbfaaDoor
