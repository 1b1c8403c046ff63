/- The statements' first part: the chapter's example works. -/
import Derived.Test.YtjebflafbkmokaaO
namespace Go.Proofs.Ytjebflafbkmokaa
open Go.RowKit
set_option linter.unusedVariables false
variable {w w' : World} {c : Nat} {xs ys : List Int} {F : List Nat}

theorem FS.Good.fresh {g p n : Int} (h : rightB g p n = true) : (FS.fresh g p n).Good 0 := by
  simp only [rightB, Bool.and_eq_true, withinB_iff] at h
  obtain ⟨⟨⟨g1, g2⟩, p1, p2⟩, n1, n2⟩ := h
  have q0 : 0 ≤ g * p := Int.mul_nonneg (by omega) (by omega)
  have q1 : g * p ≤ 8 * 8 := Int.le_trans (Int.mul_le_mul_of_nonneg_right g2 (by omega)) (Int.mul_le_mul_of_nonneg_left p2 (by omega))
  have q2 : 0 ≤ g * p * n := Int.mul_nonneg q0 (by omega)
  have q3 : g * p * n ≤ 64 * 1024 := Int.le_trans (Int.mul_le_mul_of_nonneg_right (show g * p ≤ 64 by omega) (by omega)) (Int.mul_le_mul_of_nonneg_left n2 (by omega))
  refine ⟨⟨by simp only [FS.fresh]; omega, by simp only [FS.fresh]; omega⟩, by simp only [FS.fresh, List.length_replicate]; omega, by simp only [FS.fresh, List.length_replicate]; omega, ?_, by simp only [FS.fresh]; omega, ?_, by simp [FS.fresh]⟩
  · simp only [FS.fresh, List.length_replicate]
    rw [Int.toNat_of_nonneg q2, Int.toNat_of_nonneg q0]
  · intro i
    simp only [FS.fresh, List.getD, List.getElem?_replicate]
    split <;> simp

/-- A slice of one int, just made. -/
theorem ints_one (w : World) (x : Int) : IntsAt (w.alloc (.cells #[.int .i64 x] 3)) (some ⟨w.heap.size, 0, none⟩) 1 [x] := by
  refine ⟨rfl, (by simp), ?_⟩
  rintro b o s' e
  injection e with e
  injection e with e1 e2 e3
  subst e1; subst e2; subst e3
  refine fun _ => ⟨rfl, fun i hi => ?_⟩
  have : i = 0 := by simp at hi; omega
  subst this
  exact World.cell?_alloc_new w _ 3 0

theorem one_sep {b bw be : Nat} {dv : Value} {s : FS} (hF : Fl w b bw be dv s) : ∀ b' o s', (some ⟨w.heap.size, 0, none⟩ : Option Addr) = some ⟨b', o, s'⟩ → b' ∉ foot b bw be dv := by
  rintro b' o s' e
  injection e with e
  injection e with e1 e2 e3
  subst e1
  intro hx
  have := hF.lt _ hx
  omega

def wk0 : FS := FS.fresh 1 2 16
def wk1 : FS := (wk0.prog 0 [65280]).2
def wk2 : FS := (wk1.prog 0 [4080]).2
def wk3 : FS := (wk2.eraseP 0).2
theorem wk_a : (wk0.prog 0 [65280]).1 = 0 := by decide +kernel
theorem wk_b : (wk1.prog 0 [4080]).1 = 0 := by decide +kernel
theorem wk_c : wk2.w.getD 0 0 = 3840 := by decide +kernel
theorem wk_d : (wk2.eraseP 0).1 = 0 := by decide +kernel
theorem wk_e : wk3.w.getD 0 0 = 65535 ∧ wk3.done.length = 18 ∧ wk3.er.getD 0 0 = 1 ∧ wk3.w.length = 32 ∧ wk3.er.length = 2 ∧ wk3.off = false ∧ wk3.n = 16 := by decide +kernel
theorem wk_f : wk2.w.length = 32 ∧ wk2.off = false ∧ wk2.n = 16 ∧ wk1.n = 16 := by decide +kernel
theorem wk0_good : wk0.Good 0 := FS.Good.fresh (by decide +kernel)
theorem wk1_good : wk1.Good 1 := wk0_good.prog 0 [65280]
theorem wk2_good : wk2.Good 2 := wk1_good.prog 0 [4080]
theorem wk3_good : wk3.Good 18 := wk2_good.eraseP 0

theorem program_one {b bw be : Nat} {dv : Value} {s : FS} {N : Nat} (hF : Fl w b bw be dv s) (hg : s.Good N) (at_ x : Int) (hN : N + 1 ≤ 1000000000) :
    Calls Try.prog 17 #[.pointer (some ⟨b, 0, none⟩), .int .i64 at_, .slice (some ⟨w.heap.size, 0, none⟩) 1 1] (w.alloc (.cells #[.int .i64 x] 3)) fun e w' => e = .returned (.int .i64 (s.prog at_ [x]).1) ∧
      ∃ dv', Fl w' b bw be dv' (s.prog at_ [x]).2 ∧ Keeps (foot b bw be dv) w w' ∧ ∀ j, dv'.ownBlock = some j → dv.ownBlock = some j ∨ w.heap.size ≤ j := by
  refine (program_yes (hF.alloc _) hg at_ _ 1 1 [x] (ints_one w x) (by omega) (one_sep hF) hN).mono ?_
  rintro e w' ⟨he, dv', q1, q2, q3⟩
  refine ⟨he, dv', q1, (Keeps.mono (F := []) ((Keeps.refl _ _).alloc _) (by simp)).trans q2 (fun x hx => .inl hx), fun j e => (q3 j e).imp id (fun h => ?_)⟩
  simp at h; omega

/-- A flash that this call made: where it lies, and that all that was there ahead of the call is as it was. -/
def Own (w0 w : World) (b : Nat) (s : FS) : Prop := ∃ bw be dv, Fl w b bw be dv s ∧ (∀ k ∈ foot b bw be dv, w0.heap.size ≤ k) ∧ Keeps [] w0 w

theorem Own.step {w0 w w' : World} {b bw be : Nat} {dv dv' : Value} {s' : FS} (hf : ∀ k ∈ foot b bw be dv, w0.heap.size ≤ k) (h0 : Keeps [] w0 w) (hF : Fl w' b bw be dv' s') (hk : Keeps (foot b bw be dv) w w')
    (hn : ∀ j, dv'.ownBlock = some j → dv.ownBlock = some j ∨ w.heap.size ≤ j) : Own w0 w' b s' := by
  have hs := h0.size
  refine ⟨bw, be, dv', hF, ?_, h0.trans hk (fun x hx => .inr (hf x hx))⟩
  intro k hk
  rw [mem_foot] at hk
  rcases hk with rfl | rfl | rfl | hk
  · exact hf _ (by simp [foot])
  · exact hf _ (by simp [foot])
  · exact hf _ (by simp [foot])
  · rcases hn k hk with h1 | h1
    · exact hf _ (by rw [mem_foot]; exact .inr (.inr (.inr h1)))
    · omega
theorem Own.of_made {w0 w w' : World} {b : Nat} {s : FS} (h0 : Keeps [] w0 w) (h : MadeFl w w' s b) : Own w0 w' b s := by
  obtain ⟨bw, be, hf, h1, h2, h3, hk⟩ := h
  have hs := h0.size
  refine ⟨bw, be, _, hf, ?_, h0.trans0 hk⟩
  intro k hk
  rw [mem_foot] at hk
  rcases hk with rfl | rfl | rfl | hk
  · omega
  · omega
  · omega
  · simp [Value.ownBlock] at hk
theorem Own.keep {w0 w w' : World} {b : Nat} {s : FS} (h : Own w0 w b s) (hk : Keeps [] w w') : Own w0 w' b s := by
  obtain ⟨bw, be, dv, hf, h1, h2⟩ := h
  exact ⟨bw, be, dv, hf.keep hk (by simp), h1, h2.trans0 hk⟩

theorem own_prog {w0 w : World} {b : Nat} {s : FS} {N : Nat} (h : Own w0 w b s) (hg : s.Good N) (at_ x : Int) (hN : N + 1 ≤ 1000000000) :
    Calls Try.prog 17 #[.pointer (some ⟨b, 0, none⟩), .int .i64 at_, .slice (some ⟨w.heap.size, 0, none⟩) 1 1] (w.alloc (.cells #[.int .i64 x] 3)) fun e w' => e = .returned (.int .i64 (s.prog at_ [x]).1) ∧ Own w0 w' b (s.prog at_ [x]).2 := by
  obtain ⟨bw, be, dv, hf, h1, h2⟩ := h
  refine (program_one hf hg at_ x hN).mono ?_
  rintro e w' ⟨he, dv', q1, q2, q3⟩
  exact ⟨he, Own.step h1 h2 q1 q2 q3⟩
theorem own_erase {w0 w : World} {b : Nat} {s : FS} {N : Nat} (h : Own w0 w b s) (hg : s.Good N) (page : Int) (hN : N + s.n.toNat ≤ 1000000000) :
    Calls Try.prog 20 #[.pointer (some ⟨b, 0, none⟩), .int .i64 page] w fun e w' => e = .returned (.int .i64 (s.eraseP page).1) ∧ Own w0 w' b (s.eraseP page).2 := by
  obtain ⟨bw, be, dv, hf, h1, h2⟩ := h
  refine (erase_yes hf hg page hN).mono ?_
  rintro e w' ⟨he, dv', q1, q2, q3⟩
  exact ⟨he, Own.step h1 h2 q1 q2 q3⟩
theorem own_read {w0 w : World} {b : Nat} {s : FS} (h : Own w0 w b s) (n : Nat) (hl : s.w.length ≤ 1000000) (hn : n < s.w.length) (ho : s.off = false) :
    Calls Try.prog 22 #[.pointer (some ⟨b, 0, none⟩), .int .i64 n] w fun e w' => e = .returned (.tuple #[.int .i64 (s.w.getD n 0), .int .i64 0]) ∧ w = w' := by
  obtain ⟨bw, be, dv, hf, h1, h2⟩ := h
  exact read_in hf n hl hn ho
theorem own_writes {w0 w : World} {b : Nat} {s : FS} (h : Own w0 w b s) : Calls Try.prog 28 #[.pointer (some ⟨b, 0, none⟩)] w fun e w' => e = .returned (.int .i64 s.done.length) ∧ w = w' := by
  obtain ⟨bw, be, dv, hf, h1, h2⟩ := h
  exact writes_yes hf
theorem own_size {w0 w : World} {b : Nat} {s : FS} (h : Own w0 w b s) : Calls Try.prog 13 #[.pointer (some ⟨b, 0, none⟩)] w fun e w' => e = .returned (.int .i64 s.w.length) ∧ w = w' := by
  obtain ⟨bw, be, dv, hf, h1, h2⟩ := h
  exact size_yes hf
theorem own_erases {w0 w : World} {b : Nat} {s : FS} (h : Own w0 w b s) (n : Nat) (hl : s.er.length ≤ 1000000) (hn : n < s.er.length) : Calls Try.prog 30 #[.pointer (some ⟨b, 0, none⟩), .int .i64 n] w fun e w' => e = .returned (.int .i64 (s.er.getD n 0)) ∧ w = w' := by
  obtain ⟨bw, be, dv, hf, h1, h2⟩ := h
  exact erases_in hf n hl hn

set_option maxHeartbeats 1000000 in
theorem works_any (w : World) : Calls Try.prog 14 #[] w fun e w' => e = .returned (.bool true) ∧ Keeps [] w w' := by
  go_enter Try.func14, Try.ntmps14
  go_wp2_with fail
  refine (make_yes 1 2 16 _ (by decide +kernel)).mono ?_
  rintro e w1 ⟨b, rfl, hm⟩
  have o0 : Own w w1 b wk0 := Own.of_made (Keeps.refl _ _) hm
  go_wp2_with fail
  refine (own_prog o0 wk0_good 0 65280 (by omega)).mono ?_
  rintro e w2 ⟨he, o1⟩
  rw [wk_a] at he
  subst he
  go_wp2_with fail
  refine (own_prog (s := wk1) o1 wk1_good 0 4080 (by omega)).mono ?_
  rintro e w3 ⟨he, o2⟩
  rw [wk_b] at he
  subst he
  go_wp2_with fail
  refine (own_read (s := wk2) o2 0 (by rw [wk_f.1]; omega) (by rw [wk_f.1]; omega) wk_f.2.1).mono ?_
  rintro e w4 ⟨he, rfl⟩
  rw [wk_c] at he
  subst he
  go_wp2_with fail
  refine (own_erase (s := wk2) o2 wk2_good 0 (by rw [wk_f.2.2.1]; decide)).mono ?_
  rintro e w4 ⟨he, o3⟩
  rw [wk_d] at he
  subst he
  go_wp2_with fail
  refine (own_read (s := wk3) o3 0 (by rw [wk_e.2.2.2.1]; omega) (by rw [wk_e.2.2.2.1]; omega) wk_e.2.2.2.2.2.1).mono ?_
  rintro e w5 ⟨he, rfl⟩
  rw [wk_e.1] at he
  subst he
  go_wp2_with fail
  refine (own_writes (s := wk3) o3).mono ?_
  rintro e w5 ⟨he, rfl⟩
  rw [wk_e.2.1] at he
  subst he
  go_wp2_with fail
  refine (own_erases (s := wk3) o3 0 (by rw [wk_e.2.2.2.2.1]; omega) (by rw [wk_e.2.2.2.2.1]; omega)).mono ?_
  rintro e w5 ⟨he, rfl⟩
  rw [wk_e.2.2.1] at he
  subst he
  go_wp2_with fail
  refine (own_size (s := wk3) o3).mono ?_
  rintro e w5 ⟨he, rfl⟩
  rw [wk_e.2.2.2.1] at he
  subst he
  go_wp2_with fail
  go_ret
  obtain ⟨_, _, _, _, _, hk⟩ := o3
  exact ⟨rfl, hk⟩

end Go.Proofs.Ytjebflafbkmokaa
