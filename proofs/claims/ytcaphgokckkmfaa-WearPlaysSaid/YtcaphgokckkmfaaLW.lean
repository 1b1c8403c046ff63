
/- A flash that this call made, and boxes that it does not hold: where they lie, and each call in terms of them. -/
import Derived.Test.YtcaphgokckkmfaaLO
import Derived.Test.YtcaphgokckkmfaaLU
namespace Go.Proofs.Ytcaphgokckkmfaa
open Go.RowKit
set_option maxRecDepth 100000
set_option linter.unusedVariables false
set_option linter.unusedSimpArgs false
variable {w w' : World} {c : Nat} {xs ys : List Int} {F : List Nat}

theorem FS.Good.fresh {g p n : Int} (h : frightB g p n = true) : (FS.fresh g p n).Good 0 := by
  simp only [frightB, Bool.and_eq_true, fwithinB_iff] at h
  obtain ⟨⟨⟨g1, g2⟩, p1, p2⟩, n1, n2⟩ := h
  have q0 : 0 ≤ g * p := Int.mul_nonneg (by omega) (by omega)
  have q1 : g * p ≤ 8 * 8 := Int.le_trans (Int.mul_le_mul_of_nonneg_right g2 (by omega)) (Int.mul_le_mul_of_nonneg_left p2 (by omega))
  have q2 : 0 ≤ g * p * n := Int.mul_nonneg q0 (by omega)
  have q3 : g * p * n ≤ 64 * 1024 := Int.le_trans (Int.mul_le_mul_of_nonneg_right (show g * p ≤ 64 by omega) (by omega)) (Int.mul_le_mul_of_nonneg_left n2 (by omega))
  refine ⟨⟨by simp only [FS.fresh]; omega, by simp only [FS.fresh]; omega⟩, by simp only [FS.fresh, List.length_replicate]; omega, by simp only [FS.fresh, List.length_replicate]; omega, ?_, by simp only [FS.fresh]; omega, ?_, by simp [FS.fresh]⟩
  · simp only [FS.fresh, List.length_replicate]
    rw [Int.toNat_of_nonneg q2, Int.toNat_of_nonneg q0]
  · intro i
    simp only [FS.fresh, List.getD, List.getElem?_replicate]
    split <;> simp

/-- A slice of one int, just made. -/
theorem ints_one (w : World) (x : Int) : IntsAt (w.alloc (.cells #[.int .i64 x] 3)) (some ⟨w.heap.size, 0, none⟩) 1 [x] := by
  refine ⟨rfl, (by simp), ?_⟩
  rintro b o s' e
  injection e with e
  injection e with e1 e2 e3
  subst e1; subst e2; subst e3
  refine fun _ => ⟨rfl, fun i hi => ?_⟩
  have : i = 0 := by simp at hi; omega
  subst this
  exact World.cell?_alloc_new w _ 3 0

theorem one_sep {b bw be : Nat} {dv : Value} {s : FS} (hF : Fl w b bw be dv s) : ∀ b' o s', (some ⟨w.heap.size, 0, none⟩ : Option Addr) = some ⟨b', o, s'⟩ → b' ∉ foot b bw be dv := by
  rintro b' o s' e
  injection e with e
  injection e with e1 e2 e3
  subst e1
  intro hx
  have := hF.lt _ hx
  omega

theorem program_one {b bw be : Nat} {dv : Value} {s : FS} {N : Nat} (hF : Fl w b bw be dv s) (hg : s.Good N) (at_ x : Int) (hN : N + 1 ≤ 1000000000) :
    Calls Try.prog 13 #[.pointer (some ⟨b, 0, none⟩), .int .i64 at_, .slice (some ⟨w.heap.size, 0, none⟩) 1 1] (w.alloc (.cells #[.int .i64 x] 3)) fun e w' => e = .returned (.int .i64 (s.prog at_ [x]).1) ∧
      ∃ dv', Fl w' b bw be dv' (s.prog at_ [x]).2 ∧ Keeps (foot b bw be dv) w w' ∧ ∀ j, dv'.ownBlock = some j → dv.ownBlock = some j ∨ w.heap.size ≤ j := by
  refine (program_yes (hF.alloc _) hg at_ _ 1 1 [x] (ints_one w x) (by omega) (one_sep hF) hN).mono ?_
  rintro e w' ⟨he, dv', q1, q2, q3⟩
  refine ⟨he, dv', q1, (Keeps.mono (F := []) ((Keeps.refl _ _).alloc _) (by simp)).trans q2 (fun x hx => .inl hx), fun j e => (q3 j e).imp id (fun h => ?_)⟩
  simp at h; omega

/-- A flash that was made behind w0, in state s; boxes that it does not hold. -/
def Ob (w0 w : World) (b : Nat) (s : FS) (L : List (Nat × Obj)) : Prop :=
  ∃ bw be dv, Fl w b bw be dv s ∧ (∀ k ∈ foot b bw be dv, w0.heap.size ≤ k) ∧ Keeps [] w0 w ∧ ∀ p ∈ L, w.heap[p.1]? = some p.2 ∧ p.1 ∉ foot b bw be dv

variable {w0 : World} {b bw be : Nat} {dv : Value} {s : FS} {N : Nat} {L : List (Nat × Obj)}

theorem Ob.step {dv' : Value} {s' : FS} (hf : ∀ k ∈ foot b bw be dv, w0.heap.size ≤ k) (h0 : Keeps [] w0 w) (hL : ∀ p ∈ L, w.heap[p.1]? = some p.2 ∧ p.1 ∉ foot b bw be dv) (hF : Fl w' b bw be dv' s') (hk : Keeps (foot b bw be dv) w w')
    (hn : ∀ j, dv'.ownBlock = some j → dv.ownBlock = some j ∨ w.heap.size ≤ j) : Ob w0 w' b s' L := by
  have hs := h0.size
  refine ⟨bw, be, dv', hF, ?_, h0.trans hk (fun x hx => .inr (hf x hx)), ?_⟩
  · intro k hk
    rw [mem_foot] at hk
    rcases hk with rfl | rfl | rfl | hk
    · exact hf _ (by simp [foot])
    · exact hf _ (by simp [foot])
    · exact hf _ (by simp [foot])
    · rcases hn k hk with h1 | h1
      · exact hf _ (by rw [mem_foot]; exact .inr (.inr (.inr h1)))
      · omega
  · intro p hp
    obtain ⟨h1, h2⟩ := hL p hp
    refine ⟨hk.held h1 h2, fun hx => ?_⟩
    have hl := lt_of_block h1
    rw [mem_foot] at hx h2
    rcases hx with hx | hx | hx | hx
    · exact h2 (.inl hx)
    · exact h2 (.inr (.inl hx))
    · exact h2 (.inr (.inr (.inl hx)))
    · rcases hn _ hx with h3 | h3
      · exact h2 (.inr (.inr (.inr h3)))
      · omega
theorem Ob.of_made (h0 : Keeps [] w0 w) (h : MadeFl w w' s b) : Ob w0 w' b s [] := by
  obtain ⟨bw, be, hf, h1, h2, h3, hk⟩ := h
  have hs := h0.size
  refine ⟨bw, be, _, hf, ?_, h0.trans0 hk, by simp⟩
  intro k hk
  rw [mem_foot] at hk
  rcases hk with rfl | rfl | rfl | hk
  · omega
  · omega
  · omega
  · simp [Value.ownBlock] at hk
theorem Ob.keep (h : Ob w0 w b s L) (hk : Keeps [] w w') : Ob w0 w' b s L := by
  obtain ⟨bw, be, dv, hf, h1, h2, h3⟩ := h
  exact ⟨bw, be, dv, hf.keep hk (by simp), h1, h2.trans0 hk, fun p hp => ⟨hk.held (h3 p hp).1 (by simp), (h3 p hp).2⟩⟩
theorem Ob.k0 (h : Ob w0 w b s L) : Keeps [] w0 w := by
  obtain ⟨bw, be, dv, hf, h1, h2, h3⟩ := h; exact h2
theorem Ob.box (h : Ob w0 w b s L) {o : Nat} {ob : Obj} (hp : (o, ob) ∈ L) : w.heap[o]? = some ob := by
  obtain ⟨bw, be, dv, hf, h1, h2, h3⟩ := h; exact (h3 _ hp).1
theorem Ob.sub (h : Ob w0 w b s L) {M : List (Nat × Obj)} (hs : ∀ p ∈ M, p ∈ L) : Ob w0 w b s M := by
  obtain ⟨bw, be, dv, hf, h1, h2, h3⟩ := h; exact ⟨bw, be, dv, hf, h1, h2, fun p hp => h3 p (hs p hp)⟩
theorem Ob.add (h : Ob w0 w b s L) (hk : Keeps [] w w') {o : Nat} {ob : Obj} (ho : w.heap.size ≤ o) (hb : w'.heap[o]? = some ob) : Ob w0 w' b s ((o, ob) :: L) := by
  have h' := h.keep hk
  obtain ⟨bw, be, dv, hf, h1, h2, h3⟩ := h
  refine ⟨bw, be, dv, hf.keep hk (by simp), h1, h2.trans0 hk, fun p hp => ?_⟩
  rcases List.mem_cons.1 hp with rfl | hp
  · exact ⟨hb, fun hx => by have := hf.lt _ hx; simp only at this; omega⟩
  · exact ⟨hk.held (h3 p hp).1 (by simp), (h3 p hp).2⟩
/-- What lay there ahead of the call is as it was. -/
theorem Ob.old (h : Ob w0 w b s L) {a : Option Addr} {n : Nat} (hi : IntsAt w0 a n xs) : IntsAt w a n xs := hi.keep0 h.k0

theorem ob_prog (h : Ob w0 w b s L) (hg : s.Good N) (at_ x : Int) (hN : N + 1 ≤ 1000000000) :
    Calls Try.prog 13 #[.pointer (some ⟨b, 0, none⟩), .int .i64 at_, .slice (some ⟨w.heap.size, 0, none⟩) 1 1] (w.alloc (.cells #[.int .i64 x] 3)) fun e w' => e = .returned (.int .i64 (s.prog at_ [x]).1) ∧ Ob w0 w' b (s.prog at_ [x]).2 L := by
  obtain ⟨bw, be, dv, hf, h1, h2, h3⟩ := h
  refine (program_one hf hg at_ x hN).mono ?_
  rintro e w' ⟨he, dv', q1, q2, q3⟩
  exact ⟨he, Ob.step h1 h2 h3 q1 q2 q3⟩
theorem ob_cut (h : Ob w0 w b s L) (n : Int) :
    Calls Try.prog 19 #[.pointer (some ⟨b, 0, none⟩), .int .i64 n] w fun e w' => e = .returned (.int .i64 0) ∧ Ob w0 w' b { s with cut := n } L := by
  obtain ⟨bw, be, dv, hf, h1, h2, h3⟩ := h
  refine (cut_yes hf n).mono ?_
  rintro e w' ⟨he, q1, q2⟩
  exact ⟨he, Ob.step h1 h2 h3 q1 q2 (fun j e => .inl e)⟩
theorem ob_power (h : Ob w0 w b s L) :
    Calls Try.prog 20 #[.pointer (some ⟨b, 0, none⟩)] w fun e w' => e = .returned (.int .i64 0) ∧ Ob w0 w' b { s with cut := -1, off := false } L := by
  obtain ⟨bw, be, dv, hf, h1, h2, h3⟩ := h
  refine (power_yes hf).mono ?_
  rintro e w' ⟨he, q1, q2⟩
  exact ⟨he, Ob.step h1 h2 h3 q1 q2 (fun j e => .inl e)⟩
theorem ob_writes (h : Ob w0 w b s L) : Calls Try.prog 36 #[.pointer (some ⟨b, 0, none⟩)] w fun e w' => e = .returned (.int .i64 s.done.length) ∧ w = w' := by
  obtain ⟨bw, be, dv, hf, h1, h2, h3⟩ := h
  exact writes_yes hf
theorem ob_image (h : Ob w0 w b s L) (hl : s.w.length ≤ 1000000) :
    Calls Try.prog 27 #[.pointer (some ⟨b, 0, none⟩)] w fun e w' => ∃ v, e = .returned v ∧ ∃ g c', v = .slice (some ⟨g, 0, none⟩) s.w.length c' ∧ w.heap.size ≤ g ∧ Arr w' g c' s.w ∧ Keeps [] w w' := by
  obtain ⟨bw, be, dv, hf, h1, h2, h3⟩ := h
  exact image_yes hf hl

end Go.Proofs.Ytcaphgokckkmfaa
