
/- Erase and Load of a flash that Make made: their contracts. -/
import Derived.Test.YtcaphgokckkmfaaLL
namespace Go.Proofs.Ytcaphgokckkmfaa
open Go.RowKit
set_option maxRecDepth 100000
set_option linter.unusedVariables false
variable {w w' : World} {g c : Nat} {xs ys : List Int} {F : List Nat}

theorem erasesOf_length (f : Int) (n : Nat) : (erasesOf f n).length = n := by simp [erasesOf]
theorem erasesOf_get (f : Int) (n i : Nat) (h : i < n) : (erasesOf f n)[i]? = some (true, f + (i : Int), (65535 : Int)) := by simp [erasesOf, h]

theorem run46_boxed {b bw be : Nat} {dv : Value} {s : FS} {N : Nat} (hF : Fl w b bw be dv s) (hg : s.Good N) (ho : s.off = false) (page : Int) (n : Nat) (hn : (n : Int) = s.n)
    (hp : fwithinB 0 ((s.er.length : Int) - 1) page = true) (hN : N + n ≤ 1000000000) :
    Calls Try.prog 43 #[.pointer (some ⟨b, 0, none⟩), .int .i64 n, .func (.func 70) #[] #[.pointer (some ⟨w.heap.size, 0, none⟩)]]
      (w.alloc (.cells #[.int .i64 (page * s.n)] 3)) fun e w' =>
      e = .returned (.int .i64 (codeOf (FS.runL s (erasesOf (page * s.n) n)).2)) ∧ ∃ dv', Fl w' b bw be dv' (FS.runL s (erasesOf (page * s.n) n)).1 ∧ Keeps (foot b bw be dv) w w' ∧ ∀ j, dv'.ownBlock = some j → dv.ownBlock = some j ∨ w.heap.size ≤ j := by
  have hF2 := hF.alloc (.cells #[.int .i64 (page * s.n)] 3)
  have hk2 : Keeps [] w (w.alloc (.cells #[.int .i64 (page * s.n)] 3)) := (Keeps.refl _ _).alloc _
  obtain ⟨hp1, hp2⟩ := fwithinB_iff.1 hp
  have hwe := hg.hwe
  have hwl := hg.hwl
  have hn1 := hg.hn
  have hm0 : 0 ≤ page * s.n := Int.mul_nonneg hp1 (by omega)
  have hm1 : (page + 1) * s.n ≤ s.er.length * s.n := Int.mul_le_mul_of_nonneg_right (by omega) (by omega)
  rw [Int.add_mul] at hm1
  have hrun := run_46 w.heap.size b bw be dv s (erasesOf (page * s.n) n) N _ hF2 ho hg (by rw [erasesOf_length]; exact hN) ?_ ?_
  · rw [erasesOf_length] at hrun
    refine hrun.mono ?_
    rintro e w' ⟨he, dv', q1, q2, q3⟩
    refine ⟨he, dv', q1, (hk2.mono (by simp)).trans q2 (fun x hx => .inl hx), fun j e => (q3 j e).imp id (fun h => ?_)⟩
    simp at h; omega
  · intro r hr
    obtain ⟨i, hi⟩ := List.getElem?_of_mem hr
    have hil : i < n := by
      rcases Nat.lt_or_ge i n with h | h
      · exact h
      · rw [List.getElem?_eq_none (by rw [erasesOf_length]; exact h)] at hi; simp at hi
    rw [erasesOf_get _ _ _ hil] at hi
    simp at hi
    subst hi
    simp only
    omega
  · intro i r wx hi hold
    have hil : i < n := by
      rcases Nat.lt_or_ge i n with h | h
      · exact h
      · rw [List.getElem?_eq_none (by rw [erasesOf_length]; exact h)] at hi; simp at hi
    rw [erasesOf_get _ _ _ hil] at hi
    simp at hi
    subst hi
    have hlt := hF.lt
    have e1 := hold w.heap.size (by simp) (fun hx => by have := hlt _ hx; omega)
    have k1 : wx.cell? ⟨w.heap.size, 0, none⟩ = some (.int .i64 (page * s.n)) := by
      rw [World.cell?_of_block (a := ⟨w.heap.size, 0, none⟩) e1, World.cell?_alloc_new]; rfl
    exact erase1_any (page * s.n) i w.heap.size wx k1 hm0 (by omega) (by omega) (by omega)

set_option maxHeartbeats 1000000 in
theorem erase_yes {b bw be : Nat} {dv : Value} {s : FS} {N : Nat} (hF : Fl w b bw be dv s) (hg : s.Good N) (page : Int) (hN : N + s.n.toNat ≤ 1000000000) :
    Calls Try.prog 64 #[.pointer (some ⟨b, 0, none⟩), .int .i64 page] w fun e w' => e = .returned (.int .i64 (s.eraseP page).1) ∧
      ∃ dv', Fl w' b bw be dv' (s.eraseP page).2 ∧ Keeps (foot b bw be dv) w w' ∧ ∀ j, dv'.ownBlock = some j → dv.ownBlock = some j ∨ w.heap.size ≤ j := by
  have c7 := hF.c7
  have c3 := hF.c3
  have lb := hF.lb
  have hel := hg.hel
  obtain ⟨n, hn⟩ : ∃ n : Nat, (n : Int) = s.n := ⟨s.n.toNat, by have := hg.hn.1; omega⟩
  have hnt : s.n.toNat = n := by omega
  have hn1 := hg.hn
  by_cases hh : fwithinB 0 ((s.er.length : Int) - 1) page = true
  · obtain ⟨hp1, hp2⟩ := fwithinB_iff.1 hh
    have hwe := hg.hwe
    have hwl := hg.hwl
    have hm0 : 0 ≤ page * s.n := Int.mul_nonneg hp1 (by omega)
    have hm1 : (page + 1) * s.n ≤ s.er.length * s.n := Int.mul_le_mul_of_nonneg_right (by omega) (by omega)
    rw [Int.add_mul] at hm1
    have hm2 : page * s.n ≤ 1000000 := by omega
    rw [← hn] at c3 hm0 hm2
    clear hm1 hwe
    by_cases ho : s.off = true
    · have hfin : s.eraseP page = (10, s) := by simp [FS.eraseP, hh, ho]
      have HF := Lib.hid hfin
      have HN := Lib.hid hn
      clear hfin hn hnt hn1
      go_enter Try.func64, Try.ntmps64
      go_wp2_with (first
        | (go_at_call 40; refine (made_fl hF).mono ?_; rintro e w' ⟨rfl, rfl⟩)
        | (go_at_call 69; refine (fhas_any b 0 _ _ _ page _ (by unfold maxLen; omega) c7).mono ?_; rintro e w' ⟨rfl, rfl⟩)
        | (go_at_call 43; refine (run_off b bw be dv _ s _ _ (hF.alloc _) ho).mono ?_; rintro e w' ⟨rfl, rfl⟩))
      go_ret
      rw [HF.out]
      exact ⟨rfl, dv, hF.alloc _, ((Keeps.refl _ _).alloc _), fun j e => .inl e⟩
    · have ho2 : s.off = false := by simpa using ho
      have hfin : s.eraseP page = (codeOf (FS.runL s (erasesOf (page * s.n) n)).2, (FS.runL s (erasesOf (page * s.n) n)).1) := by simp [FS.eraseP, hh, ho2, hnt]
      have hrun := run46_boxed hF hg ho2 page n hn hh (by omega)
      have HF := Lib.hid hfin
      rw [← hn] at hrun
      have HR := Lib.hid hrun
      have HN := Lib.hid hn
      clear hfin ho ho2 hrun hn hnt hn1
      go_enter Try.func64, Try.ntmps64
      go_wp2_with (first
        | (go_at_call 40; refine (made_fl hF).mono ?_; rintro e w' ⟨rfl, rfl⟩)
        | (go_at_call 69; refine (fhas_any b 0 _ _ _ page _ (by unfold maxLen; omega) c7).mono ?_; rintro e w' ⟨rfl, rfl⟩)
        | (go_at_call 43; refine HR.out.mono ?_; rintro e w' ⟨rfl, hres⟩))
      go_ret
      rw [HF.out, ← HN.out]
      exact ⟨rfl, hres⟩
  · have hh2 : fwithinB 0 ((s.er.length : Int) - 1) page = false := by simpa using hh
    have hfin : s.eraseP page = (2, s) := by simp [FS.eraseP, hh2]
    have HF := Lib.hid hfin
    clear hfin hh hn hnt
    go_enter Try.func64, Try.ntmps64
    go_wp2_with (first
      | (go_at_call 40; refine (made_fl hF).mono ?_; rintro e w' ⟨rfl, rfl⟩)
      | (go_at_call 69; refine (fhas_any b 0 _ _ _ page _ (by unfold maxLen; omega) c7).mono ?_; rintro e w' ⟨rfl, rfl⟩))
    go_ret
    rw [HF.out]
    exact ⟨rfl, dv, hF, Keeps.refl _ _, fun j e => .inl e⟩

theorem size3 : (Try.prog.info? 3).map (·.size) = some 1 := by kernel_rfl

theorem Fl.setRow {b bw be : Nat} {dv : Value} {s : FS} (h : Fl w b bw be dv s) (xs : List Int) (hl : xs.length = s.w.length) : Fl (w.setRow bw (ints xs)) b bw be dv { s with w := xs } := by
  have hk : Keeps [bw] w (w.setRow bw (ints xs)) := ⟨rfl, rfl, by simp [World.setRow], fun k hk hn => setRow_other w bw k _ (by simpa using hn)⟩
  refine ⟨?_, setRow_heap w bw _ _ 3 _ h.hw, hk.held h.he (by simp; exact h.n3.symm), ownsRow_keep h.hd hk (fun k e => by simp; rintro rfl; exact h.dvb.2.1 e), h.n1, h.n2, h.n3, h.nd⟩
  have := hk.held h.hb (by simp; exact h.n1)
  simpa [flCells, hl] using this

theorem FS.Good.setW {s : FS} {N : Nat} (h : s.Good N) (xs : List Int) (hl : xs.length = s.w.length) : FS.Good { s with w := xs } N :=
  ⟨h.hn, by simpa [hl] using h.hwl, h.hel, by simpa [hl] using h.hwe, h.hcb, h.hev, h.hd⟩
theorem FS.Good.setCut {s : FS} {N : Nat} (h : s.Good N) (c : Int) (hc : -9223372036854775808 ≤ c ∧ c ≤ 9223372036854775807) : FS.Good { s with cut := c } N :=
  ⟨h.hn, h.hwl, h.hel, h.hwe, hc, h.hev, h.hd⟩
theorem FS.Good.setOff {s : FS} {N : Nat} (h : s.Good N) (o : Bool) : FS.Good { s with off := o } N :=
  ⟨h.hn, h.hwl, h.hel, h.hwe, h.hcb, h.hev, h.hd⟩
theorem FS.Good.mono {s : FS} {N M : Nat} (h : s.Good N) (hm : N ≤ M) : s.Good M :=
  ⟨h.hn, h.hwl, h.hel, h.hwe, h.hcb, fun i => ⟨(h.hev i).1, Int.le_trans (h.hev i).2 (by omega)⟩, Nat.le_trans h.hd hm⟩
theorem FS.Good.runL {l : List Raw3} : ∀ {s : FS} {N : Nat}, s.Good N → (FS.runL s l).1.Good (N + l.length) := by
  induction l with
  | nil => intro s N h; exact h
  | cons r l ih =>
    intro s N h
    by_cases hc : s.cut = 0
    · rw [runL_cut hc]; exact (h.setOff true).mono (by omega)
    · rw [runL_cons hc, List.length_cons, Nat.add_comm l.length 1, ← Nat.add_assoc]; exact ih (h.put r)
theorem FS.Good.prog {s : FS} {N : Nat} (h : s.Good N) (at_ : Int) (xs : List Int) : (s.prog at_ xs).2.Good (N + xs.length) := by
  unfold FS.prog
  split
  · split
    · exact h.mono (by omega)
    · have := h.runL (l := rawsOf at_ xs); rwa [rawsOf_length] at this
  · exact h.mono (by omega)
theorem FS.Good.eraseP {s : FS} {N : Nat} (h : s.Good N) (p : Int) : (s.eraseP p).2.Good (N + s.n.toNat) := by
  unfold FS.eraseP
  split
  · split
    · exact h.mono (by omega)
    · have := h.runL (l := erasesOf (p * s.n) s.n.toNat); rwa [erasesOf_length] at this
  · exact h.mono (by omega)

end Go.Proofs.Ytcaphgokckkmfaa
