
/- A flash and the document's own one side by side in memory, and boxes that neither holds: what each step leaves. -/
import Derived.Test.YtcaphgokckkmfaaMD
import Derived.Test.YtcaphgokckkmfaaMG
namespace Go.Proofs.Ytcaphgokckkmfaa
open Go.RowKit
set_option maxRecDepth 100000
set_option linter.unusedVariables false
set_option linter.unusedSimpArgs false
section

/-- A flash of which a cut below 0 is written -1. -/
def FS.nm (s : FS) : FS := { s with cut := if s.cut < -1 then -1 else s.cut }

theorem nm_put (s : FS) (r : Raw3) : s.nm.put r = (s.put r).nm := by
  by_cases h1 : s.cut < -1
  · have h2 : ¬ s.cut > 0 := by omega
    have h3 : ¬ ((-1 : Int) > 0) := by omega
    simp only [FS.nm, FS.put, if_pos h1, if_neg h2, if_neg h3]
  · by_cases h2 : s.cut > 0
    · have h3 : ¬ (s.cut - 1 < -1) := by omega
      simp only [FS.nm, FS.put, if_neg h1, if_pos h2, if_neg h3]
    · simp only [FS.nm, FS.put, if_neg h1, if_neg h2]
theorem nm_runL {l : List Raw3} : ∀ {s : FS}, FS.runL s.nm l = ((FS.runL s l).1.nm, (FS.runL s l).2) := by
  induction l with
  | nil => intro s; rfl
  | cons r l ih =>
    intro s
    by_cases hc : s.cut = 0
    · have hc2 : s.nm.cut = 0 := by simp [FS.nm, hc]
      rw [runL_cut hc, runL_cut hc2]
      simp [FS.nm]
    · have hc2 : s.nm.cut ≠ 0 := by simp only [FS.nm]; split <;> omega
      rw [runL_cons hc, runL_cons hc2, nm_put, ih]
theorem nm_w (s : FS) : s.nm.w = s.w := rfl
theorem nm_er (s : FS) : s.nm.er = s.er := rfl
theorem nm_off (s : FS) : s.nm.off = s.off := rfl
theorem nm_done (s : FS) : s.nm.done = s.done := rfl
theorem nm_prog (s : FS) (a : Int) (xs : List Int) : s.nm.prog a xs = ((s.prog a xs).1, (s.prog a xs).2.nm) := by
  unfold FS.prog
  rw [nm_w, nm_off, nm_runL]
  split
  · split <;> rfl
  · rfl
theorem nm_eraseP (s : FS) (p : Int) : s.nm.eraseP p = ((s.eraseP p).1, (s.eraseP p).2.nm) := by
  unfold FS.eraseP
  rw [nm_er, nm_off, show s.nm.n = s.n from rfl, nm_runL]
  split
  · split <;> rfl
  · rfl

theorem putR_plain {s : FS} {a v : Int} : s.putR (false, a, v) = s.put (false, a, v) := by simp [FS.putR, FS.put]
theorem runR_raws {xs : List Int} : ∀ {s : FS} {a : Int}, FS.runR s (rawsOf a xs) = FS.runL s (rawsOf a xs) := by
  induction xs with
  | nil => intro s a; rfl
  | cons x r ih =>
    intro s a
    simp only [rawsOf, FS.runR, FS.runL, putR_plain, ih]
theorem progR_eq (s : FS) (a : Int) (xs : List Int) : s.progR a xs = s.prog a xs := by
  unfold FS.progR FS.prog; rw [runR_raws]
end
section

/-- The flash (blocks xb, xw, xe, its list dx) in state s; the document's (rb, gw, re, its list lv) in state t; both made behind W, and apart. -/
structure Two (W wr : World) (xb xw xe : Nat) (dx : Value) (rb gw cw re : Nat) (lv : Value) (s t : FS) : Prop where
  fx : Fl wr xb xw xe dx s
  fr : Rf wr rb gw cw re lv t
  apart : ∀ k ∈ foot xb xw xe dx, k ∉ foot rb gw re lv
  upx : ∀ k ∈ foot xb xw xe dx, W.heap.size ≤ k
  upr : ∀ k ∈ foot rb gw re lv, W.heap.size ≤ k
  k0 : Keeps [] W wr

/-- A block that neither of the two holds. -/
structure Free (wr : World) (xb xw xe : Nat) (dx : Value) (rb gw re : Nat) (lv : Value) (o : Nat) : Prop where
  lt : o < wr.heap.size
  nx : o ∉ foot xb xw xe dx
  nr : o ∉ foot rb gw re lv

variable {W wr wx : World} {xb xw xe rb gw cw re gw2 cw2 : Nat} {dx dx2 lv lv2 : Value} {s t s2 t2 : FS}

theorem Two.step0 (h : Two W wr xb xw xe dx rb gw cw re lv s t) (hk : Keeps [] wr wx) : Two W wx xb xw xe dx rb gw cw re lv s t :=
  ⟨h.fx.keep hk (by simp), h.fr.keep0 hk, h.apart, h.upx, h.upr, h.k0.trans0 hk⟩

theorem Two.stepx (h : Two W wr xb xw xe dx rb gw cw re lv s t) (hf : Fl wx xb xw xe dx2 s2) (hk : Keeps (foot xb xw xe dx) wr wx) (hn : ∀ j, dx2.ownBlock = some j → dx.ownBlock = some j ∨ wr.heap.size ≤ j) :
    Two W wx xb xw xe dx2 rb gw cw re lv s2 t := by
  have hs := h.k0.size
  refine ⟨hf, h.fr.keep hk (fun k hk2 hx => h.apart k hx hk2), ?_, ?_, h.upr, h.k0.trans hk (fun x hx => .inr (h.upx x hx))⟩
  · intro k hk2 hr
    have h1 := h.apart k
    have h2 := h.fr.lt k hr
    rw [mem_foot] at hk2 h1
    rcases hk2 with hx | hx | hx | hx
    · exact h1 (.inl hx) hr
    · exact h1 (.inr (.inl hx)) hr
    · exact h1 (.inr (.inr (.inl hx))) hr
    · rcases hn k hx with h3 | h3
      · exact h1 (.inr (.inr (.inr h3))) hr
      · omega
  · intro k hk2
    have h1 := h.upx k
    rw [mem_foot] at hk2 h1
    rcases hk2 with hx | hx | hx | hx
    · exact h1 (.inl hx)
    · exact h1 (.inr (.inl hx))
    · exact h1 (.inr (.inr (.inl hx)))
    · rcases hn k hx with h3 | h3
      · exact h1 (.inr (.inr (.inr h3)))
      · omega

theorem Two.stepr (h : Two W wr xb xw xe dx rb gw cw re lv s t) (hf : Rf wx rb gw2 cw2 re lv2 t2) (hk : Keeps (foot rb gw re lv) wr wx) (hg : gw2 = gw ∨ wr.heap.size ≤ gw2) (hn : ∀ j, lv2.ownBlock = some j → lv.ownBlock = some j ∨ wr.heap.size ≤ j) :
    Two W wx xb xw xe dx rb gw2 cw2 re lv2 s t2 := by
  have hs := h.k0.size
  refine ⟨h.fx.keep hk (fun k hk2 hx => h.apart k hk2 hx), hf, ?_, h.upx, ?_, h.k0.trans hk (fun x hx => .inr (h.upr x hx))⟩
  · intro k hx hr
    have h1 := h.apart k hx
    have h2 := h.fx.lt k hx
    rw [mem_foot] at hr h1
    rcases hr with hr | hr | hr | hr
    · exact h1 (.inl hr)
    · rcases hg with h3 | h3
      · exact h1 (.inr (.inl (hr.trans h3)))
      · omega
    · exact h1 (.inr (.inr (.inl hr)))
    · rcases hn k hr with h3 | h3
      · exact h1 (.inr (.inr (.inr h3)))
      · omega
  · intro k hr
    have h1 := h.upr k
    rw [mem_foot] at hr h1
    rcases hr with hr | hr | hr | hr
    · exact h1 (.inl hr)
    · rcases hg with h3 | h3
      · exact h1 (.inr (.inl (hr.trans h3)))
      · omega
    · exact h1 (.inr (.inr (.inl hr)))
    · rcases hn k hr with h3 | h3
      · exact h1 (.inr (.inr (.inr h3)))
      · omega

theorem Free.step {F : List Nat} {o : Nat} (h : Free wr xb xw xe dx rb gw re lv o) (hk : Keeps F wr wx) (hd : ∀ j, dx2.ownBlock = some j → dx.ownBlock = some j ∨ wr.heap.size ≤ j) (hg : gw2 = gw ∨ wr.heap.size ≤ gw2)
    (hn : ∀ j, lv2.ownBlock = some j → lv.ownBlock = some j ∨ wr.heap.size ≤ j) : Free wx xb xw xe dx2 rb gw2 re lv2 o := by
  have hs := hk.size
  have hl := h.lt
  have h1 := h.nx
  have h2 := h.nr
  rw [mem_foot] at h1 h2
  refine ⟨by omega, ?_, ?_⟩
  · rw [mem_foot]
    rintro (hx | hx | hx | hx)
    · exact h1 (.inl hx)
    · exact h1 (.inr (.inl hx))
    · exact h1 (.inr (.inr (.inl hx)))
    · rcases hd o hx with h3 | h3
      · exact h1 (.inr (.inr (.inr h3)))
      · omega
  · rw [mem_foot]
    rintro (hr | hr | hr | hr)
    · exact h2 (.inl hr)
    · rcases hg with h3 | h3
      · exact h2 (.inr (.inl (hr.trans h3)))
      · omega
    · exact h2 (.inr (.inr (.inl hr)))
    · rcases hn o hr with h3 | h3
      · exact h2 (.inr (.inr (.inr h3)))
      · omega
/-- A block that was there ahead of both is free. -/
theorem Two.old (h : Two W wr xb xw xe dx rb gw cw re lv s t) {o : Nat} (ho : o < W.heap.size) : Free wr xb xw xe dx rb gw re lv o :=
  ⟨by have := h.k0.size; omega, fun hx => by have := h.upx o hx; omega, fun hx => by have := h.upr o hx; omega⟩
/-- A block that is made behind them is free. -/
theorem Two.fresh (h : Two W wr xb xw xe dx rb gw cw re lv s t) {o : Nat} (ho : wr.heap.size ≤ o) (hl : o < wx.heap.size) : Free wx xb xw xe dx rb gw re lv o :=
  ⟨hl, fun hx => by have := h.fx.lt o hx; omega, fun hx => by have := h.fr.lt o hx; omega⟩

end
section

/-- A block that neither flash holds, and what it holds. -/
structure Box (wr : World) (xb xw xe : Nat) (dx : Value) (rb gw re : Nat) (lv : Value) (o : Nat) (ob : Obj) : Prop where
  fr : Free wr xb xw xe dx rb gw re lv o
  bk : wr.heap[o]? = some ob

variable {W wr wx : World} {xb xw xe rb gw cw re gw2 cw2 o : Nat} {dx dx2 lv lv2 : Value} {s t s2 t2 : FS} {ob : Obj}

theorem Box.step0 (h : Box wr xb xw xe dx rb gw re lv o ob) (hk : Keeps [] wr wx) : Box wx xb xw xe dx rb gw re lv o ob :=
  ⟨h.fr.step hk (fun _ e => .inl e) (.inl rfl) (fun _ e => .inl e), hk.held h.bk (by simp)⟩
theorem Box.stepx (h : Box wr xb xw xe dx rb gw re lv o ob) (hk : Keeps (foot xb xw xe dx) wr wx) (hd : ∀ j, dx2.ownBlock = some j → dx.ownBlock = some j ∨ wr.heap.size ≤ j) : Box wx xb xw xe dx2 rb gw re lv o ob :=
  ⟨h.fr.step hk hd (.inl rfl) (fun _ e => .inl e), hk.held h.bk h.fr.nx⟩
theorem Box.stepr (h : Box wr xb xw xe dx rb gw re lv o ob) (hk : Keeps (foot rb gw re lv) wr wx) (hg : gw2 = gw ∨ wr.heap.size ≤ gw2) (hn : ∀ j, lv2.ownBlock = some j → lv.ownBlock = some j ∨ wr.heap.size ≤ j) : Box wx xb xw xe dx rb gw2 re lv2 o ob :=
  ⟨h.fr.step hk (fun _ e => .inl e) hg hn, hk.held h.bk h.fr.nr⟩

end
section
/-- A flash (block xb ..) in state s, the document's (block rb ..) in state t, both made behind W; boxes that neither holds. -/
def Bo (W wr : World) (xb xw xe rb re : Nat) (s t : FS) (L : List (Nat × Obj)) : Prop :=
  ∃ dx gw cw lv, Two W wr xb xw xe dx rb gw cw re lv s t ∧ ∀ p ∈ L, Box wr xb xw xe dx rb gw re lv p.1 p.2

variable {W wr wx : World} {xb xw xe rb re : Nat} {s t s2 t2 : FS} {L : List (Nat × Obj)} {N : Nat}

theorem Bo.step0 (h : Bo W wr xb xw xe rb re s t L) (hk : Keeps [] wr wx) : Bo W wx xb xw xe rb re s t L := by
  obtain ⟨dx, gw, cw, lv, h1, h2⟩ := h
  exact ⟨dx, gw, cw, lv, h1.step0 hk, fun p hp => (h2 p hp).step0 hk⟩
theorem Bo.k0 (h : Bo W wr xb xw xe rb re s t L) : Keeps [] W wr := by
  obtain ⟨dx, gw, cw, lv, h1, h2⟩ := h; exact h1.k0
theorem Bo.box (h : Bo W wr xb xw xe rb re s t L) {o : Nat} {ob : Obj} (hp : (o, ob) ∈ L) : wr.heap[o]? = some ob := by
  obtain ⟨dx, gw, cw, lv, h1, h2⟩ := h; exact (h2 _ hp).bk
theorem Bo.sub (h : Bo W wr xb xw xe rb re s t L) {M : List (Nat × Obj)} (hs : ∀ p ∈ M, p ∈ L) : Bo W wr xb xw xe rb re s t M := by
  obtain ⟨dx, gw, cw, lv, h1, h2⟩ := h; exact ⟨dx, gw, cw, lv, h1, fun p hp => h2 p (hs p hp)⟩
/-- A block that was made is one more box. -/
theorem Bo.add (h : Bo W wr xb xw xe rb re s t L) (hk : Keeps [] wr wx) {o : Nat} {ob : Obj} (ho : wr.heap.size ≤ o) (hb : wx.heap[o]? = some ob) : Bo W wx xb xw xe rb re s t ((o, ob) :: L) := by
  obtain ⟨dx, gw, cw, lv, h1, h2⟩ := h
  refine ⟨dx, gw, cw, lv, h1.step0 hk, fun p hp => ?_⟩
  rcases List.mem_cons.1 hp with rfl | hp
  · exact ⟨h1.fresh ho (lt_of_block hb), hb⟩
  · exact (h2 p hp).step0 hk
/-- A box that turns. -/
theorem Bo.turn {o : Nat} {ob ob2 : Obj} (h : Bo W wr xb xw xe rb re s t ((o, ob) :: L)) (hk : Keeps [o] wr wx) (hb : wx.heap[o]? = some ob2) (hL : ∀ p ∈ L, p.1 ≠ o) (ho : W.heap.size ≤ o) : Bo W wx xb xw xe rb re s t ((o, ob2) :: L) := by
  obtain ⟨dx, gw, cw, lv, h1, h2⟩ := h
  have hf := (h2 _ (List.mem_cons_self ..)).fr
  simp only at hf
  have hsz := hk.size
  refine ⟨dx, gw, cw, lv, ⟨h1.fx.keep hk (fun k hk2 hx => hf.nx (by simp at hx; subst hx; exact hk2)), h1.fr.keep hk (fun k hk2 hx => hf.nr (by simp at hx; subst hx; exact hk2)), h1.apart, h1.upx, h1.upr, h1.k0.trans hk (fun x hx => by simp at hx; subst hx; exact .inr ho)⟩, fun p hp => ?_⟩
  rcases List.mem_cons.1 hp with rfl | hp
  · exact ⟨⟨by have := hf.lt; simp only; omega, hf.nx, hf.nr⟩, hb⟩
  · have hq := h2 p (List.mem_cons_of_mem _ hp)
    exact ⟨⟨by have := hq.fr.lt; omega, hq.fr.nx, hq.fr.nr⟩, hk.held hq.bk (by simp; exact hL p hp)⟩

theorem Bo.stepx {dx : Value} {gw cw : Nat} {lv : Value} (h1 : Two W wr xb xw xe dx rb gw cw re lv s t) (h2 : ∀ p ∈ L, Box wr xb xw xe dx rb gw re lv p.1 p.2) {dx2 : Value} (hf : Fl wx xb xw xe dx2 s2) (hk : Keeps (foot xb xw xe dx) wr wx) (hn : ∀ j, dx2.ownBlock = some j → dx.ownBlock = some j ∨ wr.heap.size ≤ j) :
    Bo W wx xb xw xe rb re s2 t L := ⟨dx2, gw, cw, lv, h1.stepx hf hk hn, fun p hp => (h2 p hp).stepx hk hn⟩
theorem Bo.stepr {dx : Value} {gw cw gw2 cw2 : Nat} {lv lv2 : Value} (h1 : Two W wr xb xw xe dx rb gw cw re lv s t) (h2 : ∀ p ∈ L, Box wr xb xw xe dx rb gw re lv p.1 p.2) (hf : Rf wx rb gw2 cw2 re lv2 t2) (hk : Keeps (foot rb gw re lv) wr wx) (hg : gw2 = gw ∨ wr.heap.size ≤ gw2) (hn : ∀ j, lv2.ownBlock = some j → lv.ownBlock = some j ∨ wr.heap.size ≤ j) :
    Bo W wx xb xw xe rb re s t2 L := ⟨dx, gw2, cw2, lv2, h1.stepr hf hk hg hn, fun p hp => (h2 p hp).stepr hk hg hn⟩

/-- Where a slice lies: ahead of both flashes, or in a box. -/
def Out (W : World) (L : List (Nat × Obj)) (a : Option Addr) : Prop := ∀ b o s, a = some ⟨b, o, s⟩ → b < W.heap.size ∨ ∃ ob, (b, ob) ∈ L
theorem Out.notx {a : Option Addr} {dx : Value} {gw cw : Nat} {lv : Value} (h : Out W L a) (h1 : Two W wr xb xw xe dx rb gw cw re lv s t) (h2 : ∀ p ∈ L, Box wr xb xw xe dx rb gw re lv p.1 p.2) : ∀ b o s, a = some ⟨b, o, s⟩ → b ∉ foot xb xw xe dx := by
  intro b o s' e hx
  rcases h b o s' e with h3 | ⟨ob, h3⟩
  · have := h1.upx b hx; omega
  · exact (h2 _ h3).fr.nx hx
theorem bo_prog (h : Bo W wr xb xw xe rb re s t L) (hg : s.Good N) (at_ : Int) (a : Option Addr) (n c : Nat) (xs : List Int) (hi : IntsAt wr a n xs) (hn : n ≤ 1000000) (ho : Out W L a) (hN : N + n ≤ 1000000000) :
    Calls Try.prog 13 #[.pointer (some ⟨xb, 0, none⟩), .int .i64 at_, .slice a n c] wr fun e w' => e = .returned (.int .i64 (s.prog at_ xs).1) ∧ Bo W w' xb xw xe rb re (s.prog at_ xs).2 t L := by
  obtain ⟨dx, gw, cw, lv, h1, h2⟩ := h
  refine (program_yes h1.fx hg at_ a n c xs hi hn (ho.notx h1 h2) hN).mono ?_
  rintro e w' ⟨he, dx2, q1, q2, q3⟩
  exact ⟨he, Bo.stepx h1 h2 q1 q2 q3⟩
theorem bo_refProg (h : Bo W wr xb xw xe rb re s2 s.nm L) (hg : s.Good N) (h16 : W16 s.w) (at_ : Int) (a : Option Addr) (n c : Nat) (xs : List Int) (hi : IntsAt W a n xs) (hn : n ≤ 1000000) (hN : N + n ≤ 1000000000) :
    Calls Try.prog 14 #[.pointer (some ⟨rb, 0, none⟩), .int .i64 at_, .slice a n c] wr fun e w' => e = .returned (.int .i64 (s.prog at_ xs).1) ∧ Bo W w' xb xw xe rb re s2 (s.prog at_ xs).2.nm L := by
  have hi2 := hi.keep0 h.k0
  obtain ⟨dx, gw, cw, lv, h1, h2⟩ := h
  have hcb := hg.hcb
  refine (refProgram_any1 h1.fr at_ a n c xs hi2 hn (fun b o s' e hne hx => ?_) h16 (by simp only [FS.nm]; split <;> omega) hg.hwl (by have := hg.hd; show s.done.length + n ≤ _; omega)).mono ?_
  · have hc := (hi.2.2 b o s' e hne).2 0 (List.length_pos_iff.2 hne)
    have h3 := World.block_lt_of_cell? _ _ hc
    have h4 := h1.upr b hx
    simp only at h3
    omega
  rintro e w' ⟨he, lv2, q1, q2, q3⟩
  rw [progR_eq, nm_prog] at he q1
  exact ⟨he, Bo.stepr h1 h2 q1 q2 (.inl rfl) q3⟩
theorem Good.nm (h : s.Good N) : s.nm.Good N := by
  have hcb := h.hcb
  exact ⟨h.hn, h.hwl, h.hel, h.hwe, by simp only [FS.nm]; split <;> omega, h.hev, h.hd⟩
theorem bo_cut (h : Bo W wr xb xw xe rb re s t L) (n : Int) :
    Calls Try.prog 19 #[.pointer (some ⟨xb, 0, none⟩), .int .i64 n] wr fun e w' => e = .returned (.int .i64 0) ∧ Bo W w' xb xw xe rb re { s with cut := n } t L := by
  obtain ⟨dx, gw, cw, lv, h1, h2⟩ := h
  refine (cut_yes h1.fx n).mono ?_
  rintro e w' ⟨he, q1, q2⟩
  exact ⟨he, Bo.stepx h1 h2 q1 q2 (fun j e => .inl e)⟩
theorem bo_power (h : Bo W wr xb xw xe rb re s t L) :
    Calls Try.prog 20 #[.pointer (some ⟨xb, 0, none⟩)] wr fun e w' => e = .returned (.int .i64 0) ∧ Bo W w' xb xw xe rb re { s with cut := -1, off := false } t L := by
  obtain ⟨dx, gw, cw, lv, h1, h2⟩ := h
  refine (power_yes h1.fx).mono ?_
  rintro e w' ⟨he, q1, q2⟩
  exact ⟨he, Bo.stepx h1 h2 q1 q2 (fun j e => .inl e)⟩
/-- The document's flash: its cut and its power are stored outright. -/
theorem Bo.refCut (h : Bo W wr xb xw xe rb re s t L) (v : Int) : Bo W (wr.setCell ⟨rb, 6, none⟩ (.int .i64 v)) xb xw xe rb re s { t with cut := v } L := by
  obtain ⟨dx, gw, cw, lv, h1, h2⟩ := h
  exact Bo.stepr h1 h2 (h1.fr.setCut v) ((Keeps.refl _ _).setCell (.inl (by simp [foot])) _) (.inl rfl) (fun j e => .inl e)
theorem Bo.refOff (h : Bo W wr xb xw xe rb re s t L) (v : Bool) : Bo W (wr.setCell ⟨rb, 7, none⟩ (.bool v)) xb xw xe rb re s { t with off := v } L := by
  obtain ⟨dx, gw, cw, lv, h1, h2⟩ := h
  exact Bo.stepr h1 h2 (h1.fr.setOff v) ((Keeps.refl _ _).setCell (.inl (by simp [foot])) _) (.inl rfl) (fun j e => .inl e)
theorem Bo.rc6 (h : Bo W wr xb xw xe rb re s t L) : wr.cell? ⟨rb, 6, none⟩ = some (.int .i64 t.cut) ∧ wr.cell? ⟨rb, 7, none⟩ = some (.bool t.off) ∧ (∀ o, wr.frozen? ⟨rb, o, none⟩ = false) := by
  obtain ⟨dx, gw, cw, lv, h1, h2⟩ := h
  exact ⟨h1.fr.c6, h1.fr.c7, h1.fr.fz⟩
theorem Bo.rw (h : Bo W wr xb xw xe rb re s t L) : ∃ gw cw, wr.cell? ⟨rb, 3, none⟩ = some (.slice (some ⟨gw, 0, none⟩) t.w.length cw) ∧ IntsAt wr (some ⟨gw, 0, none⟩) t.w.length t.w := by
  obtain ⟨dx, gw, cw, lv, h1, h2⟩ := h
  exact ⟨gw, cw, h1.fr.c3, h1.fr.hw.ints⟩
theorem bo_writes (h : Bo W wr xb xw xe rb re s t L) : Calls Try.prog 36 #[.pointer (some ⟨xb, 0, none⟩)] wr fun e w' => e = .returned (.int .i64 s.done.length) ∧ wr = w' := by
  obtain ⟨dx, gw, cw, lv, h1, h2⟩ := h
  exact writes_yes h1.fx
theorem bo_image (h : Bo W wr xb xw xe rb re s t L) (hg : s.Good N) :
    Calls Try.prog 27 #[.pointer (some ⟨xb, 0, none⟩)] wr fun e w' => ∃ v, e = .returned v ∧ ∃ g c', v = .slice (some ⟨g, 0, none⟩) s.w.length c' ∧ IntsAt w' (some ⟨g, 0, none⟩) s.w.length s.w ∧ Keeps [] wr w' := by
  obtain ⟨dx, gw, cw, lv, h1, h2⟩ := h
  refine (image_yes h1.fx hg.hwl).mono ?_
  rintro e w' ⟨v, he, g, c', hv, hg, hA, hk⟩
  exact ⟨v, he, g, c', hv, hA.ints, hk⟩
theorem runL_geo {l : List Raw3} : ∀ {s : FS}, ((FS.runL s l).1.g = s.g ∧ (FS.runL s l).1.p = s.p ∧ (FS.runL s l).1.n = s.n) ∧ (FS.runL s l).1.w.length = s.w.length := by
  induction l with
  | nil => intro s; exact ⟨⟨rfl, rfl, rfl⟩, rfl⟩
  | cons r l ih =>
    intro s
    by_cases hc : s.cut = 0
    · rw [runL_cut hc]; exact ⟨⟨rfl, rfl, rfl⟩, rfl⟩
    · rw [runL_cons hc]
      obtain ⟨⟨h1, h2, h3⟩, h4⟩ := ih (s := s.put r)
      exact ⟨⟨h1, h2, h3⟩, h4.trans (FS.put_w_length s r)⟩
variable {A B C : Int}

theorem nm_power (s : FS) : FS.nm { s with cut := -1, off := false } = { { s.nm with cut := -1 } with off := false } := by simp [FS.nm]
theorem nm_cut (s : FS) (c : Int) : FS.nm { s with cut := c } = { s.nm with cut := if c < -1 then -1 else c } := by simp [FS.nm]
theorem fresh_nm (g p n : Int) : (FS.fresh g p n).nm = FS.fresh g p n := by simp [FS.nm, FS.fresh]
end

/-- Both just made. -/
theorem Bo.start {W wc w3 w4 : World} {xb rb : Nat} {A B C : Int} (hk : Keeps [] W wc) (hx : MadeFl wc w3 (FS.fresh A B C) xb) {w5 : World} (k5 : Keeps [] w3 w5) (hr : MadeRf w5 w4 (FS.fresh A B C) rb) :
    ∃ xw xe re, Bo W w4 xb xw xe rb re (FS.fresh A B C) (FS.fresh A B C).nm [] := by
  obtain ⟨xw, xe, hf, h1, h2, h3, k3⟩ := hx
  obtain ⟨gw, cw, re, hfr, q1, q2, q3, k4⟩ := hr
  have s0 := hk.size
  have s3 := k3.size
  have s5 := k5.size
  have lx := hf.lt
  have hnx : ∀ k ∈ foot xb xw xe (.slice none 0 0), wc.heap.size ≤ k := by
    intro k hk
    rw [mem_foot] at hk
    rcases hk with rfl | rfl | rfl | hk
    · exact h1
    · exact h2
    · exact h3
    · simp [Value.ownBlock] at hk
  have hnr : ∀ k ∈ foot rb gw re (.slice none 0 0), w5.heap.size ≤ k := by
    intro k hk
    rw [mem_foot] at hk
    rcases hk with rfl | rfl | rfl | hk
    · exact q1
    · exact q2
    · exact q3
    · simp [Value.ownBlock] at hk
  refine ⟨xw, xe, re, .slice none 0 0, gw, cw, .slice none 0 0, ⟨(hf.keep k5 (by simp)).keep k4 (by simp), by rw [fresh_nm]; exact hfr, fun k h h' => by have := lx k h; have := hnr k h'; omega, fun k h => by have := hnx k h; omega, fun k h => by have := hnr k h; omega, ((hk.trans0 k3).trans0 k5).trans0 k4⟩, by simp⟩

end Go.Proofs.Ytcaphgokckkmfaa
