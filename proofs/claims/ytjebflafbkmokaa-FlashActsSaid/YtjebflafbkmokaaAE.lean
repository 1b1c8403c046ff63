/- Two flashes side by side with any boxes: the state, and each call in terms of it. -/
import Derived.Test.YtjebflafbkmokaaAD
import Derived.Test.YtjebflafbkmokaaRO
import Derived.Test.YtjebflafbkmokaaSN
namespace Go.Proofs.Ytjebflafbkmokaa
open Go.RowKit
set_option linter.unusedVariables false

/-- A flash (block xb ..) in state s, the document's (block rb ..) in state t, both made behind W; boxes that neither holds. -/
def Bo (W wr : World) (xb xw xe rb re : Nat) (s t : FS) (L : List (Nat × Obj)) : Prop :=
  ∃ dx gw cw lv, Two W wr xb xw xe dx rb gw cw re lv s t ∧ ∀ p ∈ L, Box wr xb xw xe dx rb gw re lv p.1 p.2

variable {W wr wx : World} {xb xw xe rb re : Nat} {s t s2 t2 : FS} {L : List (Nat × Obj)} {N : Nat}

theorem Bo.step0 (h : Bo W wr xb xw xe rb re s t L) (hk : Keeps [] wr wx) : Bo W wx xb xw xe rb re s t L := by
  obtain ⟨dx, gw, cw, lv, h1, h2⟩ := h
  exact ⟨dx, gw, cw, lv, h1.step0 hk, fun p hp => (h2 p hp).step0 hk⟩
theorem Bo.k0 (h : Bo W wr xb xw xe rb re s t L) : Keeps [] W wr := by
  obtain ⟨dx, gw, cw, lv, h1, h2⟩ := h; exact h1.k0
theorem Bo.box (h : Bo W wr xb xw xe rb re s t L) {o : Nat} {ob : Obj} (hp : (o, ob) ∈ L) : wr.heap[o]? = some ob := by
  obtain ⟨dx, gw, cw, lv, h1, h2⟩ := h; exact (h2 _ hp).bk
theorem Bo.sub (h : Bo W wr xb xw xe rb re s t L) {M : List (Nat × Obj)} (hs : ∀ p ∈ M, p ∈ L) : Bo W wr xb xw xe rb re s t M := by
  obtain ⟨dx, gw, cw, lv, h1, h2⟩ := h; exact ⟨dx, gw, cw, lv, h1, fun p hp => h2 p (hs p hp)⟩
/-- A block that was made is one more box. -/
theorem Bo.add (h : Bo W wr xb xw xe rb re s t L) (hk : Keeps [] wr wx) {o : Nat} {ob : Obj} (ho : wr.heap.size ≤ o) (hb : wx.heap[o]? = some ob) : Bo W wx xb xw xe rb re s t ((o, ob) :: L) := by
  obtain ⟨dx, gw, cw, lv, h1, h2⟩ := h
  refine ⟨dx, gw, cw, lv, h1.step0 hk, fun p hp => ?_⟩
  rcases List.mem_cons.1 hp with rfl | hp
  · exact ⟨h1.fresh ho (lt_of_block hb), hb⟩
  · exact (h2 p hp).step0 hk
/-- A box that turns. -/
theorem Bo.turn {o : Nat} {ob ob2 : Obj} (h : Bo W wr xb xw xe rb re s t ((o, ob) :: L)) (hk : Keeps [o] wr wx) (hb : wx.heap[o]? = some ob2) (hL : ∀ p ∈ L, p.1 ≠ o) (ho : W.heap.size ≤ o) : Bo W wx xb xw xe rb re s t ((o, ob2) :: L) := by
  obtain ⟨dx, gw, cw, lv, h1, h2⟩ := h
  have hf := (h2 _ (List.mem_cons_self ..)).fr
  simp only at hf
  have hsz := hk.size
  refine ⟨dx, gw, cw, lv, ⟨h1.fx.keep hk (fun k hk2 hx => hf.nx (by simp at hx; subst hx; exact hk2)), h1.fr.keep hk (fun k hk2 hx => hf.nr (by simp at hx; subst hx; exact hk2)), h1.apart, h1.upx, h1.upr, h1.k0.trans hk (fun x hx => by simp at hx; subst hx; exact .inr ho)⟩, fun p hp => ?_⟩
  rcases List.mem_cons.1 hp with rfl | hp
  · exact ⟨⟨by have := hf.lt; simp only; omega, hf.nx, hf.nr⟩, hb⟩
  · have hq := h2 p (List.mem_cons_of_mem _ hp)
    exact ⟨⟨by have := hq.fr.lt; omega, hq.fr.nx, hq.fr.nr⟩, hk.held hq.bk (by simp; exact hL p hp)⟩

theorem Bo.stepx {dx : Value} {gw cw : Nat} {lv : Value} (h1 : Two W wr xb xw xe dx rb gw cw re lv s t) (h2 : ∀ p ∈ L, Box wr xb xw xe dx rb gw re lv p.1 p.2) {dx2 : Value} (hf : Fl wx xb xw xe dx2 s2) (hk : Keeps (foot xb xw xe dx) wr wx) (hn : ∀ j, dx2.ownBlock = some j → dx.ownBlock = some j ∨ wr.heap.size ≤ j) :
    Bo W wx xb xw xe rb re s2 t L := ⟨dx2, gw, cw, lv, h1.stepx hf hk hn, fun p hp => (h2 p hp).stepx hk hn⟩
theorem Bo.stepr {dx : Value} {gw cw gw2 cw2 : Nat} {lv lv2 : Value} (h1 : Two W wr xb xw xe dx rb gw cw re lv s t) (h2 : ∀ p ∈ L, Box wr xb xw xe dx rb gw re lv p.1 p.2) (hf : Rf wx rb gw2 cw2 re lv2 t2) (hk : Keeps (foot rb gw re lv) wr wx) (hg : gw2 = gw ∨ wr.heap.size ≤ gw2) (hn : ∀ j, lv2.ownBlock = some j → lv.ownBlock = some j ∨ wr.heap.size ≤ j) :
    Bo W wx xb xw xe rb re s t2 L := ⟨dx, gw2, cw2, lv2, h1.stepr hf hk hg hn, fun p hp => (h2 p hp).stepr hk hg hn⟩

/-- Where a slice lies: ahead of both flashes, or in a box. -/
def Out (W : World) (L : List (Nat × Obj)) (a : Option Addr) : Prop := ∀ b o s, a = some ⟨b, o, s⟩ → b < W.heap.size ∨ ∃ ob, (b, ob) ∈ L
theorem Out.notx {a : Option Addr} {dx : Value} {gw cw : Nat} {lv : Value} (h : Out W L a) (h1 : Two W wr xb xw xe dx rb gw cw re lv s t) (h2 : ∀ p ∈ L, Box wr xb xw xe dx rb gw re lv p.1 p.2) : ∀ b o s, a = some ⟨b, o, s⟩ → b ∉ foot xb xw xe dx := by
  intro b o s' e hx
  rcases h b o s' e with h3 | ⟨ob, h3⟩
  · have := h1.upx b hx; omega
  · exact (h2 _ h3).fr.nx hx
theorem bo_prog (h : Bo W wr xb xw xe rb re s t L) (hg : s.Good N) (at_ : Int) (a : Option Addr) (n c : Nat) (xs : List Int) (hi : IntsAt wr a n xs) (hn : n ≤ 1000000) (ho : Out W L a) (hN : N + n ≤ 1000000000) :
    Calls Try.prog 17 #[.pointer (some ⟨xb, 0, none⟩), .int .i64 at_, .slice a n c] wr fun e w' => e = .returned (.int .i64 (s.prog at_ xs).1) ∧ Bo W w' xb xw xe rb re (s.prog at_ xs).2 t L := by
  obtain ⟨dx, gw, cw, lv, h1, h2⟩ := h
  refine (program_yes h1.fx hg at_ a n c xs hi hn (ho.notx h1 h2) hN).mono ?_
  rintro e w' ⟨he, dx2, q1, q2, q3⟩
  exact ⟨he, Bo.stepx h1 h2 q1 q2 q3⟩
theorem bo_refProg (h : Bo W wr xb xw xe rb re s2 s.nm L) (hg : s.Good N) (h16 : W16 s.w) (at_ : Int) (a : Option Addr) (n c : Nat) (xs : List Int) (hi : IntsAt W a n xs) (hn : n ≤ 1000000) (hN : N + n ≤ 1000000000) :
    Calls Try.prog 18 #[.pointer (some ⟨rb, 0, none⟩), .int .i64 at_, .slice a n c] wr fun e w' => e = .returned (.int .i64 (s.prog at_ xs).1) ∧ Bo W w' xb xw xe rb re s2 (s.prog at_ xs).2.nm L := by
  have hi2 := hi.keep0 h.k0
  obtain ⟨dx, gw, cw, lv, h1, h2⟩ := h
  have hcb := hg.hcb
  refine (refProgram_any1 h1.fr at_ a n c xs hi2 hn (fun b o s' e hne hx => ?_) h16 (by simp only [FS.nm]; split <;> omega) hg.hwl (by have := hg.hd; show s.done.length + n ≤ _; omega)).mono ?_
  · have hc := (hi.2.2 b o s' e hne).2 0 (List.length_pos_iff.2 hne)
    have h3 := World.block_lt_of_cell? _ _ hc
    have h4 := h1.upr b hx
    simp only at h3
    omega
  rintro e w' ⟨he, lv2, q1, q2, q3⟩
  rw [progR_eq, nm_prog] at he q1
  exact ⟨he, Bo.stepr h1 h2 q1 q2 (.inl rfl) q3⟩
theorem bo_erase (h : Bo W wr xb xw xe rb re s t L) (hg : s.Good N) (page : Int) (hN : N + s.n.toNat ≤ 1000000000) :
    Calls Try.prog 20 #[.pointer (some ⟨xb, 0, none⟩), .int .i64 page] wr fun e w' => e = .returned (.int .i64 (s.eraseP page).1) ∧ Bo W w' xb xw xe rb re (s.eraseP page).2 t L := by
  obtain ⟨dx, gw, cw, lv, h1, h2⟩ := h
  refine (erase_yes h1.fx hg page hN).mono ?_
  rintro e w' ⟨he, dx2, q1, q2, q3⟩
  exact ⟨he, Bo.stepx h1 h2 q1 q2 q3⟩
theorem Good.nm (h : s.Good N) : s.nm.Good N := by
  have hcb := h.hcb
  exact ⟨h.hn, h.hwl, h.hel, h.hwe, by simp only [FS.nm]; split <;> omega, h.hev, h.hd⟩
theorem bo_refErase (h : Bo W wr xb xw xe rb re s2 s.nm L) (hg : s.Good N) (h16 : W16 s.w) (page : Int) (hN : N + s.n.toNat ≤ 100000000) :
    Calls Try.prog 21 #[.pointer (some ⟨rb, 0, none⟩), .int .i64 page] wr fun e w' => e = .returned (.int .i64 (s.eraseP page).1) ∧ Bo W w' xb xw xe rb re s2 (s.eraseP page).2.nm L := by
  obtain ⟨dx, gw, cw, lv, h1, h2⟩ := h
  refine (refErase_any h1.fr (Good.nm hg) h16 page hN).mono ?_
  rintro e w' ⟨he, lv2, q1, q2, q3⟩
  rw [nm_eraseP] at he q1
  exact ⟨he, Bo.stepr h1 h2 q1 q2 (.inl rfl) q3⟩
theorem bo_read (h : Bo W wr xb xw xe rb re s t L) (hg : s.Good N) (n : Int) :
    Calls Try.prog 22 #[.pointer (some ⟨xb, 0, none⟩), .int .i64 n] wr fun e w' => e = .returned (.tuple #[.int .i64 (s.readP n).1, .int .i64 (s.readP n).2]) ∧ wr = w' := by
  obtain ⟨dx, gw, cw, lv, h1, h2⟩ := h
  exact read_any h1.fx n hg.hwl
theorem bo_refRead (h : Bo W wr xb xw xe rb re s2 s.nm L) (hg : s.Good N) (n : Int) :
    Calls Try.prog 23 #[.pointer (some ⟨rb, 0, none⟩), .int .i64 n] wr fun e w' => e = .returned (.tuple #[.int .i64 (s.readP n).1, .int .i64 (s.readP n).2]) ∧ wr = w' := by
  obtain ⟨dx, gw, cw, lv, h1, h2⟩ := h
  have := refRead_any h1.fr n hg.hwl
  rwa [nm_readP] at this
theorem bo_cut (h : Bo W wr xb xw xe rb re s t L) (n : Int) :
    Calls Try.prog 24 #[.pointer (some ⟨xb, 0, none⟩), .int .i64 n] wr fun e w' => e = .returned (.int .i64 0) ∧ Bo W w' xb xw xe rb re { s with cut := n } t L := by
  obtain ⟨dx, gw, cw, lv, h1, h2⟩ := h
  refine (cut_yes h1.fx n).mono ?_
  rintro e w' ⟨he, q1, q2⟩
  exact ⟨he, Bo.stepx h1 h2 q1 q2 (fun j e => .inl e)⟩
theorem bo_power (h : Bo W wr xb xw xe rb re s t L) :
    Calls Try.prog 25 #[.pointer (some ⟨xb, 0, none⟩)] wr fun e w' => e = .returned (.int .i64 0) ∧ Bo W w' xb xw xe rb re { s with cut := -1, off := false } t L := by
  obtain ⟨dx, gw, cw, lv, h1, h2⟩ := h
  refine (power_yes h1.fx).mono ?_
  rintro e w' ⟨he, q1, q2⟩
  exact ⟨he, Bo.stepx h1 h2 q1 q2 (fun j e => .inl e)⟩
/-- The document's flash: its cut and its power are stored outright. -/
theorem Bo.refCut (h : Bo W wr xb xw xe rb re s t L) (v : Int) : Bo W (wr.setCell ⟨rb, 6, none⟩ (.int .i64 v)) xb xw xe rb re s { t with cut := v } L := by
  obtain ⟨dx, gw, cw, lv, h1, h2⟩ := h
  exact Bo.stepr h1 h2 (h1.fr.setCut v) ((Keeps.refl _ _).setCell (.inl (by simp [foot])) _) (.inl rfl) (fun j e => .inl e)
theorem Bo.refOff (h : Bo W wr xb xw xe rb re s t L) (v : Bool) : Bo W (wr.setCell ⟨rb, 7, none⟩ (.bool v)) xb xw xe rb re s { t with off := v } L := by
  obtain ⟨dx, gw, cw, lv, h1, h2⟩ := h
  exact Bo.stepr h1 h2 (h1.fr.setOff v) ((Keeps.refl _ _).setCell (.inl (by simp [foot])) _) (.inl rfl) (fun j e => .inl e)
theorem Bo.rc6 (h : Bo W wr xb xw xe rb re s t L) : wr.cell? ⟨rb, 6, none⟩ = some (.int .i64 t.cut) ∧ wr.cell? ⟨rb, 7, none⟩ = some (.bool t.off) ∧ (∀ o, wr.frozen? ⟨rb, o, none⟩ = false) := by
  obtain ⟨dx, gw, cw, lv, h1, h2⟩ := h
  exact ⟨h1.fr.c6, h1.fr.c7, h1.fr.fz⟩
theorem Bo.rw (h : Bo W wr xb xw xe rb re s t L) : ∃ gw cw, wr.cell? ⟨rb, 3, none⟩ = some (.slice (some ⟨gw, 0, none⟩) t.w.length cw) ∧ IntsAt wr (some ⟨gw, 0, none⟩) t.w.length t.w := by
  obtain ⟨dx, gw, cw, lv, h1, h2⟩ := h
  exact ⟨gw, cw, h1.fr.c3, h1.fr.hw.ints⟩
theorem bo_load (h : Bo W wr xb xw xe rb re s t L) (hg : s.Good N) (ad : Addr) (n c : Nat) (xs : List Int) (hi : IntsAt wr (some ad) n xs) (hn : n = s.w.length) :
    Calls Try.prog 26 #[.pointer (some ⟨xb, 0, none⟩), .slice (some ad) n c] wr fun e w' => e = .returned (.int .i64 (if fitB xs then 0 else 2)) ∧ Bo W w' xb xw xe rb re { s with w := if fitB xs then xs else s.w } t L := by
  have hwl := hg.hwl
  by_cases hf : fitB xs = true
  · rw [if_pos hf, if_pos hf]
    obtain ⟨dx, gw, cw, lv, h1, h2⟩ := h
    refine (load_yes h1.fx hg ad n c xs hi (by omega) hn hf).mono ?_
    rintro e w' ⟨he, q1, q2⟩
    exact ⟨he, Bo.stepx h1 h2 q1 q2 (fun j e => .inl e)⟩
  · have hf2 : fitB xs = false := by simpa using hf
    rw [if_neg hf, if_neg hf]
    obtain ⟨dx, gw, cw, lv, h1, h2⟩ := h
    refine (load_fit h1.fx hg (some ad) n c xs hi (by omega) hn hf2).mono ?_
    rintro e w' ⟨he, rfl⟩
    exact ⟨he, dx, gw, cw, lv, h1, h2⟩
theorem bo_refLoad (h : Bo W wr xb xw xe rb re s2 s.nm L) (hg : s.Good N) (ad : Addr) (n c : Nat) (xs : List Int) (hi : IntsAt wr (some ad) n xs) (hn : n = s.w.length) (hn1 : 1 ≤ n) :
    Calls Try.prog 27 #[.pointer (some ⟨rb, 0, none⟩), .slice (some ad) n c] wr fun e w' => e = .returned (.int .i64 (if fitB xs then 0 else 2)) ∧ Bo W w' xb xw xe rb re s2 (FS.nm { s with w := if fitB xs then xs else s.w }) L := by
  have hwl := hg.hwl
  obtain ⟨dx, gw, cw, lv, h1, h2⟩ := h
  refine (refLoad_any h1.fr ad n c xs hi (by omega) hn hn1).mono ?_
  rintro e w' (⟨hf, he, rfl⟩ | ⟨hf, he, g2, c2, q1, q2, q3⟩)
  · refine ⟨by rw [he, hf]; rfl, ?_⟩
    rw [hf]
    exact ⟨dx, gw, cw, lv, h1, h2⟩
  · refine ⟨by rw [he, hf]; rfl, ?_⟩
    rw [hf]
    exact Bo.stepr h1 h2 q1 (q3.mono (fun x hx => by simp at hx; subst hx; exact .inl (by simp [foot]))) (.inr q2) (fun j e => .inl e)
theorem bo_writes (h : Bo W wr xb xw xe rb re s t L) : Calls Try.prog 28 #[.pointer (some ⟨xb, 0, none⟩)] wr fun e w' => e = .returned (.int .i64 s.done.length) ∧ wr = w' := by
  obtain ⟨dx, gw, cw, lv, h1, h2⟩ := h
  exact writes_yes h1.fx
theorem bo_image (h : Bo W wr xb xw xe rb re s t L) (hg : s.Good N) :
    Calls Try.prog 29 #[.pointer (some ⟨xb, 0, none⟩)] wr fun e w' => ∃ v, e = .returned v ∧ ∃ g c', v = .slice (some ⟨g, 0, none⟩) s.w.length c' ∧ IntsAt w' (some ⟨g, 0, none⟩) s.w.length s.w ∧ Keeps [] wr w' := by
  obtain ⟨dx, gw, cw, lv, h1, h2⟩ := h
  refine (image_yes h1.fx hg.hwl).mono ?_
  rintro e w' ⟨v, he, g, c', hv, hg, hA, hk⟩
  exact ⟨v, he, g, c', hv, hA.ints, hk⟩
theorem bo_erases (h : Bo W wr xb xw xe rb re s t L) (hg : s.Good N) (n : Int) :
    Calls Try.prog 30 #[.pointer (some ⟨xb, 0, none⟩), .int .i64 n] wr fun e w' => e = .returned (.int .i64 (s.erP n)) ∧ wr = w' := by
  obtain ⟨dx, gw, cw, lv, h1, h2⟩ := h
  exact erases_any1 h1.fx n hg.hel
theorem bo_refErases (h : Bo W wr xb xw xe rb re s2 s.nm L) (hg : s.Good N) (n : Int) :
    Calls Try.prog 31 #[.pointer (some ⟨rb, 0, none⟩), .int .i64 n] wr fun e w' => e = .returned (.int .i64 (s.erP n)) ∧ wr = w' := by
  obtain ⟨dx, gw, cw, lv, h1, h2⟩ := h
  have := refErases_any h1.fr n hg.hel
  rwa [nm_erP] at this

/-- What stays true of the state at each round's head. -/
structure Fit (s : FS) (N : Nat) (A B C : Int) : Prop where
  good : s.Good N
  h16 : W16 s.w
  geo : s.g = A ∧ s.p = B ∧ s.n = C
  wl : 1 ≤ s.w.length

theorem runL_geo {l : List Raw3} : ∀ {s : FS}, ((FS.runL s l).1.g = s.g ∧ (FS.runL s l).1.p = s.p ∧ (FS.runL s l).1.n = s.n) ∧ (FS.runL s l).1.w.length = s.w.length := by
  induction l with
  | nil => intro s; exact ⟨⟨rfl, rfl, rfl⟩, rfl⟩
  | cons r l ih =>
    intro s
    by_cases hc : s.cut = 0
    · rw [runL_cut hc]; exact ⟨⟨rfl, rfl, rfl⟩, rfl⟩
    · rw [runL_cons hc]
      obtain ⟨⟨h1, h2, h3⟩, h4⟩ := ih (s := s.put r)
      exact ⟨⟨h1, h2, h3⟩, h4.trans (FS.put_w_length s r)⟩
theorem prog_geo (s : FS) (a : Int) (xs : List Int) : ((s.prog a xs).2.g = s.g ∧ (s.prog a xs).2.p = s.p ∧ (s.prog a xs).2.n = s.n) ∧ (s.prog a xs).2.w.length = s.w.length := by
  unfold FS.prog; split
  · split
    · exact ⟨⟨rfl, rfl, rfl⟩, rfl⟩
    · exact runL_geo
  · exact ⟨⟨rfl, rfl, rfl⟩, rfl⟩
theorem eraseP_geo (s : FS) (p : Int) : ((s.eraseP p).2.g = s.g ∧ (s.eraseP p).2.p = s.p ∧ (s.eraseP p).2.n = s.n) ∧ (s.eraseP p).2.w.length = s.w.length := by
  unfold FS.eraseP; split
  · split
    · exact ⟨⟨rfl, rfl, rfl⟩, rfl⟩
    · exact runL_geo
  · exact ⟨⟨rfl, rfl, rfl⟩, rfl⟩
variable {A B C : Int}
theorem Fit.prog (h : Fit s N A B C) (a : Int) (xs : List Int) (hx : xs.length ≤ 100) : Fit (s.prog a xs).2 (N + 100) A B C := by
  obtain ⟨⟨h1, h2, h3⟩, h4⟩ := prog_geo s a xs
  exact ⟨(h.good.prog a xs).mono (by omega), h.h16.prog a xs, ⟨h1.trans h.geo.1, h2.trans h.geo.2.1, h3.trans h.geo.2.2⟩, by rw [h4]; exact h.wl⟩
theorem Fit.eraseP (h : Fit s N A B C) (p : Int) (hC : C ≤ 32) : Fit (s.eraseP p).2 (N + 100) A B C := by
  obtain ⟨⟨h1, h2, h3⟩, h4⟩ := eraseP_geo s p
  have hn := h.geo.2.2
  exact ⟨(h.good.eraseP p).mono (by omega), h.h16.eraseP p, ⟨h1.trans h.geo.1, h2.trans h.geo.2.1, h3.trans h.geo.2.2⟩, by rw [h4]; exact h.wl⟩
theorem Fit.more (h : Fit s N A B C) : Fit s (N + 100) A B C := ⟨h.good.mono (by omega), h.h16, h.geo, h.wl⟩
theorem Fit.cut (h : Fit s N A B C) (c : Int) (hc : -9223372036854775808 ≤ c ∧ c ≤ 9223372036854775807) : Fit { s with cut := c } (N + 100) A B C :=
  ⟨(h.good.setCut c hc).mono (by omega), h.h16, h.geo, h.wl⟩
theorem Fit.power (h : Fit s N A B C) : Fit { s with cut := -1, off := false } (N + 100) A B C :=
  ⟨((h.good.setCut (-1) (by omega)).setOff false).mono (by omega), h.h16, h.geo, h.wl⟩
theorem W16.of_fit {xs : List Int} (h : fitB xs = true) : W16 xs := by
  intro i
  by_cases hi : i < xs.length
  · have h1 := fitB_get h hi
    exact ⟨(xs.getD i 0).toNat, by omega, by omega⟩
  · exact ⟨0, by simp [List.getD, List.getElem?_eq_none (show xs.length ≤ i by omega)], by omega⟩
theorem Fit.load (h : Fit s N A B C) (xs : List Int) (hl : xs.length = s.w.length) : Fit { s with w := if fitB xs then xs else s.w } (N + 100) A B C := by
  by_cases hf : fitB xs = true
  · rw [if_pos hf]
    exact ⟨(h.good.setW xs hl).mono (by omega), W16.of_fit hf, h.geo, by show 1 ≤ xs.length; rw [hl]; exact h.wl⟩
  · rw [if_neg hf]
    exact h.more

end Go.Proofs.Ytjebflafbkmokaa
