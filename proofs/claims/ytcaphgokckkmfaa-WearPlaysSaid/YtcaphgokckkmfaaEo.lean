
/- Wear: acts that came in, opened; both flashes, cleaned, read and counted side by side. -/
import Derived.Test.YtcaphgokckkmfaaEn
import Derived.Test.YtcaphgokckkmfaaEj
import Derived.Test.YtcaphgokckkmfaaZz
import Derived.Deep.Strs
namespace Go.Proofs.Ytcaphgokckkmfaa
open Go.ChangeShapes Go.WideShapes Go.ChangeAt Go.RowKit Go.Deep
set_option maxRecDepth 100000
set_option linter.unusedVariables false
set_option linter.unusedSimpArgs false

/-- An act: what, where, and a number. -/
structure Act3 where
  d : Int
  at_ : Int
  n : Int
structure Act3At (w : World) (b o : Nat) (r : Act3) : Prop where
  c0 : w.cell? ⟨b, o, none⟩ = some (.int .i64 r.d)
  c1 : w.cell? ⟨b, o + 1, none⟩ = some (.int .i64 r.at_)
  c2 : w.cell? ⟨b, o + 2, none⟩ = some (.int .i64 r.n)
def Acts3 (w : World) (a : Option Addr) (n : Nat) (acts : List Act3) : Prop :=
  n = acts.length ∧ (a = none → acts = []) ∧ ∀ b o s, a = some ⟨b, o, s⟩ → acts ≠ [] → s = none ∧ ∀ i r, acts[i]? = some r → Act3At w b (o + i * 3) r
theorem Act3At.keep {w w' : World} {b o : Nat} {r : Act3} (h : Act3At w b o r) (hk : Keeps [] w w') : Act3At w' b o r := by
  have k : ∀ {p : Addr} {v : Value}, w.cell? p = some v → w'.cell? p = some v := fun hc => (hk.cell (World.block_lt_of_cell? _ _ hc) (by simp)).trans hc
  exact ⟨k h.c0, k h.c1, k h.c2⟩

section
variable {H : Type} {enc : TypeId × Value → H} {W : World}
theorem spot_noneW {a : Addr} {v : Value} (h : W.cell? a = some v) : a.spot = none := by
  obtain ⟨b, o, s⟩ := a
  cases s with
  | none => rfl
  | some x => simp only [World.cell?, Option.isSome_some, if_true] at h; split at h <;> cases h
theorem add_plainW (b o i : Nat) : (⟨b, o, none⟩ : Addr).add i = ⟨b, o + i, none⟩ := by unfold Addr.add; split <;> simp_all
theorem choose_listW {α : Type} {P : Nat → α → Prop} : ∀ (n : Nat), (∀ i, i < n → ∃ r, P i r) → ∃ l : List α, l.length = n ∧ ∀ i r, l[i]? = some r → P i r := by
  intro n
  induction n with
  | zero => intro _; exact ⟨[], rfl, by simp⟩
  | succ n ih =>
    intro h
    obtain ⟨l, hl, hp⟩ := ih (fun i hi => h i (by omega))
    obtain ⟨r, hr⟩ := h n (by omega)
    refine ⟨l ++ [r], by simp [hl], fun i q hq => ?_⟩
    by_cases hi : i < l.length
    · rw [List.getElem?_append_left hi] at hq; exact hp i q hq
    · rw [List.getElem?_append_right (by omega)] at hq
      have h0 : i - l.length = 0 := by
        have := (List.getElem?_eq_some_iff.1 hq).1
        simp at this
        omega
      rw [h0] at hq
      simp at hq
      subst hq
      rw [show i = n by omega]
      exact hr
theorem cellsAct3 : Try.prog.cellsOf 34 = 3 := by kernel_rfl
theorem open_act3 {fuel : Nat} {cs : List Value} {x : DataW H × List MemPlace} (h : DataW.trod enc Try.prog W 0 (fun _ => true) true fuel 34 cs = some x) :
    ∃ r : Act3, cs = [.int .i64 r.d, .int .i64 r.at_, .int .i64 r.n] ∧ (-9223372036854775808 ≤ r.n ∧ r.n ≤ 9223372036854775807) := by
  obtain ⟨xs, n', _, _, hlen, hxl, hf⟩ := DataW.trod_struct Try.underlying34 h
  rw [cellsAct3] at hlen
  match cs, hlen with
  | [c0, c1, c2], _ =>
    have h0 := hf 0 _ rfl
    have h1 := hf 1 _ rfl
    have h2 := hf 2 _ rfl
    simp [cellsInt] at h0 h1 h2
    have e : ∀ j, j < 3 → ∃ y, xs[j]? = some y := fun j hj => ⟨xs[j]'(by rw [hxl]; exact hj), List.getElem?_eq_getElem _⟩
    obtain ⟨y0, e0⟩ := e 0 (by omega)
    obtain ⟨y1, e1⟩ := e 1 (by omega)
    obtain ⟨y2, e2⟩ := e 2 (by omega)
    rw [e0] at h0
    rw [e1] at h1
    rw [e2] at h2
    obtain ⟨d, k0, _, _⟩ := DataW.trod_int Try.underlying3 h0
    obtain ⟨at_, k1, _, _⟩ := DataW.trod_int Try.underlying3 h1
    obtain ⟨n, k2, _, w2⟩ := DataW.trod_int Try.underlying3 h2
    injection k0 with k0 _
    injection k1 with k1 _
    injection k2 with k2 _
    subst k0; subst k1; subst k2
    exact ⟨⟨d, at_, n⟩, rfl, bounds_i64 w2⟩
/-- A parameter of type []Act, opened. -/
theorem open_acts3 {base : Nat} {v : Value} {d : DataW H} {p : List MemPlace} (hv : Value.okWide Try.prog W .any base 22 v) (h : DataW.Trod enc Try.prog W 0 (fun _ => true) true 22 v d p) :
    ∃ a n c acts, v = .slice a n c ∧ Acts3 W a n acts ∧ n ≤ c ∧ c ≤ maxLen ∧ ∀ r ∈ acts, (-9223372036854775808 ≤ r.n ∧ r.n ≤ 9223372036854775807) := by
  obtain ⟨a0, len, cap, rfl⟩ := okWide_slice Try.underlying22 hv
  obtain ⟨fuel, hf⟩ := h
  rcases open_slice Try.underlying22 hf with ⟨hcs, _⟩ | ⟨a, len', cap', m, n, D, Pl, hcs, hb, hl, hm, hmm, hx, hi⟩
  · simp [Value.cells] at hcs
    obtain ⟨rfl, rfl, rfl⟩ := hcs
    exact ⟨none, 0, 0, [], rfl, ⟨rfl, fun _ => rfl, by simp⟩, Nat.le_refl _, by unfold maxLen; omega, by simp⟩
  · simp [Value.cells] at hcs
    obtain ⟨rfl, rfl, rfl⟩ := hcs
    simp only [if_true] at hmm
    rw [cellsAct3] at hi
    have hall : ∀ i, i < len → ∃ r : Act3, (a.add (i * 3)).spot = none ∧ Act3At W a.block ((a.add (i * 3)).off) r ∧ (-9223372036854775808 ≤ r.n ∧ r.n ≤ 9223372036854775807) := by
      intro i hil
      obtain ⟨cs, hc, ht⟩ := hi i (by omega)
      obtain ⟨r, rfl, hrw⟩ := open_act3 ht
      obtain ⟨_, _, hat⟩ := World.cells?_some hc
      have g0 := hat 0 (by omega)
      have hsp : (a.add (i * 3)).spot = none := spot_noneW (by have : (a.add (i * 3)).add 0 = a.add (i * 3) := rfl; rw [this] at g0; exact g0)
      have hbl : (a.add (i * 3)).block = a.block := by unfold Addr.add; split <;> rfl
      have hadd : ∀ j, (a.add (i * 3)).add j = ⟨a.block, (a.add (i * 3)).off + j, none⟩ := by
        intro j
        have : a.add (i * 3) = ⟨a.block, (a.add (i * 3)).off, none⟩ := by
          rw [← hbl, ← hsp]
        rw [this, add_plainW]
      refine ⟨r, hsp, ⟨?_, ?_, ?_⟩, hrw⟩
      · have := hat 0 (by omega); rw [hadd] at this; exact this
      · have := hat 1 (by omega); rw [hadd] at this; exact this
      · have := hat 2 (by omega); rw [hadd] at this; exact this
    obtain ⟨acts, hlen, hacts⟩ := choose_listW len hall
    refine ⟨some a, len, cap, acts, rfl, ⟨hlen.symm, by simp, ?_⟩, hl, hm, fun r hr => by obtain ⟨i, hi⟩ := List.mem_iff_getElem?.1 hr; exact (hacts i r hi).2.2⟩
    rintro b o s e hne
    injection e with e
    subst e
    have hpos : 0 < acts.length := List.length_pos_iff.2 hne
    obtain ⟨r0, hr0⟩ : ∃ r, acts[0]? = some r := ⟨_, List.getElem?_eq_getElem hpos⟩
    have hs : s = none := by have := (hacts 0 r0 hr0).1; simpa [Addr.add] using this
    subst hs
    refine ⟨rfl, fun i r hr => ?_⟩
    have := (hacts i r hr).2.1
    rwa [add_plainW] at this
end

theorem nm_cleanL {l : List Nat} : ∀ {s : FS} {k : Nat}, s.nm.cleanL k l = ((s.cleanL k l).1, (s.cleanL k l).2.1, (s.cleanL k l).2.2.nm) := by
  induction l with
  | nil => intro s k; rfl
  | cons p l ih =>
    intro s k
    have hb : s.nm.blankP p = s.blankP p := rfl
    by_cases ho : s.off = true
    · rw [cleanL_off ho, cleanL_off (show s.nm.off = true from ho)]
    have ho2 : s.off = false := by simpa using ho
    by_cases hbl : s.blankP p = true
    · rw [cleanL_blank ho2 hbl, cleanL_blank (show s.nm.off = false from ho2) (by rw [hb]; exact hbl)]
      exact ih
    have hbl2 : s.blankP p = false := by simpa using hbl
    have he := nm_eraseP s (p : Int)
    by_cases hc : (s.eraseP (p : Int)).1 = 0
    · rw [cleanL_yes ho2 hbl2 hc, cleanL_yes (show s.nm.off = false from ho2) (by rw [hb]; exact hbl2) (by rw [he]; exact hc), he]
      exact ih
    · rw [cleanL_no ho2 hbl2 hc, cleanL_no (show s.nm.off = false from ho2) (by rw [hb]; exact hbl2) (by rw [he]; exact hc), he]
theorem nm_cleanR (s : FS) (G P : Nat) (x : Int) : cleanR s.nm G P x = ((cleanR s G P x).1, (cleanR s G P x).2.1, (cleanR s G P x).2.2.nm) := by
  unfold cleanR
  split
  · exact nm_cleanL
  · rfl

variable {W wr wx : World} {xb xw xe rb re : Nat} {s t s2 t2 : FS} {L : List (Nat × Obj)} {N : Nat} {G P : Nat}

theorem geo_nm (hg : s.Geo G P) : s.nm.Geo G P := ⟨hg.g, hg.p, hg.gb, hg.pb, hg.nb, hg.er⟩
/-- A word programmed into the document's flash, handed in a box. -/
theorem bo_refProg1 (h : Bo W wr xb xw xe rb re s2 s.nm L) (hg : s.Good N) (h16 : W16 s.w) (at_ : Int) (q : Nat) (n c : Nat) (xs : List Int) (hi : IntsAt wr (some ⟨q, 0, none⟩) n xs) (hn : n ≤ 1000000) {ob : Obj} (hq : (q, ob) ∈ L) (hN : N + n ≤ 1000000000) :
    Calls Try.prog 14 #[.pointer (some ⟨rb, 0, none⟩), .int .i64 at_, .slice (some ⟨q, 0, none⟩) n c] wr fun e w' => e = .returned (.int .i64 (s.prog at_ xs).1) ∧ Bo W w' xb xw xe rb re s2 (s.prog at_ xs).2.nm L := by
  obtain ⟨dx, gw, cw, lv, h1, h2⟩ := h
  have hcb := hg.hcb
  refine (refProgram_any1 h1.fr at_ (some ⟨q, 0, none⟩) n c xs hi hn (fun b o s' e hne hx => ?_) h16 (by simp only [FS.nm]; split <;> omega) hg.hwl (by have := hg.hd; show s.done.length + n ≤ _; omega)).mono ?_
  · injection e with e
    injection e with e1 e2 e3
    subst e1
    exact (h2 _ hq).fr.nr hx
  rintro e w' ⟨he, lv2, q1, q2, q3⟩
  rw [progR_eq, nm_prog] at he q1
  exact ⟨he, Bo.stepr h1 h2 q1 q2 (.inl rfl) q3⟩
theorem bo_clean (h : Bo W wr xb xw xe rb re s t L) (hgd : s.Good N) (hg : s.Geo G P) (x : Int) (hN : N ≤ 10000000) :
    Calls Try.prog 15 #[.pointer (some ⟨xb, 0, none⟩), .int .i64 x] wr fun e w' => e = .returned (.tuple #[.int .i64 ((cleanR s G P x).1 : Int), .int .i64 (cleanR s G P x).2.1]) ∧ Bo W w' xb xw xe rb re (cleanR s G P x).2.2 t L := by
  obtain ⟨dx, gw, cw, lv, h1, h2⟩ := h
  refine (Clean_any h1.fx hgd hg x hN).mono ?_
  rintro e w' ⟨he, dx2, q1, q2, q3⟩
  exact ⟨he, Bo.stepx h1 h2 q1 q2 q3⟩
theorem bo_refClean (h : Bo W wr xb xw xe rb re s2 s.nm L) (hgd : s.Good N) (h16 : W16 s.w) (hg : s.Geo G P) (x : Int) (hN : N ≤ 10000000) :
    Calls Try.prog 16 #[.pointer (some ⟨rb, 0, none⟩), .int .i64 x] wr fun e w' => e = .returned (.tuple #[.int .i64 ((cleanR s G P x).1 : Int), .int .i64 (cleanR s G P x).2.1]) ∧ Bo W w' xb xw xe rb re s2 (cleanR s G P x).2.2.nm L := by
  obtain ⟨dx, gw, cw, lv, h1, h2⟩ := h
  refine (refClean_any h1.fr (Good.nm hgd) h16 (geo_nm hg) x hN).mono ?_
  rw [nm_cleanR]
  rintro e w' ⟨he, lv2, q1, q2, q3⟩
  exact ⟨he, Bo.stepr h1 h2 q1 q2 (.inl rfl) q3⟩
theorem bo_blank (h : Bo W wr xb xw xe rb re s t L) (hgd : s.Good N) (hg : s.Geo G P) (x : Int) :
    Calls Try.prog 17 #[.pointer (some ⟨xb, 0, none⟩), .int .i64 x] wr fun e w' => e = .returned (.tuple #[.bool (blankR s x).1, .int .i64 (blankR s x).2]) ∧ Keeps [] wr w' := by
  obtain ⟨dx, gw, cw, lv, h1, h2⟩ := h
  exact Blank_any h1.fx hgd hg x
theorem bo_refBlank (h : Bo W wr xb xw xe rb re s2 s.nm L) (hgd : s.Good N) (hg : s.Geo G P) (x : Int) :
    Calls Try.prog 18 #[.pointer (some ⟨rb, 0, none⟩), .int .i64 x] wr fun e w' => e = .returned (.tuple #[.bool (blankR s x).1, .int .i64 (blankR s x).2]) ∧ Keeps [] wr w' := by
  obtain ⟨dx, gw, cw, lv, h1, h2⟩ := h
  refine (refBlank_any h1.fr (Good.nm hgd) (geo_nm hg) x).mono ?_
  rintro e w' ⟨he, m, rfl⟩
  exact ⟨he, (Keeps.refl _ _).drewN m⟩
theorem bo_words (h : Bo W wr xb xw xe rb re s t L) (hgd : s.Good N) (hg : s.Geo G P) (x : Int) :
    Calls Try.prog 21 #[.pointer (some ⟨xb, 0, none⟩), .int .i64 x] wr fun e w' => LCOut wr w' e (wordsR s G P x).1 (wordsR s G P x).2 := by
  obtain ⟨dx, gw, cw, lv, h1, h2⟩ := h
  exact Words_any h1.fx hgd hg x
theorem bo_refWords (h : Bo W wr xb xw xe rb re s2 s.nm L) (hgd : s.Good N) (hg : s.Geo G P) (x : Int) :
    Calls Try.prog 22 #[.pointer (some ⟨rb, 0, none⟩), .int .i64 x] wr fun e w' => LCOut wr w' e (wordsR s G P x).1 (wordsR s G P x).2 := by
  obtain ⟨dx, gw, cw, lv, h1, h2⟩ := h
  exact refWords_any h1.fr (Good.nm hgd) (geo_nm hg) x
theorem bo_pages (h : Bo W wr xb xw xe rb re s t L) (hg : s.Geo G P) (x : Int) :
    Calls Try.prog 24 #[.pointer (some ⟨xb, 0, none⟩), .int .i64 x] wr fun e w' => LCOut wr w' e (pagesR G P x).1 (pagesR G P x).2 := by
  obtain ⟨dx, gw, cw, lv, h1, h2⟩ := h
  exact Pages_any h1.fx hg x
theorem bo_refPages (h : Bo W wr xb xw xe rb re s2 s.nm L) (hg : s.Geo G P) (x : Int) :
    Calls Try.prog 25 #[.pointer (some ⟨rb, 0, none⟩), .int .i64 x] wr fun e w' => LCOut wr w' e (pagesR G P x).1 (pagesR G P x).2 := by
  obtain ⟨dx, gw, cw, lv, h1, h2⟩ := h
  exact refPages_any h1.fr (geo_nm hg) x
theorem bo_counts (h : Bo W wr xb xw xe rb re s t L) (hg : s.Geo G P) :
    Calls Try.prog 26 #[.pointer (some ⟨xb, 0, none⟩)] wr fun e w' => ∃ v, e = .returned v ∧ LOut wr w' v s.er.length s.er := by
  obtain ⟨dx, gw, cw, lv, h1, h2⟩ := h
  exact Counts_any h1.fx hg
/-- What stands in the document's flash, and goes on standing there while nothing turns. -/
theorem Bo.refAll (h : Bo W wr xb xw xe rb re s t L) : ∃ gw cw, ∀ wz, Keeps [] wr wz → (wz.cell? ⟨rb, 3, none⟩ = some (.slice (some ⟨gw, 0, none⟩) t.w.length cw) ∧ wz.cell? ⟨rb, 5, none⟩ = some (.slice (some ⟨re, 0, none⟩) t.er.length t.er.length)) ∧ IntsAt wz (some ⟨gw, 0, none⟩) t.w.length t.w ∧ IntsAt wz (some ⟨re, 0, none⟩) t.er.length t.er := by
  obtain ⟨dx, gw, cw, lv, h1, h2⟩ := h
  refine ⟨gw, cw, fun wz hk => ?_⟩
  have h3 := h1.fr.keep0 hk
  refine ⟨⟨h3.c3, h3.c5⟩, h3.hw.ints, rfl, (by simp), ?_⟩
  rintro b o s' e
  injection e with e
  injection e with e1 e2 e3
  subst e1; subst e2; subst e3
  exact fun _ => ⟨rfl, fun i hi => by rw [Nat.zero_add]; exact h3.ce hi⟩
theorem same_ints {a a' : Option Addr} {n c c' : Nat} {xs : List Int} {w : World} (h : IntsAt w a n xs) (h' : IntsAt w a' n xs) (hn : n ≤ 1000000) :
    Calls Try.prog 23 #[.slice a n c, .slice a' n c'] w fun e w' => e = .returned (.bool true) ∧ ∃ m, w' = w.drewN m := by
  have := sameInts_any a a' n n c c' xs xs w h h' (by unfold maxLen; omega) (by unfold maxLen; omega)
  rwa [decide_eq_true rfl] at this
theorem out_box {g : Nat} {ob : Obj} (h : (g, ob) ∈ L) : Out W L (some ⟨g, 0, none⟩) := by
  intro b o s e
  injection e with e
  injection e with e1 _ _
  subst e1
  exact .inr ⟨ob, h⟩

end Go.Proofs.Ytcaphgokckkmfaa
