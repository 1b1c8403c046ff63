
/- Wear, plain facts of the statements' flash (three groups of two pages of sixteen words): what cleaning a group comes to, with cuts and without. No program. -/
import Derived.Test.YtcaphgokckkmfaaLV
import Derived.Test.YtcaphgokckkmfaaEf
import Derived.Test.YtcaphgokckkmfaaLW
namespace Go.Proofs.Ytcaphgokckkmfaa
open Go.RowKit
set_option maxRecDepth 100000
set_option linter.unusedVariables false
set_option linter.unusedSimpArgs false

/-- The statements' flash, in use; no cut waits, and the power is on. -/
structure Sm (s : FS) (N : Nat) : Prop where
  good : s.Good N
  geo : s.Geo 3 2
  n16 : s.n = 16
  wl : s.w.length = 96
  el : s.er.length = 6
structure Cm3 (s : FS) (N : Nat) : Prop extends Sm s N where
  cut : s.cut = -1
  off : s.off = false
theorem Sm.tn {s : FS} {N : Nat} (h : Sm s N) : s.n.toNat = 16 := by rw [h.n16]; rfl
theorem Sm.blank {s : FS} {N : Nat} (h : Sm s N) {p : Nat} (hp : p < 6) : s.blankP p = true ↔ ∀ i, i < 16 → s.w.getD (p * 16 + i) 0 = 65535 := by
  unfold FS.blankP
  rw [h.tn]
  exact allBlank_part (by rw [h.wl]; omega)
theorem Sm.erase {s : FS} {N : Nat} (h : Sm s N) (p : Int) : Sm (s.eraseP p).2 (N + 16) := by
  obtain ⟨h1, h2, h3, h4, h5⟩ := eraseP_same s p
  have hg := h.good.eraseP p
  rw [h.tn] at hg
  exact ⟨hg, ⟨h2.trans h.geo.g, h3.trans h.geo.p, h.geo.gb, h.geo.pb, by rw [h1]; exact h.geo.nb, h5.trans h.geo.er⟩, h1.trans h.n16, h4.trans h.wl, h5.trans h.el⟩
theorem Sm.mono {s : FS} {N M : Nat} (h : Sm s N) (hm : N ≤ M) : Sm s M := ⟨h.good.mono hm, h.geo, h.n16, h.wl, h.el⟩
theorem Sm.cut {s : FS} {N : Nat} (h : Sm s N) (c : Int) (hc : -9223372036854775808 ≤ c ∧ c ≤ 9223372036854775807) : Sm { s with cut := c } N := ⟨h.good.setCut c hc, ⟨h.geo.g, h.geo.p, h.geo.gb, h.geo.pb, h.geo.nb, h.geo.er⟩, h.n16, h.wl, h.el⟩
theorem Sm.power {s : FS} {N : Nat} (h : Sm s N) : Cm3 { s with cut := -1, off := false } N :=
  ⟨⟨(h.good.setCut (-1) (by omega)).setOff false, ⟨h.geo.g, h.geo.p, h.geo.gb, h.geo.pb, h.geo.nb, h.geo.er⟩, h.n16, h.wl, h.el⟩, rfl, rfl⟩
theorem Cm3.mono {s : FS} {N M : Nat} (h : Cm3 s N) (hm : N ≤ M) : Cm3 s M := ⟨h.toSm.mono hm, h.cut, h.off⟩
theorem sm_fresh : Cm3 (FS.fresh 3 2 16) 0 := ⟨⟨FS.Good.fresh (by decide +kernel), ⟨by decide +kernel, by decide +kernel, by decide, by decide, by decide +kernel, by decide +kernel⟩, by decide +kernel, by decide +kernel, by decide +kernel⟩, by decide +kernel, by decide +kernel⟩
theorem Cm3.prog {s : FS} {N : Nat} (h : Cm3 s N) {q : Nat} (hq : q < 96) {x : Int} (hx : 0 ≤ x ∧ x ≤ 65535) : Cm3 (s.prog (q : Int) [x]).2 (N + 1) := by
  obtain ⟨h1, h2, h3, h4, h5, h6, h7, h8⟩ := prog_calm (by rw [h.cut]; omega) h.off (by rw [h.wl]; exact hq) hx
  have hg := h.good.prog (q : Int) [x]
  exact ⟨⟨hg, ⟨h7.trans h.geo.g, h8.trans h.geo.p, h.geo.gb, h.geo.pb, by rw [h6]; exact h.geo.nb, by rw [h3]; exact h.geo.er⟩, h6.trans h.n16, by rw [h2, List.length_set]; exact h.wl, by rw [h3]; exact h.el⟩, h4.trans h.cut, h5⟩

/-- A page that is not blank is erased, one that is is let be. -/
def FS.stepP (s : FS) (p : Nat) : FS := if s.blankP p = true then s else (s.eraseP (p : Int)).2
theorem Cm3.erase {s : FS} {N : Nat} (h : Cm3 s N) {p : Nat} (hp : p < 6) : (s.eraseP (p : Int)).1 = 0 ∧ Cm3 (s.eraseP (p : Int)).2 (N + 16) ∧
    (∀ i, (s.eraseP (p : Int)).2.w.getD i 0 = if p * 16 ≤ i ∧ i < p * 16 + 16 then 65535 else s.w.getD i 0) ∧ (s.eraseP (p : Int)).2.er = s.er.set p (s.er.getD p 0 + 1) := by
  obtain ⟨m, hm, h1, h2, h3, h4⟩ := erase_some h.good (p := p) (by rw [h.el]; exact hp) h.off
  obtain ⟨q1, q2⟩ := h4 (by rw [h.cut]; omega)
  rw [h.tn] at h1 h3 hm
  rcases h3 with ⟨_, rfl, ho⟩ | ⟨h3, _⟩
  · exact ⟨q1, ⟨h.toSm.erase _, q2.trans h.cut, ho⟩, h1, by rw [h2, if_neg (by omega)]⟩
  · omega
theorem Cm3.step {s : FS} {N : Nat} (h : Cm3 s N) {p : Nat} (hp : p < 6) : Cm3 (s.stepP p) (N + 16) ∧
    (∀ i, (s.stepP p).w.getD i 0 = if p * 16 ≤ i ∧ i < p * 16 + 16 then 65535 else s.w.getD i 0) ∧ (s.stepP p).er = (if s.blankP p = true then s.er else s.er.set p (s.er.getD p 0 + 1)) := by
  unfold FS.stepP
  by_cases hb : s.blankP p = true
  · rw [if_pos hb, if_pos hb]
    refine ⟨h.mono (by omega), fun i => ?_, rfl⟩
    split
    · rename_i hi
      have := (h.toSm.blank hp).1 hb (i - p * 16) (by omega)
      rwa [show p * 16 + (i - p * 16) = i by omega] at this
    · rfl
  · rw [if_neg hb, if_neg hb]
    obtain ⟨_, h1, h2, h3⟩ := h.erase hp
    exact ⟨h1, h2, h3⟩
theorem cleanL_step {s : FS} {N k : Nat} {l : List Nat} (h : Cm3 s N) {p : Nat} (hp : p < 6) : s.cleanL k (p :: l) = (s.stepP p).cleanL (if s.blankP p = true then k else k + 1) l := by
  unfold FS.stepP
  by_cases hb : s.blankP p = true
  · rw [cleanL_blank h.off hb, if_pos hb, if_pos hb]
  · rw [cleanL_yes h.off (by simpa using hb) (h.erase hp).1, if_neg hb, if_neg hb]
theorem pages_two (p : Nat) : pagesN p 2 = [p, p + 1] := rfl
theorem clean_grp (s : FS) {g : Nat} (hg : g < 3) : cleanR s 3 2 (g : Int) = s.cleanL 0 [2 * g, 2 * g + 1] := by
  unfold cleanR
  rw [if_pos (inB_iff.2 ⟨by omega, by omega⟩), show ((g : Int)).toNat = g from rfl, show g * 2 = 2 * g by omega]
  rfl
/-- A group is cleaned, where no cut is. -/
def FS.grpP (s : FS) (g : Nat) : FS := (s.stepP (2 * g)).stepP (2 * g + 1)
theorem Cm3.clean {s : FS} {N : Nat} (h : Cm3 s N) {g : Nat} (hg : g < 3) : Cm3 (s.grpP g) (N + 32) ∧ (cleanR s 3 2 (g : Int)).2 = (0, s.grpP g) ∧ (cleanR s 3 2 (g : Int)).1 ≤ 2 ∧
    (∀ i, (s.grpP g).w.getD i 0 = if 32 * g ≤ i ∧ i < 32 * g + 32 then 65535 else s.w.getD i 0) := by
  obtain ⟨a1, a2, a3⟩ := h.step (p := 2 * g) (by omega)
  obtain ⟨b1, b2, b3⟩ := a1.step (p := 2 * g + 1) (by omega)
  have e : cleanR s 3 2 (g : Int) = ((if (s.stepP (2 * g)).blankP (2 * g + 1) = true then (if s.blankP (2 * g) = true then 0 else 0 + 1) else (if s.blankP (2 * g) = true then 0 else 0 + 1) + 1), 0, s.grpP g) := by
    rw [clean_grp s hg, cleanL_step h (by omega), cleanL_step a1 (by omega)]
    rfl
  refine ⟨b1, by rw [e], by rw [e]; simp only; split <;> split <;> omega, fun i => ?_⟩
  show (FS.stepP (s.stepP (2 * g)) (2 * g + 1)).w.getD i 0 = _
  rw [b2, a2]
  by_cases h1 : 32 * g ≤ i ∧ i < 32 * g + 32
  · rw [if_pos h1]
    split
    · rfl
    · rw [if_pos (by omega)]
  · rw [if_neg h1, if_neg (by omega), if_neg (by omega)]
theorem grp_blank {s : FS} {N : Nat} (h : Cm3 s N) {g : Nat} (hg : g < 3) : (s.grpP g).blankP (2 * g) = true ∧ (s.grpP g).blankP (2 * g + 1) = true := by
  obtain ⟨h1, h2, h3, h4⟩ := h.clean hg
  refine ⟨(h1.toSm.blank (by omega)).2 (fun i hi => ?_), (h1.toSm.blank (by omega)).2 (fun i hi => ?_)⟩
  · rw [h4, if_pos (by omega)]
  · rw [h4, if_pos (by omega)]
/-- Cleaned again it stays. -/
theorem clean_again {s : FS} {N : Nat} (h : Cm3 s N) {g : Nat} (hg : g < 3) : cleanR (s.grpP g) 3 2 (g : Int) = (0, 0, s.grpP g) := by
  obtain ⟨h1, h2, h3, h4⟩ := h.clean hg
  obtain ⟨b1, b2⟩ := grp_blank h hg
  rw [clean_grp _ hg, cleanL_blank h1.off b1, cleanL_blank h1.off b2]
  rfl
/-- The counts behind it. -/
theorem grp_er {s : FS} {N : Nat} (h : Cm3 s N) {g : Nat} (hg : g < 3) (q : Nat) : (s.grpP g).er.getD q 0 = s.er.getD q 0 + (if (q = 2 * g ∨ q = 2 * g + 1) ∧ s.blankP q = false then 1 else 0) := by
  obtain ⟨a1, a2, a3⟩ := h.step (p := 2 * g) (by omega)
  obtain ⟨b1, b2, b3⟩ := a1.step (p := 2 * g + 1) (by omega)
  have hb2 : (s.stepP (2 * g)).blankP (2 * g + 1) = s.blankP (2 * g + 1) := by
    rw [Bool.eq_iff_iff, a1.toSm.blank (by omega), h.toSm.blank (by omega)]
    constructor
    · intro hh i hi
      have := hh i hi
      rwa [a2, if_neg (by omega)] at this
    · intro hh i hi
      rw [a2, if_neg (by omega)]
      exact hh i hi
  have hset : ∀ (l : List Int) (j : Nat) (x : Int), j < l.length → (l.set j x).getD q 0 = if q = j then x else l.getD q 0 := by
    intro l j x hj
    simp only [List.getD]
    by_cases hq : q = j
    · subst hq; rw [if_pos rfl, List.getElem?_set_self hj]; rfl
    · rw [if_neg hq, List.getElem?_set_ne (by omega)]
  show (FS.stepP (s.stepP (2 * g)) (2 * g + 1)).er.getD q 0 = _
  rw [b3, hb2]
  have hl1 : 2 * g + 1 < (s.stepP (2 * g)).er.length := by rw [a1.el]; omega
  have hl0 : 2 * g < s.er.length := by rw [h.el]; omega
  have ha : (s.stepP (2 * g)).er.getD q 0 = s.er.getD q 0 + (if q = 2 * g ∧ s.blankP q = false then 1 else 0) := by
    rw [a3]
    by_cases hb : s.blankP (2 * g) = true
    · rw [if_pos hb, if_neg (by rintro ⟨rfl, h2⟩; rw [hb] at h2; cases h2)]; simp
    · rw [if_neg hb, hset _ _ _ hl0]
      by_cases hq : q = 2 * g
      · subst hq; rw [if_pos rfl, if_pos ⟨rfl, by simpa using hb⟩]
      · rw [if_neg hq, if_neg (fun h => hq h.1)]; simp
  by_cases hb : s.blankP (2 * g + 1) = true
  · rw [if_pos hb, ha]
    by_cases hq : q = 2 * g
    · subst hq; simp
    · rw [if_neg (fun h => hq h.1)]
      rw [if_neg]
      rintro ⟨h1 | rfl, h2⟩
      · exact hq h1
      · rw [hb] at h2; cases h2
  · rw [if_neg hb, hset _ _ _ hl1]
    by_cases hq : q = 2 * g + 1
    · subst hq
      rw [if_pos rfl, if_pos ⟨.inr rfl, by simpa using hb⟩]
      rw [ha, if_neg (by omega)]; simp
    · rw [if_neg hq, ha]
      by_cases hq2 : q = 2 * g
      · subst hq2; simp
      · rw [if_neg (fun h => hq2 h.1), if_neg (fun h => by rcases h.1 with h | h; exact hq2 h; exact hq h)]

end Go.Proofs.Ytcaphgokckkmfaa
