/- What a flash with a cut and one without come to, behind the same acts: plain facts. -/
import Derived.Test.YtjebflafbkmokaaU
namespace Go.Proofs.Ytjebflafbkmokaa
open Go.RowKit
set_option linter.unusedVariables false

theorem foldl_w {l : List Raw3} : ∀ {s t : FS}, s.w = t.w → (l.foldl FS.put s).w = (l.foldl FS.put t).w := by
  induction l with
  | nil => intro s t h; exact h
  | cons r l ih => intro s t h; exact ih (by simp only [FS.put, h])
theorem foldl_done {l : List Raw3} : ∀ {s : FS}, (l.foldl FS.put s).done = s.done ++ l := by
  induction l with
  | nil => intro s; simp
  | cons r l ih => intro s; rw [List.foldl_cons, ih]; simp [FS.put]
theorem foldl_off {l : List Raw3} : ∀ {s : FS}, (l.foldl FS.put s).off = s.off := by
  induction l with
  | nil => intro s; rfl
  | cons r l ih => intro s; rw [List.foldl_cons, ih]; rfl
theorem foldl_n {l : List Raw3} : ∀ {s : FS}, (l.foldl FS.put s).n = s.n := by
  induction l with
  | nil => intro s; rfl
  | cons r l ih => intro s; rw [List.foldl_cons, ih]; rfl
theorem foldl_el {l : List Raw3} : ∀ {s : FS}, (l.foldl FS.put s).er.length = s.er.length := by
  induction l with
  | nil => intro s; rfl
  | cons r l ih => intro s; rw [List.foldl_cons, ih, put_er_length]
theorem foldl_cut {l : List Raw3} : ∀ {s : FS} {c : Nat}, s.cut = c → l.length ≤ c → (l.foldl FS.put s).cut = ((c - l.length : Nat) : Int) := by
  induction l with
  | nil => intro s c h _; simpa using h
  | cons r l ih =>
    intro s c h hl
    cases c with
    | zero => simp at hl
    | succ c =>
      rw [List.foldl_cons, ih (c := c) (by simp only [FS.put]; split <;> omega) (by simpa using hl)]
      simp

def RawIn (r : Raw3) : Prop := RawFits r ∧ 0 ≤ r.2.1 ∧ r.2.1 < 64

/-- sx: a flash with a cut of m; sy: one without; behind the same acts. -/
structure CutRel (m : Nat) (sx sy : FS) : Prop where
  calm : Calm sy
  wlx : sx.w.length = 64
  elx : sx.er.length = 4
  nx : sx.n = 16
  dx : sx.done = sy.done.take m
  wx : sx.w = ((sy.done.take m).foldl FS.put tw0).w
  st : (sy.done.length ≤ m ∧ sx.off = false ∧ sx.cut = ((m - sy.done.length : Nat) : Int)) ∨ (m < sy.done.length ∧ sx.off = true)
  rin : ∀ r ∈ sy.done, RawIn r

theorem CutRel.start (m : Nat) : CutRel m { tw0 with cut := (m : Int) } tw0 := by
  refine ⟨tw0_calm, tw0_calm.wl, tw0_calm.el, tw0_calm.n16, ?_, ?_, .inl ⟨?_, tw0_calm.off, ?_⟩, ?_⟩
  · have : tw0.done = [] := by decide +kernel
    show tw0.done = _
    rw [this]; simp
  · have : tw0.done = [] := by decide +kernel
    rw [this]; simp
  · have : tw0.done = [] := by decide +kernel
    rw [this]; simp
  · have : tw0.done = [] := by decide +kernel
    rw [this]; simp
  · have : tw0.done = [] := by decide +kernel
    rw [this]; simp

theorem CutRel.dead {m : Nat} {sx sy : FS} (h : CutRel m sx sy) (hd : m < sy.done.length) (ho : sx.off = true) {l : List Raw3} (hl : ∀ r ∈ l, RawIn r) : CutRel m sx (l.foldl FS.put sy) := by
  have e : (l.foldl FS.put sy).done.take m = sy.done.take m := by rw [foldl_done, List.take_append_of_le_length (by omega)]
  refine ⟨h.calm.foldl, h.wlx, h.elx, h.nx, by rw [e]; exact h.dx, by rw [e]; exact h.wx, .inr ⟨by rw [foldl_done]; simp; omega, ho⟩, ?_⟩
  rw [foldl_done]
  intro r hr
  rcases List.mem_append.1 hr with h1 | h1
  · exact h.rin r h1
  · exact hl r h1

theorem CutRel.run {m : Nat} {sx sy : FS} (h : CutRel m sx sy) (hd : sy.done.length ≤ m) (ho : sx.off = false) (hc : sx.cut = ((m - sy.done.length : Nat) : Int)) {l : List Raw3} (hl : ∀ r ∈ l, RawIn r) :
    CutRel m (FS.runL sx l).1 (l.foldl FS.put sy) := by
  have hrin : ∀ r ∈ (l.foldl FS.put sy).done, RawIn r := by
    rw [foldl_done]
    intro r hr
    rcases List.mem_append.1 hr with h1 | h1
    · exact h.rin r h1
    · exact hl r h1
  have hdx := h.dx
  rw [List.take_of_length_le hd] at hdx
  have hwx := h.wx
  rw [List.take_of_length_le hd] at hwx
  have hw : ∀ l' : List Raw3, (l'.foldl FS.put sx).w = ((sy.done ++ l').foldl FS.put tw0).w := by
    intro l'; rw [List.foldl_append]; exact foldl_w hwx
  rw [runL_pos hc]
  split
  · next hle =>
    have e : (l.foldl FS.put sy).done.take m = sy.done ++ l := by rw [foldl_done, List.take_of_length_le (by simp; omega)]
    refine ⟨h.calm.foldl, by rw [foldl_put_length]; exact h.wlx, by rw [foldl_el]; exact h.elx, by rw [foldl_n]; exact h.nx, by rw [e, foldl_done, hdx], by rw [e]; exact hw l, .inl ⟨?_, by rw [foldl_off]; exact ho, ?_⟩, hrin⟩
    · rw [foldl_done]; simp; omega
    · rw [foldl_cut hc hle, foldl_done]; simp; omega
  · next hle =>
    have e : (l.foldl FS.put sy).done.take m = sy.done ++ l.take (m - sy.done.length) := by rw [foldl_done, List.take_append, List.take_of_length_le hd]
    refine ⟨h.calm.foldl, by show (_ : List Int).length = _; rw [foldl_put_length]; exact h.wlx, by show (_ : List Int).length = _; rw [foldl_el]; exact h.elx, by show (List.foldl FS.put _ _).n = _; rw [foldl_n]; exact h.nx, ?_, ?_, .inr ⟨?_, rfl⟩, hrin⟩
    · show (List.foldl FS.put _ _).done = _
      rw [e, foldl_done, hdx]
    · show (List.foldl FS.put _ _).w = _
      rw [e]; exact hw _
    · rw [foldl_done]; simp; omega

theorem rawsOf_in {xs : List Int} {a : Int} (h1 : withinB 0 ((64 : Int) - xs.length) a = true) (h2 : fitB xs = true) : ∀ r ∈ rawsOf a xs, RawIn r := by
  intro r hr
  refine ⟨rawsOf_fits h2 r hr, ?_⟩
  obtain ⟨i, hi⟩ := List.mem_iff_getElem?.1 hr
  rw [rawsOf_get] at hi
  rw [withinB_iff] at h1
  cases hx : xs[i]? with
  | none => rw [hx] at hi; simp at hi
  | some x =>
    rw [hx] at hi
    have := (List.getElem?_eq_some_iff.1 hx).1
    simp at hi
    rw [← hi]
    simp only
    omega
theorem erasesOf_in {p : Int} (h1 : withinB 0 3 p = true) : ∀ r ∈ erasesOf (p * 16) 16, RawIn r := by
  intro r hr
  refine ⟨erasesOf_fits r hr, ?_⟩
  rw [withinB_iff] at h1
  simp only [erasesOf, List.mem_map, List.mem_range] at hr
  obtain ⟨i, hi, rfl⟩ := hr
  simp only
  omega

theorem CutRel.prog {m : Nat} {sx sy : FS} (h : CutRel m sx sy) (a : Int) (xs : List Int) : CutRel m (sx.prog a xs).2 (sy.prog a xs).2 := by
  unfold FS.prog
  rw [h.wlx, h.calm.wl]
  by_cases hc : (withinB 0 ((64 : Nat) - (xs.length : Int)) a && fitB xs) = true
  · rw [if_pos hc, if_pos hc]
    rw [Bool.and_eq_true] at hc
    have hin := rawsOf_in hc.1 hc.2
    have hy : (if sy.off = true then ((10 : Int), sy) else (codeOf (FS.runL sy (rawsOf a xs)).2, (FS.runL sy (rawsOf a xs)).1)).2 = (rawsOf a xs).foldl FS.put sy := by
      rw [h.calm.off, runL_neg (by rw [h.calm.cut]; omega)]; rfl
    rw [hy]
    rcases h.st with ⟨h1, h2, h3⟩ | ⟨h1, h2⟩
    · rw [h2]
      exact h.run h1 h2 h3 hin
    · rw [h2]
      exact h.dead h1 h2 hin
  · rw [if_neg hc, if_neg hc]; exact h
theorem CutRel.eraseP {m : Nat} {sx sy : FS} (h : CutRel m sx sy) (p : Int) : CutRel m (sx.eraseP p).2 (sy.eraseP p).2 := by
  unfold FS.eraseP
  rw [h.elx, h.calm.el, h.nx, h.calm.n16]
  by_cases hc : withinB 0 (((4 : Nat) : Int) - 1) p = true
  · rw [if_pos hc, if_pos hc]
    have hin := erasesOf_in (p := p) (by simpa using hc)
    have hy : (if sy.off = true then ((10 : Int), sy) else (codeOf (FS.runL sy (erasesOf (p * 16) (16 : Int).toNat)).2, (FS.runL sy (erasesOf (p * 16) (16 : Int).toNat)).1)).2 = (erasesOf (p * 16) 16).foldl FS.put sy := by
      rw [h.calm.off, runL_neg (by rw [h.calm.cut]; omega)]; rfl
    rw [hy]
    rcases h.st with ⟨h1, h2, h3⟩ | ⟨h1, h2⟩
    · rw [h2]
      exact h.run h1 h2 h3 hin
    · rw [h2]
      exact h.dead h1 h2 hin
  · rw [if_neg hc, if_neg hc]; exact h
theorem CutRel.act {m : Nat} {sx sy : FS} (h : CutRel m sx sy) (r : ActR) : CutRel m (sx.act r) (sy.act r) := by
  unfold FS.act; split
  · exact h.eraseP _
  · exact h.prog _ _
theorem CutRel.plays {m : Nat} {acts : List ActR} : ∀ {sx sy : FS}, CutRel m sx sy → CutRel m (sx.plays acts) (sy.plays acts) := by
  induction acts with
  | nil => intro sx sy h; exact h
  | cons r l ih => intro sx sy h; exact ih (sx := sx.act r) (sy := sy.act r) (h.act r)

end Go.Proofs.Ytjebflafbkmokaa
