/- What runs of raw writes come to, with a cut and without: plain facts on a flash's state. -/
import Derived.Test.YtjebflafbkmokaaW
import Derived.Test.YtjebflafbkmokaaQ
namespace Go.Proofs.Ytjebflafbkmokaa
open Go.RowKit
set_option linter.unusedVariables false

theorem runL_neg : ∀ {l : List Raw3} {s : FS}, s.cut < 0 → FS.runL s l = (l.foldl FS.put s, true) := by
  intro l
  induction l with
  | nil => intro s _; rfl
  | cons r l ih =>
    intro s h
    rw [runL_cons (by omega), ih (by simp only [FS.put]; split <;> omega)]
    rfl

theorem runL_pos : ∀ {l : List Raw3} {s : FS} {c : Nat}, s.cut = c →
    FS.runL s l = if l.length ≤ c then (l.foldl FS.put s, true) else ({ (l.take c).foldl FS.put s with off := true }, false) := by
  intro l
  induction l with
  | nil => intro s c _; simp [FS.runL]
  | cons r l ih =>
    intro s c h
    cases c with
    | zero => rw [runL_cut (by simpa using h)]; simp
    | succ c =>
      rw [runL_cons (by omega), ih (c := c) (by simp only [FS.put]; split <;> omega)]
      simp only [List.length_cons, Nat.add_le_add_iff_right, List.foldl_cons, List.take_succ_cons]

theorem foldl_put_length {l : List Raw3} : ∀ {s : FS}, (l.foldl FS.put s).w.length = s.w.length := by
  induction l with
  | nil => intro s; rfl
  | cons r l ih => intro s; rw [List.foldl_cons, ih, FS.put_w_length]
theorem put_er_length (s : FS) (r : Raw3) : (s.put r).er.length = s.er.length := by simp only [FS.put]; split <;> simp

structure Calm (s : FS) : Prop where
  cut : s.cut = -1
  off : s.off = false
  wl : s.w.length = 64
  el : s.er.length = 4
  n16 : s.n = 16

theorem Calm.put {s : FS} (h : Calm s) (r : Raw3) : Calm (s.put r) :=
  ⟨by have := h.cut; simp only [FS.put]; split <;> omega, h.off, by rw [FS.put_w_length]; exact h.wl, by rw [put_er_length]; exact h.el, h.n16⟩
theorem Calm.foldl {l : List Raw3} : ∀ {s : FS}, Calm s → Calm (l.foldl FS.put s) := by
  induction l with
  | nil => intro s h; exact h
  | cons r l ih => intro s h; exact ih (h.put r)
theorem Calm.runL {s : FS} (h : Calm s) (l : List Raw3) : Calm (FS.runL s l).1 := by
  rw [runL_neg (by rw [h.cut]; omega)]; exact h.foldl
theorem Calm.prog {s : FS} (h : Calm s) (a : Int) (xs : List Int) : Calm (s.prog a xs).2 := by
  unfold FS.prog; split
  · split
    · exact h
    · exact h.runL _
  · exact h
theorem Calm.eraseP {s : FS} (h : Calm s) (p : Int) : Calm (s.eraseP p).2 := by
  unfold FS.eraseP; split
  · split
    · exact h
    · exact h.runL _
  · exact h
theorem Calm.act {s : FS} (h : Calm s) (r : ActR) : Calm (s.act r) := by
  unfold FS.act; split
  · exact h.eraseP _
  · exact h.prog _ _
theorem Calm.plays {acts : List ActR} : ∀ {s : FS}, Calm s → Calm (s.plays acts) := by
  induction acts with
  | nil => intro s h; exact h
  | cons r l ih => intro s h; exact ih (s := s.act r) (h.act r)
theorem tw0_calm : Calm tw0 := ⟨by decide +kernel, by decide +kernel, by decide +kernel, by decide +kernel, by decide +kernel⟩

theorem erasesOf_succ (f : Int) (m : Nat) : erasesOf f (m + 1) = erasesOf f m ++ [(true, f + (m : Int), (65535 : Int))] := by
  simp [erasesOf, List.range_succ]
theorem erasesOf_take (f : Int) (n c : Nat) (h : c ≤ n) : (erasesOf f n).take c = erasesOf f c := by
  simp only [erasesOf, ← List.map_take, List.take_range]
  rw [Nat.min_eq_left h]

/-- The words behind some of a page's erase writes. -/
theorem erases_w (f m : Nat) (s : FS) (h : f + m ≤ s.w.length) (i : Nat) :
    ((erasesOf f m).foldl FS.put s).w.getD i 0 = if f ≤ i ∧ i < f + m then 65535 else s.w.getD i 0 := by
  induction m with
  | zero => rw [if_neg (by omega)]; rfl
  | succ m ih =>
    rw [erasesOf_succ, List.foldl_append, List.foldl_cons, List.foldl_nil]
    have hq : ((f : Int) + (m : Int)).toNat = f + m := by omega
    simp only [FS.put, hq, wordAfter, if_true]
    by_cases hi : i = f + m
    · subst hi
      rw [if_pos (by omega)]
      simp only [List.getD]
      rw [List.getElem?_set_self (by rw [foldl_put_length]; omega)]
      rfl
    · simp only [List.getD] at ih ⊢
      rw [List.getElem?_set_ne (by omega), ih (by omega)]
      by_cases h1 : f ≤ i ∧ i < f + m
      · rw [if_pos h1, if_pos (by omega)]
      · rw [if_neg h1, if_neg (by omega)]

theorem foldl_put_n {l : List Raw3} : ∀ {s : FS}, (l.foldl FS.put s).n = s.n := by
  induction l with
  | nil => intro s; rfl
  | cons r l ih => intro s; rw [List.foldl_cons, ih, FS.put_n]

/-- The counts behind some of a page's erase writes. -/
theorem erases_er (p m : Nat) (s : FS) (h16 : s.n = 16) (hm : m ≤ 16) :
    ((erasesOf ((p : Int) * 16) m).foldl FS.put s).er = if m = 0 then s.er else s.er.set p (s.er.getD p 0 + 1) := by
  induction m with
  | zero => rfl
  | succ m ih =>
    rw [erasesOf_succ, List.foldl_append, List.foldl_cons, List.foldl_nil, if_neg (by omega)]
    simp only [FS.put, foldl_put_n, h16]
    by_cases h0 : m = 0
    · subst h0
      have e1 : ((p : Int) * 16 + ((0 : Nat) : Int)) % 16 = 0 := by omega
      have e2 : (((p : Int) * 16 + ((0 : Nat) : Int)) / 16).toNat = p := by omega
      rw [if_pos ⟨trivial, e1⟩, e2, ih (by omega)]
      simp
    · have e1 : ¬ ((p : Int) * 16 + (m : Int)) % 16 = 0 := by omega
      rw [if_neg (fun h => e1 h.2), ih (by omega), if_neg h0]

/-- A page's erase with a cut of m, of a flash that no cut has met. -/
theorem erase_cut {s : FS} (h : Calm s) (p m : Nat) (hp : p < 4) :
    ({ s with cut := (m : Int) } : FS).eraseP p = (if 16 ≤ m then 0 else 10, ({ s with cut := (m : Int) } : FS).eraseP p |>.2) ∧
      (∀ i, (({ s with cut := (m : Int) } : FS).eraseP p).2.w.getD i 0 = if p * 16 ≤ i ∧ i < p * 16 + min m 16 then 65535 else s.w.getD i 0) ∧
      (({ s with cut := (m : Int) } : FS).eraseP p).2.w.length = 64 ∧ (({ s with cut := (m : Int) } : FS).eraseP p).2.er.length = 4 ∧
      (({ s with cut := (m : Int) } : FS).eraseP p).2.er.getD p 0 = s.er.getD p 0 + (min 1 m : Nat) := by
  have hw : withinB 0 ((s.er.length : Int) - 1) p = true := by rw [withinB_iff, h.el]; omega
  have he : ({ s with cut := (m : Int) } : FS).eraseP p = (codeOf (FS.runL { s with cut := (m : Int) } (erasesOf ((p : Int) * 16) 16)).2, (FS.runL { s with cut := (m : Int) } (erasesOf ((p : Int) * 16) 16)).1) := by
    unfold FS.eraseP
    rw [if_pos hw, if_neg (by rw [h.off]; simp)]
    simp only [h.n16]
    rfl
  have hr := runL_pos (l := erasesOf ((p : Int) * 16) 16) (s := { s with cut := (m : Int) }) (c := m) rfl
  rw [erasesOf_length] at hr
  have hf : (p : Int) * 16 = ((p * 16 : Nat) : Int) := by omega
  have hset : ∀ x, (s.er.set p x).getD p 0 = x := fun x => by simp only [List.getD]; rw [List.getElem?_set_self (by rw [h.el]; exact hp)]; rfl
  rw [he, hr]
  by_cases h16 : 16 ≤ m
  · rw [if_pos h16]
    have hm : min m 16 = 16 := by omega
    have hw2 := fun i => erases_w (p * 16) 16 { s with cut := (m : Int) } (by show p * 16 + 16 ≤ s.w.length; rw [h.wl]; omega) i
    have he2 := erases_er p 16 { s with cut := (m : Int) } h.n16 (by omega)
    rw [if_neg (by omega)] at he2
    refine ⟨by rw [if_pos h16]; rfl, ?_, ?_, ?_, ?_⟩
    · intro i; rw [hm, hf]; exact hw2 i
    · show (List.foldl FS.put _ _).w.length = 64; rw [foldl_put_length]; exact h.wl
    · show (List.foldl FS.put _ _).er.length = 4; rw [he2, List.length_set]; exact h.el
    · show (List.foldl FS.put _ _).er.getD p 0 = _; rw [he2, hset]; have : min 1 m = 1 := by omega
      rw [this]; rfl
  · rw [if_neg h16, erasesOf_take _ _ _ (by omega)]
    have hm : min m 16 = m := by omega
    have hw2 := fun i => erases_w (p * 16) m { s with cut := (m : Int) } (by show p * 16 + m ≤ s.w.length; rw [h.wl]; omega) i
    have he2 := erases_er p m { s with cut := (m : Int) } h.n16 (by omega)
    refine ⟨by rw [if_neg h16]; rfl, ?_, ?_, ?_, ?_⟩
    · intro i; rw [hm, hf]; exact hw2 i
    · show (List.foldl FS.put _ _).w.length = 64; rw [foldl_put_length]; exact h.wl
    · show (List.foldl FS.put _ _).er.length = 4; rw [he2]; split
      · exact h.el
      · rw [List.length_set]; exact h.el
    · show (List.foldl FS.put _ _).er.getD p 0 = _; rw [he2]
      by_cases h0 : m = 0
      · rw [if_pos h0, h0]; simp
      · rw [if_neg h0, hset]; have : min 1 m = 1 := by omega
        rw [this]; rfl

end Go.Proofs.Ytjebflafbkmokaa
