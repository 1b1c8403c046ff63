
/- What runs of raw writes, and a page's erase, come to, with a cut and without: plain facts on a flash's state. -/
import Derived.Test.YtcaphgokckkmfaaLU
namespace Go.Proofs.Ytcaphgokckkmfaa
open Go.RowKit
set_option maxRecDepth 100000
set_option linter.unusedVariables false
set_option linter.unusedSimpArgs false

theorem FS.put_n (s : FS) (r : Raw3) : (s.put r).n = s.n := rfl
theorem runL_neg : ∀ {l : List Raw3} {s : FS}, s.cut < 0 → FS.runL s l = (l.foldl FS.put s, true) := by
  intro l
  induction l with
  | nil => intro s _; rfl
  | cons r l ih =>
    intro s h
    rw [runL_cons (by omega), ih (by simp only [FS.put]; split <;> omega)]
    rfl
theorem runL_pos : ∀ {l : List Raw3} {s : FS} {c : Nat}, s.cut = c →
    FS.runL s l = if l.length ≤ c then (l.foldl FS.put s, true) else ({ (l.take c).foldl FS.put s with off := true }, false) := by
  intro l
  induction l with
  | nil => intro s c _; simp [FS.runL]
  | cons r l ih =>
    intro s c h
    cases c with
    | zero => rw [runL_cut (by simpa using h)]; simp
    | succ c =>
      rw [runL_cons (by omega), ih (c := c) (by simp only [FS.put]; split <;> omega)]
      simp only [List.length_cons, Nat.add_le_add_iff_right, List.foldl_cons, List.take_succ_cons]
theorem foldl_put_length {l : List Raw3} : ∀ {s : FS}, (l.foldl FS.put s).w.length = s.w.length := by
  induction l with
  | nil => intro s; rfl
  | cons r l ih => intro s; rw [List.foldl_cons, ih, FS.put_w_length]
theorem foldl_put_n {l : List Raw3} : ∀ {s : FS}, (l.foldl FS.put s).n = s.n := by
  induction l with
  | nil => intro s; rfl
  | cons r l ih => intro s; rw [List.foldl_cons, ih, FS.put_n]
theorem foldl_put_off {l : List Raw3} : ∀ {s : FS}, (l.foldl FS.put s).off = s.off := by
  induction l with
  | nil => intro s; rfl
  | cons r l ih => intro s; rw [List.foldl_cons, ih]; rfl
theorem foldl_put_cut {l : List Raw3} : ∀ {s : FS}, s.cut < 0 → (l.foldl FS.put s).cut = s.cut := by
  induction l with
  | nil => intro s _; rfl
  | cons r l ih =>
    intro s h
    have h2 : (s.put r).cut = s.cut := by simp only [FS.put]; rw [if_neg (by omega)]
    rw [List.foldl_cons, ih (by rw [h2]; exact h), h2]
theorem erasesOf_succ (f : Int) (m : Nat) : erasesOf f (m + 1) = erasesOf f m ++ [(true, f + (m : Int), (65535 : Int))] := by
  simp [erasesOf, List.range_succ]
theorem erasesOf_take (f : Int) (n c : Nat) (h : c ≤ n) : (erasesOf f n).take c = erasesOf f c := by
  simp only [erasesOf, ← List.map_take, List.take_range]
  rw [Nat.min_eq_left h]
/-- The words behind some of a page's erase writes. -/
theorem erases_w (f m : Nat) (s : FS) (h : f + m ≤ s.w.length) (i : Nat) :
    ((erasesOf f m).foldl FS.put s).w.getD i 0 = if f ≤ i ∧ i < f + m then 65535 else s.w.getD i 0 := by
  induction m with
  | zero => rw [if_neg (by omega)]; rfl
  | succ m ih =>
    rw [erasesOf_succ, List.foldl_append, List.foldl_cons, List.foldl_nil]
    have hq : ((f : Int) + (m : Int)).toNat = f + m := by omega
    simp only [FS.put, hq, wordAfter, if_true]
    by_cases hi : i = f + m
    · subst hi
      rw [if_pos (by omega)]
      simp only [List.getD]
      rw [List.getElem?_set_self (by rw [foldl_put_length]; omega)]
      rfl
    · simp only [List.getD] at ih ⊢
      rw [List.getElem?_set_ne (by omega), ih (by omega)]
      by_cases h1 : f ≤ i ∧ i < f + m
      · rw [if_pos h1, if_pos (by omega)]
      · rw [if_neg h1, if_neg (by omega)]
/-- The counts behind some of a page's erase writes. -/
theorem erases_er (p m n : Nat) (s : FS) (hn : s.n = (n : Int)) (h1 : 1 ≤ n) (hm : m ≤ n) :
    ((erasesOf (((p * n : Nat)) : Int) m).foldl FS.put s).er = if m = 0 then s.er else s.er.set p (s.er.getD p 0 + 1) := by
  induction m with
  | zero => rfl
  | succ m ih =>
    rw [erasesOf_succ, List.foldl_append, List.foldl_cons, List.foldl_nil, if_neg (by omega)]
    simp only [FS.put, foldl_put_n, hn]
    by_cases h0 : m = 0
    · subst h0
      have e1 : (((p * n : Nat) : Int) + ((0 : Nat) : Int)) % (n : Int) = 0 := by
        rw [show ((p * n : Nat) : Int) + ((0 : Nat) : Int) = ((p * n : Nat) : Int) by simp, ← Int.natCast_emod]
        simp
      have e2 : ((((p * n : Nat) : Int) + ((0 : Nat) : Int)) / (n : Int)).toNat = p := by
        rw [show ((p * n : Nat) : Int) + ((0 : Nat) : Int) = ((p * n : Nat) : Int) by simp, ← Int.natCast_ediv, Nat.mul_div_cancel _ (by omega)]
        rfl
      rw [if_pos ⟨trivial, e1⟩, e2, ih (by omega)]
      simp
    · have e1 : ¬ (((p * n : Nat) : Int) + (m : Int)) % (n : Int) = 0 := by
        rw [show ((p * n : Nat) : Int) + (m : Int) = ((p * n + m : Nat) : Int) by simp, ← Int.natCast_emod, Nat.mul_add_mod', Nat.mod_eq_of_lt (show m < n by omega)]
        omega
      rw [if_neg (fun h => e1 h.2), ih (by omega), if_neg h0]

/-- A page's erase, as far as the power lets. -/
theorem erase_some {s : FS} {N : Nat} (hg : s.Good N) {p : Nat} (hp : p < s.er.length) (ho : s.off = false) :
    ∃ m ≤ s.n.toNat, (∀ i, (s.eraseP (p : Int)).2.w.getD i 0 = if p * s.n.toNat ≤ i ∧ i < p * s.n.toNat + m then 65535 else s.w.getD i 0) ∧
      (s.eraseP (p : Int)).2.er = (if m = 0 then s.er else s.er.set p (s.er.getD p 0 + 1)) ∧
      ((s.eraseP (p : Int)).1 = 0 ∧ m = s.n.toNat ∧ (s.eraseP (p : Int)).2.off = false ∨ (s.eraseP (p : Int)).1 = 10 ∧ m < s.n.toNat) ∧
      (s.cut < 0 → (s.eraseP (p : Int)).1 = 0 ∧ (s.eraseP (p : Int)).2.cut = s.cut) := by
  have hn := hg.hn
  obtain ⟨n, hnn⟩ := Int.eq_ofNat_of_zero_le (show 0 ≤ s.n by omega)
  have htn : s.n.toNat = n := by rw [hnn]; rfl
  rw [htn]
  have hsz : s.w.length = s.er.length * n := by
    have h1 := hg.hwe
    rw [hnn] at h1
    exact_mod_cast h1
  have hin : p * n + n ≤ s.w.length := by
    rw [hsz]
    have : (p + 1) * n ≤ s.er.length * n := Nat.mul_le_mul_right _ hp
    rw [Nat.add_mul, Nat.one_mul] at this
    exact this
  have hpn : (p : Int) * s.n = ((p * n : Nat) : Int) := by rw [hnn]; exact (Int.natCast_mul p n).symm
  have he : s.eraseP (p : Int) = (codeOf (FS.runL s (erasesOf ((p * n : Nat) : Int) n)).2, (FS.runL s (erasesOf ((p * n : Nat) : Int) n)).1) := by
    unfold FS.eraseP
    rw [if_pos (by rw [fwithinB_iff]; omega), if_neg (by rw [ho]; simp), hpn, htn]
  have hlen : (erasesOf ((p * n : Nat) : Int) n).length = n := by simp [erasesOf]
  rw [he]
  have hall : FS.runL s (erasesOf ((p * n : Nat) : Int) n) = ((erasesOf ((p * n : Nat) : Int) n).foldl FS.put s, true) → (s.cut < 0 → ((erasesOf ((p * n : Nat) : Int) n).foldl FS.put s).cut = s.cut) →
      ∃ m ≤ n, (∀ i, (FS.runL s (erasesOf ((p * n : Nat) : Int) n)).1.w.getD i 0 = if p * n ≤ i ∧ i < p * n + m then 65535 else s.w.getD i 0) ∧
      (FS.runL s (erasesOf ((p * n : Nat) : Int) n)).1.er = (if m = 0 then s.er else s.er.set p (s.er.getD p 0 + 1)) ∧
      (codeOf (FS.runL s (erasesOf ((p * n : Nat) : Int) n)).2 = 0 ∧ m = n ∧ (FS.runL s (erasesOf ((p * n : Nat) : Int) n)).1.off = false ∨ codeOf (FS.runL s (erasesOf ((p * n : Nat) : Int) n)).2 = 10 ∧ m < n) ∧
      (s.cut < 0 → codeOf (FS.runL s (erasesOf ((p * n : Nat) : Int) n)).2 = 0 ∧ (FS.runL s (erasesOf ((p * n : Nat) : Int) n)).1.cut = s.cut) := by
    intro hr hc
    rw [hr]
    exact ⟨n, Nat.le_refl _, fun i => erases_w (p * n) n s hin i, erases_er p n n s hnn (by omega) (Nat.le_refl _), .inl ⟨rfl, rfl, by rw [foldl_put_off]; exact ho⟩, fun h => ⟨rfl, hc h⟩⟩
  by_cases hc : s.cut < 0
  · exact hall (runL_neg hc) (fun h => foldl_put_cut h)
  · obtain ⟨c, hcc⟩ := Int.eq_ofNat_of_zero_le (show 0 ≤ s.cut by omega)
    have hr := runL_pos (l := erasesOf ((p * n : Nat) : Int) n) hcc
    rw [hlen] at hr
    by_cases hcn : n ≤ c
    · rw [if_pos hcn] at hr
      exact hall hr (fun h => absurd h hc)
    · rw [if_neg hcn, erasesOf_take _ _ _ (by omega)] at hr
      rw [hr]
      exact ⟨c, by omega, fun i => erases_w (p * n) c s (by omega) i, erases_er p c n s hnn (by omega) (by omega), .inr ⟨rfl, by omega⟩, fun h => absurd h hc⟩

/-- A word programmed, where no cut is. -/
theorem prog_calm {s : FS} {q : Nat} {x : Int} (hc : s.cut < 0) (ho : s.off = false) (hq : q < s.w.length) (hx : 0 ≤ x ∧ x ≤ 65535) :
    (s.prog (q : Int) [x]).1 = 0 ∧ (s.prog (q : Int) [x]).2.w = s.w.set q (bits .and .i64 (s.w.getD q 0) x) ∧ (s.prog (q : Int) [x]).2.er = s.er ∧ (s.prog (q : Int) [x]).2.cut = s.cut ∧ (s.prog (q : Int) [x]).2.off = false ∧
      (s.prog (q : Int) [x]).2.n = s.n ∧ (s.prog (q : Int) [x]).2.g = s.g ∧ (s.prog (q : Int) [x]).2.p = s.p := by
  have hf : ffitB [x] = true := by simp [ffitB, fwithinB_iff]; omega
  have hh : fwithinB 0 ((s.w.length : Int) - ([x] : List Int).length) (q : Int) = true := by rw [fwithinB_iff]; simp; omega
  have he : s.prog (q : Int) [x] = (codeOf (FS.runL s (rawsOf (q : Int) [x])).2, (FS.runL s (rawsOf (q : Int) [x])).1) := by
    unfold FS.prog
    rw [if_pos (by rw [hh, hf]; rfl), if_neg (by rw [ho]; simp)]
  rw [he, runL_neg hc]
  have hcut : ((rawsOf (q : Int) [x]).foldl FS.put s).cut = s.cut := foldl_put_cut hc
  exact ⟨rfl, rfl, rfl, hcut, ho, rfl, rfl, rfl⟩

end Go.Proofs.Ytcaphgokckkmfaa
