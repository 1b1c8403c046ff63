
/- Wear, plain facts: pages, their words, which are blank, and what cleaning does to a flash's state. No program. -/
import Derived.Test.YtcaphgokckkmfaaLU
import Derived.Test.YtcaphgokckkmfaaMP
namespace Go.Proofs.Ytcaphgokckkmfaa
open Go.RowKit
set_option maxRecDepth 100000
set_option linter.unusedVariables false
set_option linter.unusedSimpArgs false

/-- Numbers from a first one on. -/
def pagesI (first : Int) (many : Nat) : List Int := (List.range many).map fun (i : Nat) => first + (i : Int)
theorem pagesI_len (f : Int) (m : Nat) : (pagesI f m).length = m := by simp [pagesI]
theorem pagesI_succ (f : Int) (m : Nat) : pagesI f (m + 1) = pagesI f m ++ [f + (m : Int)] := by simp [pagesI, List.range_succ]
theorem pagesI_get {f : Int} {m i : Nat} (h : i < m) : (pagesI f m).getD i 0 = f + (i : Int) := by simp [pagesI, List.getD, h]
def pagesN (first many : Nat) : List Nat := (List.range many).map fun i => first + i
theorem pagesN_len (f m : Nat) : (pagesN f m).length = m := by simp [pagesN]
theorem pagesN_get {f m i : Nat} (h : i < m) : (pagesN f m)[i]? = some (f + i) := by simp [pagesN, h]
theorem pagesN_drop {f m i : Nat} (h : i < m) : (pagesN f m).drop i = (f + i) :: (pagesN f m).drop (i + 1) := by
  have hl : i < (pagesN f m).length := by rw [pagesN_len]; exact h
  rw [List.drop_eq_getElem_cons hl]
  congr 1
  have := pagesN_get (f := f) h
  rw [List.getElem?_eq_getElem hl] at this
  exact Option.some.inj this

/-- So many words from a place on. -/
def partL (w : List Int) (a n : Nat) : List Int := (w.drop a).take n
theorem partL_len {w : List Int} {a n : Nat} (h : a + n ≤ w.length) : (partL w a n).length = n := by simp [partL]; omega
theorem partL_succ {w : List Int} {a k : Nat} (h : a + k < w.length) : partL w a (k + 1) = partL w a k ++ [w.getD (a + k) 0] := by
  unfold partL
  rw [List.take_succ_eq_append_getElem (by simp; omega)]
  simp [List.getD, h]
theorem partL_get {w : List Int} {a n i : Nat} (h : a + n ≤ w.length) (hi : i < n) : (partL w a n).getD i 0 = w.getD (a + i) 0 := by
  simp [partL, List.getD, hi, List.getElem?_take, List.getElem?_drop]
def allBlank (l : List Int) : Bool := l.all (fun x => decide (x = 65535))
theorem allBlank_iff {l : List Int} : allBlank l = true ↔ ∀ x ∈ l, x = 65535 := by simp [allBlank]
theorem allBlank_part {w : List Int} {a n : Nat} (h : a + n ≤ w.length) : allBlank (partL w a n) = true ↔ ∀ i, i < n → w.getD (a + i) 0 = 65535 := by
  rw [allBlank_iff]
  constructor
  · intro hx i hi
    rw [← partL_get h hi]
    exact hx _ (by rw [List.getD, List.getElem?_eq_getElem (by rw [partL_len h]; exact hi)]; exact List.getElem_mem _)
  · intro hx x hm
    obtain ⟨i, hi, rfl⟩ := List.mem_iff_getElem.1 hm
    rw [partL_len h] at hi
    have := partL_get h hi
    rw [List.getD, List.getElem?_eq_getElem (by rw [partL_len h]; exact hi)] at this
    exact this.trans (hx i hi)
/-- Is a page blank? -/
def FS.blankP (s : FS) (page : Nat) : Bool := allBlank (partL s.w (page * s.n.toNat) s.n.toNat)
/-- Each of the pages that is not blank is erased, in order: how many, the code, the state. -/
def FS.cleanL : FS → Nat → List Nat → Nat × Int × FS
  | s, k, [] => (k, 0, s)
  | s, k, p :: l =>
    if s.off = true then (0, 10, s)
    else if s.blankP p = true then FS.cleanL s k l
    else if (s.eraseP (p : Int)).1 = 0 then FS.cleanL (s.eraseP (p : Int)).2 (k + 1) l
    else (0, (s.eraseP (p : Int)).1, (s.eraseP (p : Int)).2)
theorem cleanL_off {s : FS} {k p : Nat} {l : List Nat} (h : s.off = true) : s.cleanL k (p :: l) = (0, 10, s) := by simp [FS.cleanL, h]
theorem cleanL_blank {s : FS} {k p : Nat} {l : List Nat} (h : s.off = false) (hb : s.blankP p = true) : s.cleanL k (p :: l) = s.cleanL k l := by simp [FS.cleanL, h, hb]
theorem cleanL_yes {s : FS} {k p : Nat} {l : List Nat} (h : s.off = false) (hb : s.blankP p = false) (he : (s.eraseP (p : Int)).1 = 0) : s.cleanL k (p :: l) = (s.eraseP (p : Int)).2.cleanL (k + 1) l := by
  simp [FS.cleanL, h, hb, he]
theorem cleanL_no {s : FS} {k p : Nat} {l : List Nat} (h : s.off = false) (hb : s.blankP p = false) (he : ¬ (s.eraseP (p : Int)).1 = 0) : s.cleanL k (p :: l) = (0, (s.eraseP (p : Int)).1, (s.eraseP (p : Int)).2) := by
  simp [FS.cleanL, h, hb, he]

theorem FS.Good.size {s : FS} {N : Nat} (h : s.Good N) : s.w.length = s.er.length * s.n.toNat := by
  have h1 := h.hwe
  have h2 : (s.n.toNat : Int) = s.n := Int.toNat_of_nonneg (by have := h.hn.1; omega)
  rw [← h2] at h1
  exact_mod_cast h1
/-- A page's words are there. -/
theorem FS.Good.pageIn {s : FS} {N : Nat} (h : s.Good N) {p : Nat} (hp : p < s.er.length) : p * s.n.toNat + s.n.toNat ≤ s.w.length := by
  rw [h.size]
  have : (p + 1) * s.n.toNat ≤ s.er.length * s.n.toNat := Nat.mul_le_mul_right _ hp
  rw [Nat.add_mul, Nat.one_mul] at this
  exact this
theorem eraseP_same (s : FS) (p : Int) : (s.eraseP p).2.n = s.n ∧ (s.eraseP p).2.g = s.g ∧ (s.eraseP p).2.p = s.p ∧ (s.eraseP p).2.w.length = s.w.length ∧ (s.eraseP p).2.er.length = s.er.length := by
  have hr : ∀ (l : List Raw3) (t : FS), (FS.runL t l).1.n = t.n ∧ (FS.runL t l).1.g = t.g ∧ (FS.runL t l).1.p = t.p ∧ (FS.runL t l).1.w.length = t.w.length ∧ (FS.runL t l).1.er.length = t.er.length := by
    intro l
    induction l with
    | nil => intro t; exact ⟨rfl, rfl, rfl, rfl, rfl⟩
    | cons r l ih =>
      intro t
      by_cases hc : t.cut = 0
      · rw [runL_cut hc]; exact ⟨rfl, rfl, rfl, rfl, rfl⟩
      · rw [runL_cons hc]
        obtain ⟨h1, h2, h3, h4, h5⟩ := ih (t.put r)
        exact ⟨h1, h2, h3, h4.trans (FS.put_w_length t r), h5.trans (by simp only [FS.put]; split <;> simp)⟩
  unfold FS.eraseP
  split
  · split
    · exact ⟨rfl, rfl, rfl, rfl, rfl⟩
    · exact hr _ _
  · exact ⟨rfl, rfl, rfl, rfl, rfl⟩
theorem eraseP_code (s : FS) (p : Int) : (s.eraseP p).1 = 0 ∨ (s.eraseP p).1 = 2 ∨ (s.eraseP p).1 = 10 := by
  unfold FS.eraseP codeOf
  split
  · split
    · exact .inr (.inr rfl)
    · split
      · exact .inl rfl
      · exact .inr (.inr rfl)
  · exact .inr (.inl rfl)
/-- Cleaning keeps the bounds of a state. -/
theorem cleanL_good {l : List Nat} : ∀ {s : FS} {k N : Nat}, s.Good N → s.n ≤ 1024 → (s.cleanL k l).2.2.Good (N + 1024 * l.length) := by
  induction l with
  | nil => intro s k N h _; exact h
  | cons p l ih =>
    intro s k N h hn
    have he := h.eraseP (p : Int)
    have hs := eraseP_same s (p : Int)
    by_cases ho : s.off = true
    · rw [cleanL_off ho]; exact h.mono (by omega)
    have ho2 : s.off = false := by simpa using ho
    by_cases hb : s.blankP p = true
    · rw [cleanL_blank ho2 hb]; exact (ih h hn).mono (by simp; omega)
    have hb2 : s.blankP p = false := by simpa using hb
    by_cases hc : (s.eraseP (p : Int)).1 = 0
    · rw [cleanL_yes ho2 hb2 hc]; exact (ih he (by rw [hs.1]; exact hn)).mono (by simp; omega)
    · rw [cleanL_no ho2 hb2 hc]; exact he.mono (by simp; omega)
theorem cleanL_same {l : List Nat} : ∀ {s : FS} {k : Nat}, (s.cleanL k l).2.2.n = s.n ∧ (s.cleanL k l).2.2.g = s.g ∧ (s.cleanL k l).2.2.p = s.p ∧ (s.cleanL k l).2.2.w.length = s.w.length ∧ (s.cleanL k l).2.2.er.length = s.er.length := by
  induction l with
  | nil => intro s k; exact ⟨rfl, rfl, rfl, rfl, rfl⟩
  | cons p l ih =>
    intro s k
    have hs := eraseP_same s (p : Int)
    by_cases ho : s.off = true
    · rw [cleanL_off ho]; exact ⟨rfl, rfl, rfl, rfl, rfl⟩
    have ho2 : s.off = false := by simpa using ho
    by_cases hb : s.blankP p = true
    · rw [cleanL_blank ho2 hb]; exact ih
    have hb2 : s.blankP p = false := by simpa using hb
    by_cases hc : (s.eraseP (p : Int)).1 = 0
    · rw [cleanL_yes ho2 hb2 hc]
      obtain ⟨h1, h2, h3, h4, h5⟩ := ih (s := (s.eraseP (p : Int)).2) (k := k + 1)
      exact ⟨h1.trans hs.1, h2.trans hs.2.1, h3.trans hs.2.2.1, h4.trans hs.2.2.2.1, h5.trans hs.2.2.2.2⟩
    · rw [cleanL_no ho2 hb2 hc]; exact hs
theorem cleanL_w16 {l : List Nat} : ∀ {s : FS} {k : Nat}, W16 s.w → W16 (s.cleanL k l).2.2.w := by
  induction l with
  | nil => intro s k h; exact h
  | cons p l ih =>
    intro s k h
    by_cases ho : s.off = true
    · rw [cleanL_off ho]; exact h
    have ho2 : s.off = false := by simpa using ho
    by_cases hb : s.blankP p = true
    · rw [cleanL_blank ho2 hb]; exact ih h
    have hb2 : s.blankP p = false := by simpa using hb
    by_cases hc : (s.eraseP (p : Int)).1 = 0
    · rw [cleanL_yes ho2 hb2 hc]; exact ih (h.eraseP _)
    · rw [cleanL_no ho2 hb2 hc]; exact h.eraseP _
theorem cleanL_count {l : List Nat} : ∀ {s : FS} {k : Nat}, (s.cleanL k l).1 ≤ k + l.length := by
  induction l with
  | nil => intro s k; exact Nat.le_refl _
  | cons p l ih =>
    intro s k
    by_cases ho : s.off = true
    · rw [cleanL_off ho]; simp
    have ho2 : s.off = false := by simpa using ho
    by_cases hb : s.blankP p = true
    · rw [cleanL_blank ho2 hb]; have := ih (s := s) (k := k); simp; omega
    have hb2 : s.blankP p = false := by simpa using hb
    by_cases hc : (s.eraseP (p : Int)).1 = 0
    · rw [cleanL_yes ho2 hb2 hc]; have := ih (s := (s.eraseP (p : Int)).2) (k := k + 1); simp; omega
    · rw [cleanL_no ho2 hb2 hc]; simp
theorem cleanL_code {l : List Nat} : ∀ {s : FS} {k : Nat}, (s.cleanL k l).2.1 = 0 ∨ (s.cleanL k l).2.1 = 2 ∨ (s.cleanL k l).2.1 = 10 := by
  induction l with
  | nil => intro s k; exact .inl rfl
  | cons p l ih =>
    intro s k
    by_cases ho : s.off = true
    · rw [cleanL_off ho]; exact .inr (.inr rfl)
    have ho2 : s.off = false := by simpa using ho
    by_cases hb : s.blankP p = true
    · rw [cleanL_blank ho2 hb]; exact ih
    have hb2 : s.blankP p = false := by simpa using hb
    by_cases hc : (s.eraseP (p : Int)).1 = 0
    · rw [cleanL_yes ho2 hb2 hc]; exact ih
    · rw [cleanL_no ho2 hb2 hc]; exact eraseP_code s _

end Go.Proofs.Ytcaphgokckkmfaa
