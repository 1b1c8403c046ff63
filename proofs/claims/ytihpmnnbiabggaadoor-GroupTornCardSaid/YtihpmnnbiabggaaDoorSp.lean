
/- slot: a record and its words: plain facts, no program. -/
import Derived.Test.YtihpmnnbiabggaaDoorPa
import Derived.Test.YtihpmnnbiabggaaDoorCr
import Derived.Test.YtihpmnnbiabggaaDoorSb
namespace Go.Proofs.YtihpmnnbiabggaaDoor
open Go.RowKit
set_option maxRecDepth 100000
set_option linter.unusedVariables false

def wordB (x : Int) : Bool := decide (0 ≤ x ∧ x ≤ 65535)
/-- May a record be? -/
def rightB (l : List Int) : Bool := decide (0 ≤ l.getD 0 0 ∧ l.getD 0 0 ≤ 4) && (decide (0 ≤ l.getD 1 0 ∧ l.getD 1 0 ≤ 4294967295) && (l.drop 2).all wordB)
/-- A record's words but for the last two; all. -/
def headL (l : List Int) : List Int := (23040 + l.getD 0 0) :: (l.getD 1 0 / 65536) :: (l.getD 1 0 % 65536) :: l.drop 2
def wordsL (l : List Int) : List Int := headL l ++ [(crcI 65535 (headL l) : Int), 21930]
def wordsR (l : List Int) : Int × List Int := if rightB l = true then (0, wordsL l) else (2, [])
theorem headL_len {l : List Int} (h : l.length = 13) : (headL l).length = 14 := by simp [headL, h]
theorem wordsL_len {l : List Int} (h : l.length = 13) : (wordsL l).length = 16 := by simp [wordsL, headL_len h]

/-- What is read of words. -/
def recOf (xs : List Int) : List Int := (xs.getD 0 0 - 23040) :: (xs.getD 1 0 * 65536 + xs.getD 2 0) :: (xs.drop 3).take 11
def wholeB (xs : List Int) : Bool := rightB (recOf xs) && decide (wordsL (recOf xs) = xs)
def readR (xs : List Int) : Int × List Int := if xs.length = 16 then (if wholeB xs = true then (0, recOf xs) else (60, zer 13)) else (2, zer 13)
theorem recOf_len {xs : List Int} (h : xs.length = 16) : (recOf xs).length = 13 := by simp [recOf, h]
theorem readR_len (xs : List Int) : (readR xs).2.length = 13 := by
  unfold readR
  split
  · rename_i h
    split
    · exact recOf_len h
    · simp [zer]
  · simp [zer]

theorem rec13 {l : List Int} (h : l.length = 13) : l = l.getD 0 0 :: l.getD 1 0 :: l.drop 2 := by
  match l, h with
  | a :: b :: t, _ => rfl
theorem recOf_words {l : List Int} (h : l.length = 13) : recOf (wordsL l) = l := by
  have h2 : (l.drop 2).length = 11 := by simp [h]
  conv => rhs; rw [rec13 h]
  simp only [recOf, wordsL, headL, List.cons_append, List.getD_cons_zero, List.getD_cons_succ, List.drop_succ_cons, List.drop_zero]
  rw [List.take_append_of_le_length (by omega), List.take_of_length_le (by omega)]
  congr 1
  · omega
  · congr 1
    omega
theorem whole_of {r xs : List Int} (hr : r.length = 13) (hb : rightB r = true) (h : wordsL r = xs) : wholeB xs = true ∧ recOf xs = r := by
  subst h
  have e := recOf_words hr
  exact ⟨by unfold wholeB; rw [e, hb]; simp, e⟩
theorem whole_out {xs : List Int} (h : wholeB xs = true) : rightB (recOf xs) = true ∧ wordsL (recOf xs) = xs := by
  unfold wholeB at h
  simpa using h
theorem read_words {l : List Int} (h : l.length = 13) (hb : rightB l = true) : readR (wordsL l) = (0, l) := by
  obtain ⟨h1, h2⟩ := whole_of h hb rfl
  unfold readR
  rw [if_pos (wordsL_len h), if_pos h1, h2]

theorem right_out {l : List Int} (h : rightB l = true) : (0 ≤ l.getD 0 0 ∧ l.getD 0 0 ≤ 4) ∧ (0 ≤ l.getD 1 0 ∧ l.getD 1 0 ≤ 4294967295) ∧ ∀ x ∈ l.drop 2, 0 ≤ x ∧ x ≤ 65535 := by
  unfold rightB at h
  simp only [Bool.and_eq_true, decide_eq_true_eq, List.all_eq_true, wordB] at h
  exact ⟨h.1, h.2.1, h.2.2⟩
theorem right_in {l : List Int} (h : (0 ≤ l.getD 0 0 ∧ l.getD 0 0 ≤ 4) ∧ (0 ≤ l.getD 1 0 ∧ l.getD 1 0 ≤ 4294967295) ∧ ∀ x ∈ l.drop 2, 0 ≤ x ∧ x ≤ 65535) : rightB l = true := by
  unfold rightB
  simp only [Bool.and_eq_true, decide_eq_true_eq, List.all_eq_true, wordB]
  exact ⟨h.1, h.2.1, h.2.2⟩
theorem headL_words {l : List Int} (h : rightB l = true) : ∀ x ∈ headL l, 0 ≤ x ∧ x ≤ 65535 := by
  obtain ⟨h1, h2, h3⟩ := right_out h
  intro x hx
  simp only [headL, List.mem_cons] at hx
  rcases hx with rfl | rfl | rfl | hx
  · omega
  · omega
  · omega
  · exact h3 x hx
theorem words_words {l : List Int} (h : rightB l = true) : ∀ x ∈ wordsL l, 0 ≤ x ∧ x ≤ 65535 := by
  intro x hx
  have hc := crc_le (s := 65535) (xs := headL l)
  simp only [wordsL, List.mem_append, List.mem_cons, List.not_mem_nil, or_false] at hx
  rcases hx with hx | rfl | rfl
  · exact headL_words h x hx
  · omega
  · omega
/-- The last word is the mark, the first one no blank. -/
theorem words_last {l : List Int} (h : l.length = 13) : (wordsL l).getD 15 0 = 21930 := by
  have := headL_len h
  simp [wordsL, List.getD, this]
theorem words_sum {l : List Int} (h : l.length = 13) : (wordsL l).getD 14 0 = (crcI 65535 (headL l) : Int) := by
  have := headL_len h
  simp [wordsL, List.getD, this]
theorem words_head {l : List Int} (h : l.length = 13) : (wordsL l).take 14 = headL l := by
  rw [wordsL, List.take_append_of_le_length (by rw [headL_len h]; omega), List.take_of_length_le (by rw [headL_len h]; omega)]
theorem words_first (l : List Int) : (wordsL l).getD 0 0 = 23040 + l.getD 0 0 := rfl

/-- Numbers into words: what pack puts. -/
theorem put_one (p : List Int) : putR 1 false p = if p.all wordB = true then (0, p) else (2, []) := by
  have hf : ∀ x, fitB 1 false x = wordB x := by
    intro x
    unfold fitB wordB
    simp only [Bool.false_eq_true, if_false, full1]
    exact decide_eq_decide.2 (by omega)
  unfold putR
  have e1 : (1 : Int).toNat = 1 := rfl
  rw [e1]
  by_cases h : p.all wordB = true
  · rw [if_pos h, if_pos ⟨by omega, by omega, fun x hx => by rw [hf]; exact List.all_eq_true.1 h x hx⟩]
    congr 1
    have h2 := List.all_eq_true.1 h
    clear h
    induction p with
    | nil => rfl
    | cons x p ih =>
      have hx := h2 x (by simp)
      simp only [wordB, decide_eq_true_eq] at hx
      have e : flatW 1 (x :: p) = wd 1 x ++ flatW 1 p := rfl
      rw [e, ih (fun y hy => h2 y (by simp [hy]))]
      simp only [wd, List.nil_append, List.singleton_append]
      rw [Int.emod_eq_of_lt (by omega) (by omega)]
  · rw [if_neg h, if_neg]
    rintro ⟨_, _, h3⟩
    exact h (List.all_eq_true.2 fun x hx => by rw [← hf]; exact h3 x hx)
theorem put_two (s : Int) : putR 2 false [s] = if (0 ≤ s ∧ s ≤ 4294967295) then (0, [s / 65536, s % 65536]) else (2, []) := by
  have hf : fitB 2 false s = decide (0 ≤ s ∧ s ≤ 4294967295) := by
    unfold fitB
    simp only [Bool.false_eq_true, if_false, full2]
    exact decide_eq_decide.2 (by omega)
  unfold putR
  have e1 : (2 : Int).toNat = 2 := rfl
  rw [e1]
  by_cases h : 0 ≤ s ∧ s ≤ 4294967295
  · rw [if_pos h, if_pos ⟨by omega, by omega, fun x hx => by
      obtain rfl : x = s := by simpa using hx
      rw [hf]
      simpa using h⟩]
    congr 1
    show wd 2 s ++ [] = _
    simp only [wd, List.nil_append, List.append_nil, List.singleton_append]
    rw [Int.emod_eq_of_lt (a := s / 65536) (by omega) (by omega)]
  · rw [if_neg h, if_neg]
    rintro ⟨_, _, h3⟩
    have := h3 s (by simp)
    rw [hf] at this
    exact h (by simpa using this)

/-- Words that differ in one place have other sums. -/
theorem crc_one {P Q : List Int} {u v : Int} (h : crcI 65535 (P ++ u :: Q) = crcI 65535 (P ++ v :: Q)) : lo u = lo v := by
  have e : ∀ x, crcI 65535 (P ++ x :: Q) = CM.crc (CM.crc (crcI 65535 P) [lo x]) (Q.map lo) := by
    intro x
    unfold crcI
    rw [show P ++ x :: Q = P ++ [x] ++ Q by simp, List.map_append, List.map_append, CM.crc_append, CM.crc_append]
    rfl
  rw [e, e] at h
  have hl : ∀ x, CM.crc (crcI 65535 P) [lo x] < 65536 := fun x => CM.crc_lt crc_le (by intro w hw; simp at hw; subst hw; exact lo_lt x)
  have h1 := CM.crc_inj (hl u) (hl v) (by intro w hw; obtain ⟨x, _, rfl⟩ := List.mem_map.1 hw; exact lo_lt x) h
  have l16 : ∀ {a b : Nat}, a < 65536 → b < 65536 → a ^^^ b < 65536 := fun ha hb => Nat.xor_lt_two_pow (n := 16) ha hb
  have h2 := CM.dblN_inj (n := 16) (l16 (crc_le (s := 65535) (xs := P)) (lo_lt u)) (l16 crc_le (lo_lt v)) h1
  have h3 := congrArg (fun z => crcI 65535 P ^^^ z) h2
  simpa [← Nat.xor_assoc] using h3

/-- Of a record of which just the first few words are there nothing is read. -/
theorem whole_last {xs : List Int} (hl : xs.length = 16) (h : wholeB xs = true) : xs.getD 15 0 = 21930 := by
  obtain ⟨_, h2⟩ := whole_out h
  rw [← h2]
  exact words_last (recOf_len hl)
/-- .. nor of one of which a word is another one. -/
theorem whole_other {l : List Int} (h : l.length = 13) (hb : rightB l = true) {k : Nat} (hk : k < 16) {v : Int} (h0 : 0 ≤ v) (h1 : v < 65536) :
    wholeB ((wordsL l).set k v) = decide (v = (wordsL l).getD k 0) := by
  have hL := wordsL_len h
  by_cases he : v = (wordsL l).getD k 0
  · have hs : (wordsL l).set k v = wordsL l := by
      refine List.ext_getElem (by simp) fun i h1 h2 => ?_
      rw [List.getElem_set]
      split
      · rename_i e
        subst e
        rw [he]
        simp [List.getD, h2]
      · rfl
    rw [hs, (whole_of h hb rfl).1]
    simp [he]
  · rw [decide_eq_false he]
    refine Bool.eq_false_iff.2 fun hw => he ?_
    have hlen : ((wordsL l).set k v).length = 16 := by simp [hL]
    obtain ⟨r1, r2⟩ := whole_out hw
    have q := recOf_len hlen
    by_cases h15 : k = 15
    · subst h15
      have e1 := whole_last hlen hw
      have e2 := words_last h
      rw [e2]
      simpa [List.getD, hL] using e1
    · by_cases h14 : k = 14
      · subst h14
        have e1 := words_sum q
        have e2 := words_head q
        rw [r2] at e1 e2
        have e3 : ((wordsL l).set 14 v).take 14 = headL l := by rw [List.take_set, words_head h, List.set_eq_of_length_le (by rw [headL_len h]; omega)]
        rw [← e2, e3] at e1
        rw [words_sum h, ← e1]
        simp [List.getD, hL]
      · have hk14 : k < 14 := by omega
        have e1 := words_sum q
        have e2 := words_head q
        rw [r2] at e1 e2
        have e3 : ((wordsL l).set k v).take 14 = (headL l).set k v := by rw [List.take_set, words_head h]
        have e4 : ((wordsL l).set k v).getD 14 0 = (wordsL l).getD 14 0 := by
          simp only [List.getD]
          rw [List.getElem?_set_ne (by omega)]
        rw [e4, words_sum h, ← e2, e3] at e1
        have hl14 := headL_len h
        obtain ⟨P, u, Q, hP, hPl⟩ : ∃ P u Q, headL l = P ++ u :: Q ∧ P.length = k := ⟨(headL l).take k, (headL l)[k]'(by omega), (headL l).drop (k + 1), by rw [← List.drop_eq_getElem_cons, List.take_append_drop], by simp; omega⟩
        have e5 : (headL l).set k v = P ++ v :: Q := by rw [hP, List.set_append_right _ _ (by omega), show k - P.length = 0 by omega, List.set_cons_zero]
        have hu : (wordsL l).getD k 0 = u := by
          unfold wordsL
          rw [hP]
          simp [List.getD, ← hPl]
        rw [hu]
        have e6 : crcI 65535 (P ++ u :: Q) = crcI 65535 (P ++ v :: Q) := by rw [← hP, ← e5]; omega
        have e7 := crc_one e6
        have hub := headL_words hb u (by rw [hP]; simp)
        unfold lo at e7
        omega

end Go.Proofs.YtihpmnnbiabggaaDoor
