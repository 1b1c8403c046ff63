
/- group: what may be put, and what is refused; torn slots; bounds: plain facts, no program. -/
import Derived.Test.YtihpmnnbiabggaaDoorGn
import Derived.Test.YtihpmnnbiabggaaDoorAm
namespace Go.Proofs.YtihpmnnbiabggaaDoor
open Go.RowKit
set_option maxRecDepth 100000
set_option linter.unusedVariables false

/-- What is put, or why not: a code, words, a place. -/
def gputR (xs : List Int) (q : Int) (first : Bool) (rs : List (List Int)) : Int × List Int × Int :=
  if 1 ≤ rs.length ∧ rs.length ≤ 4 ∧ putsOk q (-1) rs = true then
    (if (scanR xs).free + rs.length + 1 ≤ xs.length / 16 then (0, (putSlots q first rs).flatten, 16 * ((scanR xs).free : Int)) else (4, [], 0))
  else (2, [], 0)

/-- Records that may be put have a Sequence that may be. -/
theorem puts_seq {q last : Int} {rs : List (List Int)} (hl : ∀ r ∈ rs, r.length = 13) (h1 : 1 ≤ rs.length) (hp : putsOk q last rs = true) : 0 ≤ q ∧ q ≤ 4294967295 := by
  match rs, h1 with
  | r :: rs, _ =>
    have hr := hl r (by simp)
    simp only [putsOk, Bool.and_eq_true] at hp
    have := (right_out hp.1.1).2.1
    rwa [setSeq_seq hr] at this

/-- What is alive behind records laid down. -/
def liveRecs (live : List Int) : List (List Int) → List Int
  | [] => live
  | r :: rs => liveRecs (liveSet live (r.getD 0 0).toNat (r.drop 2)) rs
theorem live_recs {q : Int} : ∀ {rs : List (List Int)} {last : Int} (live : List Int), (∀ r ∈ rs, r.length = 13) → putsOk q last rs = true → liveAll live (rs.map fun r => wordsL (setSeq q r)) = liveRecs live rs
  | [], _, _, _, _ => rfl
  | r :: rs, last, live, hl, h => by
    have hr := hl r (by simp)
    simp only [putsOk, Bool.and_eq_true] at h
    have e := read_words (setSeq_len (q := q) hr) h.1.1
    simp only [List.map_cons, liveAll, e, setSeq_kind hr, setSeq_pay hr, liveRecs]
    exact live_recs _ (fun t ht => hl t (List.mem_cons_of_mem _ ht)) h.2
theorem liveSet_len {live p : List Int} {k : Nat} (hl : live.length = 44) (hk : k < 4) (hp : p.length = 11) : (liveSet live k p).length = 44 := by simp [liveSet, hl, hp]; omega

theorem read_right {s : List Int} (h : (readR s).1 = 0) : rightB (readR s).2 = true ∧ (readR s).2.length = 13 := by
  refine ⟨?_, readR_len s⟩
  unfold readR at h ⊢
  split at h
  · rename_i h16
    rw [if_pos h16]
    split at h
    · rename_i hw
      rw [if_pos hw]
      exact (whole_out hw).1
    · simp at h
  · simp at h
theorem liveAll_len {seq : Int} : ∀ {ss : List (List Int)} {last : Int} {live : List Int}, live.length = 44 → -1 ≤ last → recsOk seq last ss = true → (liveAll live ss).length = 44
  | [], _, _, h, _, _ => h
  | s :: ss, last, live, h, hlast, hr => by
    simp only [recsOk, Bool.and_eq_true, decide_eq_true_eq] at hr
    have h13 := readR_len s
    show (liveAll (liveSet live ((readR s).2.getD 0 0).toNat ((readR s).2.drop 2)) ss).length = 44
    exact liveAll_len (last := (readR s).2.getD 0 0) (liveSet_len h (by omega) (by simp [h13])) (by omega) hr.2
/-- Bounds of what is found. -/
structure Fits (f : Fnd) (n : Nat) : Prop where
  seq : 0 ≤ f.seq ∧ f.seq ≤ 4294967295
  live : f.live.length = 44
  com : 0 ≤ f.com ∧ f.com ≤ n
  free : f.free ≤ n
  not : f.has = false → f.seq = 0 ∧ f.live = zer 44 ∧ f.com = 0
theorem fits_step {prev : List (List Int)} {f : Fnd} {s : List Int} (h : Fits f prev.length) : Fits (stepS prev f s) (prev.length + 1) := by
  have hf : Fits (freeS prev f s) (prev.length + 1) := by
    unfold freeS
    split
    · exact ⟨h.seq, h.live, ⟨h.com.1, by have := h.com.2; omega⟩, by have := h.free; omega, h.not⟩
    · exact ⟨h.seq, h.live, ⟨h.com.1, by have := h.com.2; simp; omega⟩, Nat.le_refl _, h.not⟩
  unfold stepS
  split
  · rename_i hc
    unfold countsB at hc
    simp only [Bool.and_eq_true, decide_eq_true_eq] at hc
    have hr := read_right hc.1
    have h2 := (right_out hr.1).2.1
    refine ⟨h2, liveAll_len (seq := (readR s).2.getD 1 0) (last := -1) h.live (by omega) hc.2.2.2.1, ⟨by have := h.com.1; simp; omega, by have := h.com.2; simp; omega⟩, hf.free, fun e => by cases e⟩
  · exact hf
theorem fits_found (ss : List (List Int)) : Fits (foundL ss) ss.length := by
  suffices ∀ n (ss : List (List Int)), ss.length = n → Fits (foundL ss) ss.length from this _ ss rfl
  intro n
  induction n with
  | zero =>
    intro ss hl
    have : ss = [] := List.length_eq_zero_iff.1 hl
    subst this
    exact ⟨by simp [foundL, foundA, fnd0], by simp [foundL, foundA, fnd0, zer], by simp [foundL, foundA, fnd0], by simp [foundL, foundA, fnd0], fun _ => ⟨rfl, rfl, rfl⟩⟩
  | succ n ih =>
    intro ss hl
    have hne : ss ≠ [] := List.ne_nil_of_length_pos (by omega)
    obtain ⟨ts, t, rfl⟩ : ∃ ts t, ss = ts ++ [t] := ⟨ss.dropLast, ss.getLast hne, (List.dropLast_concat_getLast hne).symm⟩
    have h1 := ih ts (by simp at hl; omega)
    rw [foundL_snoc, List.length_append, List.length_singleton]
    exact fits_step h1
theorem fits_scan (xs : List Int) : Fits (scanR xs) (xs.length / 16) := by
  have := fits_found (slotsL xs)
  rwa [slotsL_len] at this

/-- The statements' records of all kinds. -/
def allL (n : Int) : List (List Int) := [0, 1, 2, 3].map fun k => k :: 0 :: amongI (wrap64 (n + k)) 65536 :: zer 10
theorem allL_len (n : Int) : ∀ r ∈ allL n, r.length = 13 := by
  intro r hr
  obtain ⟨k, _, rfl⟩ := List.mem_map.1 hr
  simp [zer]
theorem among_wordB (x : Int) : wordB (amongI x 65536) = true := by
  have := amongI_lt x 65536 (by omega) (by omega)
  unfold wordB
  simp; omega
theorem allL_right (n : Int) {q : Int} (hq : 0 ≤ q ∧ q ≤ 4294967295) : ∀ r ∈ allL n, rightB (setSeq q r) = true := by
  intro r hr
  simp only [allL, List.map_cons, List.map_nil, List.mem_cons, List.not_mem_nil, or_false] at hr
  have h0 : ∀ x ∈ zer 10, wordB x = true := by decide
  have h0' : (zer 10).all wordB = true := by decide
  rcases hr with rfl | rfl | rfl | rfl <;>
    · unfold rightB setSeq
      simp only [List.set_cons_succ, List.set_cons_zero, List.getD_cons_zero, List.getD_cons_succ, List.drop_succ_cons, List.drop_zero, List.all_cons, among_wordB, h0', Bool.and_true]
      simpa using hq
theorem allL_ok (n : Int) {q : Int} (hq : 0 ≤ q ∧ q ≤ 4294967295) {k : Nat} (hk : k ≤ 4) : putsOk q (-1) ((allL n).take k) = true := by
  have h := allL_right n hq
  have a0 := h (0 :: 0 :: amongI (wrap64 (n + 0)) 65536 :: zer 10) (by simp [allL])
  have a1 := h (1 :: 0 :: amongI (wrap64 (n + 1)) 65536 :: zer 10) (by simp [allL])
  have a2 := h (2 :: 0 :: amongI (wrap64 (n + 2)) 65536 :: zer 10) (by simp [allL])
  have a3 := h (3 :: 0 :: amongI (wrap64 (n + 3)) 65536 :: zer 10) (by simp [allL])
  rw [Int.add_zero] at a0
  obtain rfl | rfl | rfl | rfl | rfl : k = 0 ∨ k = 1 ∨ k = 2 ∨ k = 3 ∨ k = 4 := by omega
  all_goals simp [allL, putsOk, a0, a1, a2, a3]
theorem live_all (live : List Int) (hl : live.length = 44) (n : Int) : (liveRecs live (allL n)).getD 0 0 = amongI (wrap64 n) 65536 ∧ (liveRecs live (allL n)).getD 22 0 = amongI (wrap64 (n + 2)) 65536 := by
  have e : ∀ k : Nat, ∀ (lv p : List Int), k < 4 → lv.length = 44 → p.length = 11 → ∀ i, (liveSet lv k p).getD i 0 = if 11 * k ≤ i ∧ i < 11 * k + 11 then p.getD (i - 11 * k) 0 else lv.getD i 0 := by
    intro k lv p hk hlv hp i
    unfold liveSet
    simp only [List.getD]
    by_cases h1 : i < 11 * k
    · rw [List.getElem?_append_left (by simp; omega), List.getElem?_take, if_pos h1, if_neg (by omega)]
    · by_cases h2 : i < 11 * k + 11
      · rw [List.getElem?_append_right (by simp; omega), List.getElem?_append_left (by simp; omega), if_pos ⟨by omega, h2⟩]
        congr 2
        simp; omega
      · rw [List.getElem?_append_right (by simp; omega), List.getElem?_append_right (by simp; omega), List.getElem?_drop, if_neg (by omega)]
        congr 2
        simp; omega
  have z : ∀ x : Int, (x :: zer 10).length = 11 := fun x => by simp [zer]
  simp only [allL, List.map_cons, List.map_nil, liveRecs, List.getD_cons_zero, List.drop_succ_cons, List.drop_zero]
  have l0 := liveSet_len (k := 0) hl (by omega) (z (amongI (wrap64 (n + 0)) 65536))
  have l1 := liveSet_len (k := 1) l0 (by omega) (z (amongI (wrap64 (n + 1)) 65536))
  have l2 := liveSet_len (k := 2) l1 (by omega) (z (amongI (wrap64 (n + 2)) 65536))
  show (liveSet (liveSet (liveSet (liveSet live 0 _) 1 _) 2 _) 3 _).getD 0 0 = _ ∧ (liveSet (liveSet (liveSet (liveSet live 0 _) 1 _) 2 _) 3 _).getD 22 0 = _
  refine ⟨?_, ?_⟩
  · rw [e 3 _ _ (by omega) l2 (z _), if_neg (by omega), e 2 _ _ (by omega) l1 (z _), if_neg (by omega), e 1 _ _ (by omega) l0 (z _), if_neg (by omega), e 0 _ _ (by omega) hl (z _), if_pos (by omega)]
    simp
  · rw [e 3 _ _ (by omega) l2 (z _), if_neg (by omega), e 2 _ _ (by omega) l1 (z _), if_pos (by omega)]
    simp

/-- Torn slots: one word programmed. -/
def tornS (p : Nat) (v : Int) : List Int := (List.replicate 16 65535).set p v
theorem tornS_len (p : Nat) (v : Int) : (tornS p v).length = 16 := by simp [tornS]
theorem tornS_not {p : Nat} {v : Int} (hp : p < 16) (hv : v ≠ 65535) : blankB (tornS p v) = false ∧ ((readR (tornS p v)).1 ≠ 0 ∨ (isR (readR (tornS p v)).2).2.2 = false) := by
  have hg : ∀ i, i < 16 → (tornS p v).getD i 0 = if i = p then v else 65535 := by
    intro i hi
    unfold tornS
    simp only [List.getD]
    rw [List.getElem?_set]
    split
    · rename_i h
      subst h
      rw [if_pos (by simpa using hi), if_pos rfl]
      rfl
    · rename_i h
      rw [List.getElem?_replicate, if_pos hi, if_neg (fun e => h e.symm)]
      rfl
  refine ⟨?_, .inl ?_⟩
  · unfold blankB
    rw [Bool.and_eq_false_iff]
    right
    rw [List.all_eq_false]
    refine ⟨v, ?_, by simpa using hv⟩
    unfold tornS
    rw [List.mem_iff_getElem?]
    exact ⟨p, by simp [hp]⟩
  · intro h
    unfold readR at h
    rw [if_pos (tornS_len p v)] at h
    split at h
    · rename_i hw
      have h15 := whole_last (tornS_len p v) hw
      have h3 := whole_three (tornS_len p v) hw
      rw [hg 15 (by omega)] at h15
      rw [hg 0 (by omega)] at h3
      by_cases hp0 : (0 : Nat) = p
      · rw [if_neg (by omega)] at h15
        omega
      · rw [if_neg hp0] at h3
        omega
    · simp at h
/-- 7.5: torn slots behind change nothing but what is free. -/
theorem scan_torn {xs : List Int} {T : List (List Int)} (hT : ∀ s ∈ T, ∃ p v, p < 16 ∧ v ≠ 65535 ∧ s = tornS p v) (hr : (scanR xs).free + T.length ≤ xs.length / 16) :
    scanR (withB xs (16 * (scanR xs).free) T.flatten) = { scanR xs with free := (scanR xs).free + T.length } := by
  rw [scan_with (Nat.le_refl _) (by rintro s hs; obtain ⟨p, v, -, -, rfl⟩ := hT s hs; exact tornS_len p v) hr, found_recs _ _ _ (by
    intro s hs
    obtain ⟨p, v, hp, hv, rfl⟩ := hT s hs
    exact tornS_not hp hv)]
  split
  · rename_i h0
    subst h0
    simp
  · congr 1
    rw [List.length_take, slotsL_len]
    have := scan_free xs
    omega
/-- Blank slots behind change nothing. -/
theorem scan_pad (xs : List Int) (n : Nat) : scanR (xs.take (16 * (xs.length / 16)) ++ List.replicate (16 * n) 65535) = scanR xs := by
  unfold scanR
  rw [slots_split _ _ (by omega), foundL_append]
  have e : (slotsL xs).take (xs.length / 16) = slotsL xs := List.take_of_length_le (by rw [slotsL_len]; exact Nat.le_refl _)
  rw [e]
  refine found_blanks _ _ _ fun s hs => ?_
  have h16 := slotsL_mem s hs
  refine ⟨h16, ?_⟩
  obtain ⟨k, hk, rfl⟩ := List.mem_map.1 hs
  unfold blankB slotA
  unfold slotA at h16
  rw [h16]
  simp only [Bool.and_eq_true, List.all_eq_true, beq_iff_eq]
  exact ⟨by decide, fun x hx => (List.mem_replicate.1 (List.mem_of_mem_drop (List.mem_of_mem_take hx))).2⟩

end Go.Proofs.YtihpmnnbiabggaaDoor
