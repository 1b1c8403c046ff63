
/- group: words programmed onto others: plain facts, no program. -/
import Derived.Test.YtihpmnnbiabggaaDoorGm
namespace Go.Proofs.YtihpmnnbiabggaaDoor
open Go.RowKit
set_option maxRecDepth 100000
set_option linter.unusedVariables false

theorem scan_front (xs : List Int) : scanR xs = foundL ((slotsL xs).take (scanR xs).free) := found_front slotsL_mem
theorem scan_free (xs : List Int) : (scanR xs).free ≤ xs.length / 16 := by
  have := (free_blank (slotsL xs)).1
  rwa [slotsL_len] at this
/-- The words behind what is free are blank. -/
theorem free_words (xs : List Int) {j : Nat} (h1 : 16 * (scanR xs).free ≤ j) (h2 : j < 16 * (xs.length / 16)) : xs.getD j 0 = 65535 := by
  have hk : j / 16 < xs.length / 16 := by omega
  have hb : blankB (slotA xs (j / 16)) = true := by
    refine (free_blank (slotsL xs)).2 _ ?_
    rw [List.mem_iff_getElem?]
    refine ⟨j / 16 - (scanR xs).free, ?_⟩
    rw [List.getElem?_drop]
    show (slotsL xs)[(scanR xs).free + (j / 16 - (scanR xs).free)]? = _
    rw [show (scanR xs).free + (j / 16 - (scanR xs).free) = j / 16 by omega]
    exact slotsL_get hk
  have hl := slotA_len hk
  have e := blank16 hl hb
  have h3 : (slotA xs (j / 16)).getD (j % 16) 0 = xs.getD j 0 := by
    unfold slotA
    simp only [List.getD]
    rw [List.getElem?_take, if_pos (by omega), List.getElem?_drop, show 16 * (j / 16) + j % 16 = j by omega]
  rw [← h3, e]
  simp only [List.getD]
  rw [List.getElem?_replicate, if_pos (by omega)]
  rfl
theorem slotsL_drop (xs : List Int) (j : Nat) : slotsL (xs.drop (16 * j)) = (slotsL xs).drop j := by
  refine List.ext_getElem? fun i => ?_
  rw [List.getElem?_drop]
  have hl : (xs.drop (16 * j)).length / 16 = xs.length / 16 - j := by simp; omega
  by_cases hi : j + i < xs.length / 16
  · rw [slotsL_get (by omega), slotsL_get hi]
    congr 1
    unfold slotA
    rw [List.drop_drop, show 16 * j + 16 * i = 16 * (j + i) by omega]
  · rw [List.getElem?_eq_none (by rw [slotsL_len]; omega), List.getElem?_eq_none (by rw [slotsL_len]; omega)]

/-- Words laid down at a place, onto blank ones. -/
def withB (xs : List Int) (a : Nat) (w : List Int) : List Int := xs.take a ++ (w ++ xs.drop (a + w.length))
theorem withB_len {xs w : List Int} {a : Nat} (h : a + w.length ≤ xs.length) : (withB xs a w).length = xs.length := by simp [withB]; omega
/-- What the slots say of which some were laid down behind what is free. -/
theorem scan_with {xs : List Int} {F : Nat} {W : List (List Int)} (hF : (scanR xs).free ≤ F) (hW : ∀ s ∈ W, s.length = 16) (hr : F + W.length ≤ xs.length / 16) :
    scanR (withB xs (16 * F) W.flatten) = foundA ((slotsL xs).take F) (scanR xs) W := by
  have hlen : ∀ {W : List (List Int)}, (∀ s ∈ W, s.length = 16) → W.flatten.length = 16 * W.length := by
    intro W
    induction W with
    | nil => intro _; rfl
    | cons s W ih => intro h; rw [List.flatten_cons, List.length_append, h s (by simp), ih (fun t ht => h t (by simp [ht])), List.length_cons]; omega
  have hWl := hlen hW
  unfold scanR withB
  rw [slots_split _ _ (by omega), slotsL_many hW, show 16 * F + W.flatten.length = 16 * (F + W.length) by omega, slotsL_drop, foundL_append, foundA_append]
  have hb := (free_blank (slotsL xs)).2
  have h1 : foundL ((slotsL xs).take F) = foundL (slotsL xs) := by
    have e : foundL (slotsL xs) = foundA ((slotsL xs).take F) (foundL ((slotsL xs).take F)) ((slotsL xs).drop F) := by rw [← foundL_append, List.take_append_drop]
    rw [e]
    exact (found_blanks _ _ _ (fun s hs => ⟨slotsL_mem s (List.mem_of_mem_drop hs), hb s (by
      have : (slotsL xs).drop F = ((slotsL xs).drop (foundL (slotsL xs)).free).drop (F - (foundL (slotsL xs)).free) := by
        rw [List.drop_drop]
        congr 1
        unfold scanR at hF
        omega
      rw [this] at hs
      exact List.mem_of_mem_drop hs)⟩)).symm
  rw [h1]
  exact found_blanks _ _ _ (fun s hs => ⟨slotsL_mem s (List.mem_of_mem_drop hs), hb s (by
    have : (slotsL xs).drop (F + W.length) = ((slotsL xs).drop (foundL (slotsL xs)).free).drop (F + W.length - (foundL (slotsL xs)).free) := by
      rw [List.drop_drop]
      congr 1
      unfold scanR at hF
      omega
    rw [this] at hs
    exact List.mem_of_mem_drop hs)⟩)

theorem putSlots_len {q : Int} {first : Bool} {rs : List (List Int)} : (putSlots q first rs).length = rs.length + 1 := by simp [putSlots]
theorem putSlots_16 {q : Int} {first : Bool} {rs : List (List Int)} (hl : ∀ r ∈ rs, r.length = 13) : ∀ s ∈ putSlots q first rs, s.length = 16 := by
  intro s hs
  rcases List.mem_append.1 hs with hs | hs
  · obtain ⟨r, hr, rfl⟩ := List.mem_map.1 hs
    exact wordsL_len (setSeq_len (hl r hr))
  · rw [List.mem_singleton] at hs
    rw [hs]; exact wordsL_len (commitL_len _ _ _)
theorem flat16 : ∀ {W : List (List Int)}, (∀ s ∈ W, s.length = 16) → W.flatten.length = 16 * W.length
  | [], _ => rfl
  | s :: W, h => by
    rw [List.flatten_cons, List.length_append, h s (by simp), flat16 (fun t ht => h t (List.mem_cons_of_mem _ ht)), List.length_cons]
    omega
/-- 7.3: behind a put the commit counts. -/
theorem scan_put {xs : List Int} {q : Int} {first : Bool} {rs : List (List Int)} (hl : ∀ r ∈ rs, r.length = 13) (hn : 1 ≤ rs.length ∧ rs.length ≤ 4) (hq : 0 ≤ q ∧ q ≤ 4294967295) (hp : putsOk q (-1) rs = true)
    (hc : if (scanR xs).has = true then first = false ∧ (scanR xs).seq < q else first = true ∧ rs.length = 4) (hr : (scanR xs).free + rs.length + 1 ≤ xs.length / 16) :
    scanR (withB xs (16 * (scanR xs).free) (putSlots q first rs).flatten) = ⟨true, q, liveAll (scanR xs).live (rs.map fun r => wordsL (setSeq q r)), (scanR xs).com + 1, (scanR xs).free + rs.length + 1⟩ := by
  rw [scan_with (Nat.le_refl _) (putSlots_16 hl) (by rw [putSlots_len]; omega), found_put hl hn hq hp hc]
  congr 1
  rw [List.length_take, slotsL_len]
  have := scan_free xs
  omega

/-- A slot of which just the first few words are there is torn. -/
theorem torn_front {c : List Int} (hl : c.length = 13) (hb : rightB c = true) {r : Nat} (h0 : 0 < r) (h : r < 16) : blankB (blankL (wordsL c) r 16) = false ∧ ((readR (blankL (wordsL c) r 16)).1 ≠ 0 ∨ (isR (readR (blankL (wordsL c) r 16)).2).2.2 = false) := by
  refine ⟨?_, .inl ?_⟩
  · rw [blank_is hl hb h]
    simp; omega
  · rw [blank_not_whole (wordsL_len hl) h]
    decide
theorem blankL_front {s : List Int} (h : s.length = 16) {r : Nat} (hr : r < 16) : blankL s r 16 = s.take r ++ List.replicate (16 - r) 65535 := by
  unfold blankL
  rw [List.drop_eq_nil_of_le (by omega), List.append_nil]
/-- What is put, each of its slots is a right record's. -/
theorem putSlots_right {q : Int} {first : Bool} {rs : List (List Int)} (hl : ∀ r ∈ rs, r.length = 13) (hn : 1 ≤ rs.length ∧ rs.length ≤ 4) (hq : 0 ≤ q ∧ q ≤ 4294967295) (hp : putsOk q (-1) rs = true) {j : Nat} (hj : j < rs.length + 1) :
    ∃ c, c.length = 13 ∧ rightB c = true ∧ (putSlots q first rs)[j]? = some (wordsL c) := by
  by_cases h : j < rs.length
  · have hr : rs[j] ∈ rs := List.getElem_mem h
    refine ⟨setSeq q rs[j], setSeq_len (hl _ hr), (puts_mem hp _ hr).1, ?_⟩
    unfold putSlots
    rw [List.getElem?_append_left (by simpa using h)]
    simp [h]
  · have hj2 : j = rs.length := by omega
    subst hj2
    refine ⟨commitL q rs.length first, commitL_len _ _ _, ?_, ?_⟩
    · rw [right_commit q _ first (by omega)]; simpa using hq
    · unfold putSlots
      rw [List.getElem?_append_right (by simp)]
      simp
theorem flat_take {W : List (List Int)} (h : ∀ s ∈ W, s.length = 16) {k : Nat} (hk : k < 16 * W.length) : W.flatten.take k = (W.take (k / 16)).flatten ++ (W.getD (k / 16) []).take (k % 16) := by
  induction W generalizing k with
  | nil => simp at hk
  | cons s W ih =>
    have hs := h s (by simp)
    rw [List.flatten_cons]
    by_cases h16 : k < 16
    · rw [List.take_append_of_le_length (by omega), show k / 16 = 0 by omega, show k % 16 = k by omega]
      simp
    · rw [List.take_append, List.take_of_length_le (by omega), hs, ih (fun t ht => h t (List.mem_cons_of_mem _ ht)) (by simp at hk; omega)]
      have e1 : k / 16 = (k - 16) / 16 + 1 := by omega
      have e2 : k % 16 = (k - 16) % 16 := by omega
      rw [e1, e2]
      simp
/-- 7.4: with a beginning of what is put alone all is as ahead of it, but for what is free. -/
theorem scan_some {xs : List Int} {q : Int} {first : Bool} {rs : List (List Int)} (hl : ∀ r ∈ rs, r.length = 13) (hn : 1 ≤ rs.length ∧ rs.length ≤ 4) (hq : 0 ≤ q ∧ q ≤ 4294967295) (hp : putsOk q (-1) rs = true)
    (hr : (scanR xs).free + rs.length + 1 ≤ xs.length / 16) {k : Nat} (hk : k < 16 * (rs.length + 1)) :
    scanR (withB xs (16 * (scanR xs).free) ((putSlots q first rs).flatten.take k)) = { scanR xs with free := (scanR xs).free + (k + 15) / 16 } := by
  have hW := putSlots_16 (q := q) (first := first) hl
  have hWl : (putSlots q first rs).length = rs.length + 1 := putSlots_len
  obtain ⟨W, hWe⟩ : ∃ W, W = putSlots q first rs := ⟨_, rfl⟩
  obtain ⟨F, hFe⟩ : ∃ F, F = (scanR xs).free := ⟨_, rfl⟩
  rw [← hFe] at hr
  -- the slots that are there wholly
  have hrec : ∀ s ∈ W.take (k / 16), blankB s = false ∧ ((readR s).1 ≠ 0 ∨ (isR (readR s).2).2.2 = false) := by
    intro s hs
    obtain ⟨i, hi⟩ := List.mem_iff_getElem?.1 hs
    rw [List.getElem?_take] at hi
    split at hi
    · rename_i hik
      have hin : i < rs.length := by omega
      have hr : rs[i] ∈ rs := List.getElem_mem hin
      rw [hWe] at hi
      unfold putSlots at hi
      rw [List.getElem?_append_left (by simpa using hin), List.getElem?_map, List.getElem?_eq_getElem hin] at hi
      have hs2 : s = wordsL (setSeq q rs[i]) := by
        injection hi with hi
        exact hi.symm
      rw [hs2]
      exact rec_slot (hl _ hr) (puts_mem hp _ hr)
    · cases hi
  by_cases h0 : k % 16 = 0
  · have e1 : W.flatten.take k = (W.take (k / 16)).flatten := by
      rw [flat_take (by rw [hWe]; exact hW) (by rw [hWe, hWl]; exact hk), h0]
      simp
    have hl2 : (W.take (k / 16)).length = k / 16 := by rw [List.length_take, hWe, hWl]; omega
    rw [← hWe, e1, scan_with (Nat.le_refl _) (fun s hs => hW s (by rw [← hWe]; exact List.mem_of_mem_take hs)) (by rw [hl2, ← hFe]; omega), found_recs _ _ _ hrec]
    split
    · rename_i hn0
      have : k / 16 = 0 := by rw [← hl2, hn0]; rfl
      have hk0 : k = 0 := by omega
      subst hk0
      simp
    · rw [hl2]
      have : ((slotsL xs).take (scanR xs).free).length = (scanR xs).free := by
        rw [List.length_take, slotsL_len]
        have := scan_free xs
        omega
      rw [this]
      congr 1
      omega
  · have hq1 : k / 16 < rs.length + 1 := by omega
    obtain ⟨c, hcl, hcr, hcw⟩ := putSlots_right (first := first) hl hn hq hp hq1
    have hgd : W.getD (k / 16) [] = wordsL c := by rw [hWe]; simp [List.getD, hcw]
    have hk16 : k % 16 < 16 := by omega
    have e1 : W.flatten.take k = (W.take (k / 16)).flatten ++ (wordsL c).take (k % 16) := by
      rw [flat_take (by rw [hWe]; exact hW) (by rw [hWe, hWl]; exact hk), hgd]
    have hl2 : (W.take (k / 16)).length = k / 16 := by rw [List.length_take, hWe, hWl]; omega
    have hfl := flat16 (W := W.take (k / 16)) (fun s hs => hW s (by rw [← hWe]; exact List.mem_of_mem_take hs))
    have htl : ((wordsL c).take (k % 16)).length = k % 16 := by rw [List.length_take, wordsL_len hcl]; omega
    -- the words behind are blank: the torn slot is one of words and blanks
    have hrest : xs.drop (16 * F + k) = List.replicate (16 - k % 16) 65535 ++ xs.drop (16 * (F + k / 16 + 1)) := by
      have e2 : 16 * (F + k / 16 + 1) = (16 * F + k) + (16 - k % 16) := by omega
      have e3 : (xs.drop (16 * F + k)).take (16 - k % 16) = List.replicate (16 - k % 16) 65535 := by
        rw [List.eq_replicate_iff]
        refine ⟨by simp; omega, fun b hb => ?_⟩
        obtain ⟨i, hi⟩ := List.mem_iff_getElem?.1 hb
        rw [List.getElem?_take] at hi
        split at hi
        · rename_i hi2
          rw [List.getElem?_drop] at hi
          have := free_words xs (j := 16 * F + k + i) (by rw [← hFe]; omega) (by omega)
          simp only [List.getD] at this
          rw [hi] at this
          simpa using this
        · cases hi
      have e4 := List.take_append_drop (16 - k % 16) (xs.drop (16 * F + k))
      rw [List.drop_drop, e3] at e4
      rw [e2]
      exact e4.symm
    have hwb : withB xs (16 * F) (W.flatten.take k) = withB xs (16 * F) (W.take (k / 16) ++ [blankL (wordsL c) (k % 16) 16]).flatten := by
      unfold withB
      have e4 : (W.flatten.take k).length = k := by rw [e1, List.length_append, hfl, hl2, htl]; omega
      have e5 : ((W.take (k / 16) ++ [blankL (wordsL c) (k % 16) 16]).flatten).length = 16 * (k / 16 + 1) := by
        rw [List.flatten_append, List.length_append, hfl, hl2, List.flatten_cons, List.flatten_nil, List.append_nil, blankL_len (by omega) (by rw [wordsL_len hcl]; exact Nat.le_refl _), wordsL_len hcl]
        omega
      rw [e4, e5, hrest, e1, List.flatten_append, List.flatten_cons, List.flatten_nil, List.append_nil, blankL_front (wordsL_len hcl) hk16, show 16 * F + 16 * (k / 16 + 1) = 16 * (F + k / 16 + 1) by omega]
      simp only [List.append_assoc]
    rw [← hWe, ← hFe, hwb, scan_with (F := F) (by rw [hFe]; exact Nat.le_refl _) (by
      intro s hs
      rcases List.mem_append.1 hs with hs | hs
      · exact hW s (by rw [← hWe]; exact List.mem_of_mem_take hs)
      · rw [List.mem_singleton] at hs
        rw [hs, blankL_len (by omega) (by rw [wordsL_len hcl]; exact Nat.le_refl _), wordsL_len hcl]) (by simp only [List.length_append, hl2, List.length_singleton]; omega),
      found_recs _ _ _ (by
        intro s hs
        rcases List.mem_append.1 hs with hs | hs
        · exact hrec s hs
        · rw [List.mem_singleton] at hs
          rw [hs]; exact torn_front hcl hcr (by omega) hk16), if_neg (by simp)]
    have hft : ((slotsL xs).take F).length = F := by
      rw [List.length_take, slotsL_len]
      have := scan_free xs
      omega
    rw [hft, List.length_append, hl2, List.length_singleton]
    congr 1
    omega

end Go.Proofs.YtihpmnnbiabggaaDoor
