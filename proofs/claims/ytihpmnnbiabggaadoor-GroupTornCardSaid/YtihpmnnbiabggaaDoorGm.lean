
/- group: what a run of slots says: plain facts, no program. -/
import Derived.Test.YtihpmnnbiabggaaDoorSx
namespace Go.Proofs.YtihpmnnbiabggaaDoor
open Go.RowKit
set_option maxRecDepth 100000
set_option linter.unusedVariables false

/-- What a group says: has, sequence, live (four payloads of eleven, one behind the other), commits, free. -/
structure Fnd where
  has : Bool
  seq : Int
  live : List Int
  com : Int
  free : Nat
def fnd0 : Fnd := ⟨false, 0, zer 44, 0, 0⟩

/-- A slot's words; all slots. -/
def slotA (xs : List Int) (k : Nat) : List Int := (xs.drop (16 * k)).take 16
def slotsL (xs : List Int) : List (List Int) := (List.range (xs.length / 16)).map (slotA xs)
theorem slotsL_len (xs : List Int) : (slotsL xs).length = xs.length / 16 := by simp [slotsL]
theorem slotA_len {xs : List Int} {k : Nat} (h : k < xs.length / 16) : (slotA xs k).length = 16 := by simp [slotA]; omega
theorem slotsL_get {xs : List Int} {k : Nat} (h : k < xs.length / 16) : (slotsL xs)[k]? = some (slotA xs k) := by simp [slotsL, h]
theorem slotsL_mem {xs : List Int} : ∀ s ∈ slotsL xs, s.length = 16 := by
  intro s hs
  obtain ⟨k, hk, rfl⟩ := List.mem_map.1 hs
  exact slotA_len (by simpa using hk)

/-- Records one behind the other: whole, of rising Kinds below four, of a Sequence. -/
def recsOk (seq : Int) : Int → List (List Int) → Bool
  | _, [] => true
  | last, s :: ss => (decide ((readR s).1 = 0) && (decide ((readR s).2.getD 0 0 < 4) && (decide (last < (readR s).2.getD 0 0) && decide ((readR s).2.getD 1 0 = seq)))) && recsOk seq ((readR s).2.getD 0 0) ss
/-- The last n of some slots. -/
def lastN (prev : List (List Int)) (n : Nat) : List (List Int) := prev.drop (prev.length - n)
/-- Does a slot's commit count? -/
def countsB (prev : List (List Int)) (f : Fnd) (s : List Int) : Bool :=
  decide ((readR s).1 = 0) && ((isR (readR s).2).2.2 && (decide ((isR (readR s).2).1 ≤ prev.length) &&
    (recsOk ((readR s).2.getD 1 0) (-1) (lastN prev (isR (readR s).2).1.toNat) &&
      (if f.has = true then !(isR (readR s).2).2.1 && decide (f.seq < (readR s).2.getD 1 0) else (isR (readR s).2).2.1 && decide ((isR (readR s).2).1 = 4)))))
/-- A payload laid down as what is alive of its Kind. -/
def liveSet (live : List Int) (k : Nat) (p : List Int) : List Int := live.take (11 * k) ++ (p ++ live.drop (11 * k + 11))
def liveAll (live : List Int) : List (List Int) → List Int
  | [] => live
  | s :: ss => liveAll (liveSet live ((readR s).2.getD 0 0).toNat ((readR s).2.drop 2)) ss
def freeS (prev : List (List Int)) (f : Fnd) (s : List Int) : Fnd := if blankB s = true then f else { f with free := prev.length + 1 }
def stepS (prev : List (List Int)) (f : Fnd) (s : List Int) : Fnd :=
  if countsB prev (freeS prev f s) s = true then
    ⟨true, (readR s).2.getD 1 0, liveAll f.live (lastN prev (isR (readR s).2).1.toNat), f.com + 1, (freeS prev f s).free⟩
  else freeS prev f s
def foundA : List (List Int) → Fnd → List (List Int) → Fnd
  | _, f, [] => f
  | prev, f, s :: ss => foundA (prev ++ [s]) (stepS prev f s) ss
def foundL (ss : List (List Int)) : Fnd := foundA [] fnd0 ss
/-- What words say. -/
def scanR (xs : List Int) : Fnd := foundL (slotsL xs)

theorem foundA_append (prev : List (List Int)) (f : Fnd) (a b : List (List Int)) : foundA prev f (a ++ b) = foundA (prev ++ a) (foundA prev f a) b := by
  induction a generalizing prev f with
  | nil => simp [foundA]
  | cons s a ih => simp only [List.cons_append, foundA]; rw [ih]; simp
theorem foundL_append (a b : List (List Int)) : foundL (a ++ b) = foundA a (foundL a) b := by
  have := foundA_append [] fnd0 a b
  simpa [foundL] using this
theorem foundL_snoc (a : List (List Int)) (s : List Int) : foundL (a ++ [s]) = stepS a (foundL a) s := by rw [foundL_append]; rfl

/-- A slot of which nothing is read changes nothing but what is free. -/
theorem step_not {prev : List (List Int)} {f : Fnd} {s : List Int} (h : (readR s).1 ≠ 0) : stepS prev f s = freeS prev f s := by
  unfold stepS
  rw [if_neg]
  unfold countsB
  simp [h]
/-- Nor does one whose record is no commit. -/
theorem step_rec {prev : List (List Int)} {f : Fnd} {s : List Int} (h : (isR (readR s).2).2.2 = false) : stepS prev f s = freeS prev f s := by
  unfold stepS
  rw [if_neg]
  unfold countsB
  simp [h]
theorem blank16 {s : List Int} (hl : s.length = 16) (hb : blankB s = true) : s = List.replicate 16 65535 := by
  unfold blankB at hb
  simp only [Bool.and_eq_true, List.all_eq_true, beq_iff_eq] at hb
  rw [List.eq_replicate_iff]
  exact ⟨hl, hb.2⟩
theorem read_blank : (readR (List.replicate 16 65535)).1 ≠ 0 := by
  intro h
  unfold readR at h
  rw [if_pos (by simp)] at h
  split at h
  · rename_i hw
    have := whole_last (by simp) hw
    simp at this
  · simp at h
theorem step_blank {prev : List (List Int)} {f : Fnd} {s : List Int} (hl : s.length = 16) (hb : blankB s = true) : stepS prev f s = f := by
  have e := blank16 hl hb
  rw [step_not (by rw [e]; exact read_blank)]
  unfold freeS
  rw [if_pos hb]
theorem found_blanks : ∀ (ss prev : List (List Int)) (f : Fnd), (∀ s ∈ ss, s.length = 16 ∧ blankB s = true) → foundA prev f ss = f
  | [], _, _, _ => rfl
  | s :: ss, prev, f, h => by
    have hs := h s (by simp)
    rw [foundA, step_blank hs.1 hs.2]
    exact found_blanks ss _ f (fun t ht => h t (by simp [ht]))

theorem free_stepS (prev : List (List Int)) (f : Fnd) (s : List Int) : (stepS prev f s).free = if blankB s = true then f.free else prev.length + 1 := by
  unfold stepS freeS
  split <;> (split <;> simp_all)
/-- What is free lies within the slots, and all behind it is blank. -/
theorem free_blank (ss : List (List Int)) : (foundL ss).free ≤ ss.length ∧ ∀ s ∈ ss.drop (foundL ss).free, blankB s = true := by
  suffices ∀ n (ss : List (List Int)), ss.length = n → (foundL ss).free ≤ ss.length ∧ ∀ s ∈ ss.drop (foundL ss).free, blankB s = true from this _ ss rfl
  intro n
  induction n with
  | zero =>
    intro ss hl
    have : ss = [] := List.length_eq_zero_iff.1 hl
    subst this
    exact ⟨by simp [foundL, foundA, fnd0], by simp⟩
  | succ n ih =>
    intro ss hl
    have hne : ss ≠ [] := List.ne_nil_of_length_pos (by omega)
    obtain ⟨ts, t, rfl⟩ : ∃ ts t, ss = ts ++ [t] := ⟨ss.dropLast, ss.getLast hne, (List.dropLast_concat_getLast hne).symm⟩
    have h1 := ih ts (by simp at hl; omega)
    rw [foundL_snoc, free_stepS]
    by_cases hb : blankB t = true
    · rw [if_pos hb]
      refine ⟨by simp; omega, fun s hs => ?_⟩
      rw [List.drop_append_of_le_length h1.1] at hs
      rcases List.mem_append.1 hs with hs | hs
      · exact h1.2 s hs
      · rw [List.mem_singleton] at hs
        rw [hs]; exact hb
    · rw [if_neg hb]
      refine ⟨by simp, fun s hs => ?_⟩
      rw [List.drop_eq_nil_of_le (by simp)] at hs
      simp at hs
/-- What the slots say is what those up to the free ones say. -/
theorem found_front {ss : List (List Int)} (h16 : ∀ s ∈ ss, s.length = 16) : foundL ss = foundL (ss.take (foundL ss).free) := by
  obtain ⟨h1, h2⟩ := free_blank ss
  obtain ⟨F, hF⟩ : ∃ F, F = (foundL ss).free := ⟨_, rfl⟩
  rw [← hF] at h1 h2 ⊢
  have e : foundL ss = foundA (ss.take F) (foundL (ss.take F)) (ss.drop F) := by rw [← foundL_append, List.take_append_drop]
  conv => lhs; rw [e]
  exact found_blanks _ _ _ (fun s hs => ⟨h16 s (List.mem_of_mem_drop hs), h2 s hs⟩)

/-! Slots of words that stand one behind the other. -/
theorem slotsL_nil {xs : List Int} (h : xs.length < 16) : slotsL xs = [] := by
  unfold slotsL
  rw [show xs.length / 16 = 0 by omega]
  rfl
theorem slotsL_cons {s xs : List Int} (h : s.length = 16) : slotsL (s ++ xs) = s :: slotsL xs := by
  refine List.ext_getElem? fun i => ?_
  have hl : (s ++ xs).length / 16 = xs.length / 16 + 1 := by simp; omega
  rcases i with _ | i
  · rw [slotsL_get (by omega), List.getElem?_cons_zero]
    congr 1
    unfold slotA
    rw [Nat.mul_zero, List.drop_zero, List.take_append_of_le_length (by omega), List.take_of_length_le (by omega)]
  · rw [List.getElem?_cons_succ]
    by_cases hi : i < xs.length / 16
    · rw [slotsL_get (by omega), slotsL_get hi]
      congr 1
      unfold slotA
      rw [show 16 * (i + 1) = s.length + 16 * i by omega, List.drop_append, List.drop_eq_nil_of_le (by omega), List.nil_append]
      congr 2
      omega
    · rw [List.getElem?_eq_none (by rw [slotsL_len]; omega), List.getElem?_eq_none (by rw [slotsL_len]; omega)]
theorem slotsL_many {xs : List Int} : ∀ {ss : List (List Int)}, (∀ s ∈ ss, s.length = 16) → slotsL (ss.flatten ++ xs) = ss ++ slotsL xs
  | [], _ => rfl
  | s :: ss, h => by
    rw [List.flatten_cons, List.append_assoc, slotsL_cons (h s (by simp)), slotsL_many (fun t ht => h t (by simp [ht]))]
    rfl
/-- The first F slots, taken off. -/
theorem slots_front (xs : List Int) {F : Nat} (h : 16 * F ≤ xs.length) : xs = ((slotsL xs).take F).flatten ++ xs.drop (16 * F) := by
  induction F with
  | zero => simp
  | succ F ih =>
    have h1 := ih (by omega)
    have h2 : F < xs.length / 16 := by omega
    rw [List.take_succ_eq_append_getElem (by rw [slotsL_len]; exact h2), List.flatten_append, List.append_assoc]
    have h3 : (slotsL xs)[F]'(by rw [slotsL_len]; exact h2) = slotA xs F := by
      have := slotsL_get h2
      rw [List.getElem?_eq_getElem (by rw [slotsL_len]; exact h2)] at this
      injection this
    rw [h3]
    conv => lhs; rw [h1]
    congr 1
    unfold slotA
    rw [List.flatten_cons, List.flatten_nil, List.append_nil, show 16 * (F + 1) = 16 * F + 16 by omega, ← List.drop_drop, List.take_append_drop]
theorem slots_split (xs zs : List Int) {F : Nat} (h : 16 * F ≤ xs.length) : slotsL (xs.take (16 * F) ++ zs) = (slotsL xs).take F ++ slotsL zs := by
  have h1 := slots_front xs h
  have h2 : ∀ s ∈ (slotsL xs).take F, s.length = 16 := fun s hs => slotsL_mem s (List.mem_of_mem_take hs)
  have h3 : xs.take (16 * F) = ((slotsL xs).take F).flatten := by
    conv => lhs; rw [h1]
    have hl : (((slotsL xs).take F).flatten).length = 16 * F := by
      have := congrArg List.length h1
      rw [List.length_append, List.length_drop] at this
      omega
    rw [List.take_append_of_le_length (by omega), List.take_of_length_le (by omega)]
  rw [h3, slotsL_many h2]

/-! Putting. -/
/-- A record with another Sequence. -/
def setSeq (q : Int) (r : List Int) : List Int := r.set 1 q
/-- Records that may be put: of rising Kinds below four, each one that may be. -/
def putsOk (q : Int) : Int → List (List Int) → Bool
  | _, [] => true
  | last, r :: rs => (rightB (setSeq q r) && (decide (r.getD 0 0 < 4) && decide (last < r.getD 0 0))) && putsOk q (r.getD 0 0) rs
def putSlots (q : Int) (first : Bool) (rs : List (List Int)) : List (List Int) := rs.map (fun r => wordsL (setSeq q r)) ++ [wordsL (commitL q rs.length first)]

theorem setSeq_len {q : Int} {r : List Int} (h : r.length = 13) : (setSeq q r).length = 13 := by simp [setSeq, h]
theorem setSeq_kind {q : Int} {r : List Int} (h : r.length = 13) : (setSeq q r).getD 0 0 = r.getD 0 0 := by
  unfold setSeq
  simp only [List.getD]
  rw [List.getElem?_set_ne (by omega)]
theorem setSeq_seq {q : Int} {r : List Int} (h : r.length = 13) : (setSeq q r).getD 1 0 = q := by simp [setSeq, List.getD, h]
theorem setSeq_pay {q : Int} {r : List Int} (h : r.length = 13) : (setSeq q r).drop 2 = r.drop 2 := by
  unfold setSeq
  rw [List.drop_set]
  simp
/-- A record of a Kind below four is no commit. -/
theorem rec_no_commit {r : List Int} (h : r.getD 0 0 < 4) : (isR r).2.2 = false := by
  unfold isR
  rw [if_neg]
  rw [decide_eq_true_eq]
  intro he
  rcases commitR_cases (r.getD 1 0) (r.getD 2 0) (r.getD 3 0 == 1) with h1 | h1
  · rw [h1] at he
    simp at he
  · rw [h1] at he
    have e : commitL (r.getD 1 0) (r.getD 2 0) (r.getD 3 0 == 1) = r := (Prod.mk.inj he).2
    have : r.getD 0 0 = 4 := by rw [← e]; rfl
    omega
theorem commit_is {s m : Int} {f : Bool} (hs : 0 ≤ s ∧ s ≤ 4294967295) (hm : 1 ≤ m ∧ m ≤ 4) : isR (commitL s m f) = (m, f, true) := by
  unfold isR
  have e1 : (commitL s m f).getD 1 0 = s := rfl
  have e2 : (commitL s m f).getD 2 0 = m := rfl
  have e3 : ((commitL s m f).getD 3 0 == 1) = f := by cases f <;> rfl
  rw [e1, e2, e3]
  have : commitR s m f = (0, commitL s m f) := if_pos ⟨hs, hm⟩
  rw [this]
  simp

/-- Slots that are neither blank nor commits change but what is free. -/
theorem found_recs : ∀ (rs prev : List (List Int)) (f : Fnd), (∀ s ∈ rs, blankB s = false ∧ ((readR s).1 ≠ 0 ∨ (isR (readR s).2).2.2 = false)) → foundA prev f rs = if rs = [] then f else { f with free := prev.length + rs.length }
  | [], _, _, _ => rfl
  | s :: rs, prev, f, h => by
    have hs := h s (by simp)
    have e : stepS prev f s = { f with free := prev.length + 1 } := by
      have e1 : stepS prev f s = freeS prev f s := by
        rcases hs.2 with h2 | h2
        · exact step_not h2
        · exact step_rec h2
      rw [e1]
      unfold freeS
      rw [if_neg (by rw [hs.1]; simp)]
    rw [foundA, e, found_recs rs _ _ (fun t ht => h t (List.mem_cons_of_mem _ ht))]
    by_cases h0 : rs = []
    · rw [if_pos h0, if_neg (by simp), h0]
      simp
    · rw [if_neg h0, if_neg (by simp)]
      simp only [List.length_append, List.length_cons, List.length_nil]
      congr 1
      omega
theorem puts_mem {q : Int} : ∀ {rs : List (List Int)} {last : Int}, putsOk q last rs = true → ∀ r ∈ rs, rightB (setSeq q r) = true ∧ r.getD 0 0 < 4
  | [], _, _, r, hr => by simp at hr
  | r' :: rs, last, h, r, hr => by
    simp only [putsOk, Bool.and_eq_true, decide_eq_true_eq] at h
    rcases List.mem_cons.1 hr with rfl | hr
    · exact ⟨h.1.1, h.1.2.1⟩
    · exact puts_mem h.2 r hr
theorem puts_read {q : Int} : ∀ {rs : List (List Int)} {last : Int}, (∀ r ∈ rs, r.length = 13) → putsOk q last rs = true → recsOk q last (rs.map fun r => wordsL (setSeq q r)) = true
  | [], _, _, _ => rfl
  | r :: rs, last, hl, h => by
    have hr := hl r (by simp)
    simp only [putsOk, Bool.and_eq_true, decide_eq_true_eq] at h
    have e := read_words (setSeq_len (q := q) hr) h.1.1
    have ih := puts_read (fun t ht => hl t (List.mem_cons_of_mem _ ht)) h.2
    simp only [List.map_cons, recsOk, e, setSeq_kind hr, setSeq_seq hr, Bool.and_eq_true, decide_eq_true_eq]
    exact ⟨⟨trivial, h.1.2.1, h.1.2.2, trivial⟩, ih⟩
theorem rec_slot {q : Int} {r : List Int} (hr : r.length = 13) (h : rightB (setSeq q r) = true ∧ r.getD 0 0 < 4) : blankB (wordsL (setSeq q r)) = false ∧ ((readR (wordsL (setSeq q r))).1 ≠ 0 ∨ (isR (readR (wordsL (setSeq q r))).2).2.2 = false) := by
  refine ⟨blank_words (setSeq_len hr) h.1, .inr ?_⟩
  rw [read_words (setSeq_len hr) h.1]
  exact rec_no_commit (by rw [setSeq_kind hr]; exact h.2)

/-- Behind a put the commit counts, and what it has is alive; all else stays. -/
theorem found_put {prev : List (List Int)} {f : Fnd} {q : Int} {first : Bool} {rs : List (List Int)} (hl : ∀ r ∈ rs, r.length = 13) (hn : 1 ≤ rs.length ∧ rs.length ≤ 4) (hq : 0 ≤ q ∧ q ≤ 4294967295) (hp : putsOk q (-1) rs = true)
    (hc : if f.has = true then first = false ∧ f.seq < q else first = true ∧ rs.length = 4) :
    foundA prev f (putSlots q first rs) = ⟨true, q, liveAll f.live (rs.map fun r => wordsL (setSeq q r)), f.com + 1, prev.length + rs.length + 1⟩ := by
  obtain ⟨R, hR⟩ : ∃ R, R = rs.map fun r => wordsL (setSeq q r) := ⟨_, rfl⟩
  have hRl : R.length = rs.length := by rw [hR]; simp
  have hrec : foundA prev f R = { f with free := prev.length + R.length } := by
    rw [found_recs R prev f (by
      intro s hs
      rw [hR] at hs
      obtain ⟨r, hr, rfl⟩ := List.mem_map.1 hs
      exact rec_slot (hl r hr) (puts_mem hp r hr)), if_neg (by intro h0; rw [h0] at hRl; simp at hRl; omega)]
  have hok := puts_read hl hp
  rw [← hR] at hok ⊢
  unfold putSlots
  rw [← hR, foundA_append, hrec]
  have hm : 1 ≤ (rs.length : Int) ∧ (rs.length : Int) ≤ 4 := by omega
  have hrt : rightB (commitL q rs.length first) = true := by rw [right_commit q _ first hm]; simpa using hq
  have hrd := read_words (commitL_len q rs.length first) hrt
  have his := commit_is (f := first) hq hm
  have hnb := blank_words (commitL_len q rs.length first) hrt
  have hlast : lastN (prev ++ R) ((rs.length : Int).toNat) = R := by
    unfold lastN
    rw [Int.toNat_natCast, List.length_append, hRl, Nat.add_sub_cancel, List.drop_append_of_le_length (Nat.le_refl _), List.drop_length, List.nil_append]
  have hseq : (commitL q rs.length first).getD 1 0 = q := rfl
  simp only [foundA]
  unfold stepS
  have hfs : freeS (prev ++ R) { f with free := prev.length + R.length } (wordsL (commitL q rs.length first)) = { f with free := prev.length + R.length + 1 } := by
    unfold freeS
    rw [if_neg (by rw [hnb]; simp)]
    simp
  rw [hfs, if_pos]
  · rw [hrd]
    simp only [his, hlast, hseq, hRl]
  · unfold countsB
    simp only [hrd, his, hlast, hseq, hok, List.length_append, hRl]
    cases hh : f.has
    · rw [hh] at hc
      simp at hc
      simp [hc.1, hc.2]
      omega
    · rw [hh] at hc
      simp at hc
      simp [hc.1, hc.2]
      omega

end Go.Proofs.YtihpmnnbiabggaaDoor
