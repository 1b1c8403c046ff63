
/- slot: whole, Read: contracts. No condition but the table of the sums, and that all are numbers of 64 bits. -/
import Derived.Test.YtihpmnnbiabggaaDoorSo
namespace Go.Proofs.YtihpmnnbiabggaaDoor
open Go.RowKit
set_option maxRecDepth 100000
set_option linter.unusedVariables false

/-- Are words those of a record? -/
def wholeP (r xs : List Int) : Bool := rightB r && decide (wordsL r = xs)
theorem wrap_64 (x : Int) : I64 (wrap64 x) := by unfold I64 wrap64; omega
theorem val_two (x y : Int) : valL [x, y] = x * 65536 + y := by simp [valL]
theorem getR_64 (ys : List Int) : I64 (getR 2 false ys).2 := by
  have h0 : I64 0 := by unfold I64; omega
  unfold getR
  split
  · exact h0
  · split
    · exact h0
    · rename_i h
      split
      · exact h0
      · rename_i hl
        split
        · rename_i hf
          cases hf
        · split
          · exact h0
          · have e : (2 : Int).toNat = 2 := rfl
            rw [e] at h hl ⊢
            have h1 := valL_bd (xs := ys.take 2) (by simpa using h)
            have h2 : (ys.take 2).length = 2 := by simp; omega
            rw [h2, full2] at h1
            unfold I64
            omega
theorem lookL_64 {xs : List Int} (h : ∀ x ∈ xs, I64 x) : ∀ x ∈ lookL xs, I64 x := by
  intro x hx
  simp only [lookL, List.mem_cons] at hx
  rcases hx with rfl | rfl | hx
  · exact wrap_64 _
  · exact getR_64 _
  · exact h x (List.mem_of_mem_drop (List.mem_of_mem_take hx))
theorem getR_words {x y : Int} (hx : 0 ≤ x ∧ x ≤ 65535) (hy : 0 ≤ y ∧ y ≤ 65535) (ys : List Int) : (getR 2 false (x :: y :: ys)).2 = x * 65536 + y := by
  unfold getR
  have e : (2 : Int).toNat = 2 := rfl
  rw [e, if_neg (by decide), if_neg (by simp [hx, hy]), if_neg (by simp), if_neg (by decide)]
  have e2 : (x :: y :: ys).take 2 = [x, y] := rfl
  rw [e2, val_two, if_neg (by omega)]
theorem three16 {xs : List Int} (h : xs.length = 16) : xs = xs.getD 0 0 :: xs.getD 1 0 :: xs.getD 2 0 :: xs.drop 3 := by
  match xs, h with
  | a :: b :: c :: t, _ => rfl
/-- A whole record's first three16 words. -/
theorem whole_three {xs : List Int} (hl : xs.length = 16) (h : wholeB xs = true) : (0 ≤ xs.getD 0 0 - 23040 ∧ xs.getD 0 0 - 23040 ≤ 4) ∧ (0 ≤ xs.getD 1 0 ∧ xs.getD 1 0 ≤ 65535) ∧ (0 ≤ xs.getD 2 0 ∧ xs.getD 2 0 ≤ 65535) := by
  obtain ⟨h1, h2⟩ := whole_out h
  have h3 := words_words h1
  rw [h2] at h3
  have h4 := (right_out h1).1
  exact ⟨h4, h3 _ (by simp [List.getD, hl]), h3 _ (by simp [List.getD, hl])⟩
theorem whole_look {xs : List Int} (hl : xs.length = 16) (h : wholeB xs = true) : lookL xs = recOf xs := by
  obtain ⟨h1, h2, h3⟩ := whole_three hl h
  have e1 : wrap64 (xs.getD 0 0 - 23040) = xs.getD 0 0 - 23040 := by unfold wrap64; omega
  have e2 : xs.drop 1 = xs.getD 1 0 :: xs.getD 2 0 :: xs.drop 3 := by
    conv => lhs; rw [three16 hl]
    rfl
  unfold lookL recOf
  rw [e1, e2, getR_words h2 h3]
theorem wholeP_of {r xs : List Int} (hr : r.length = 13) (he : wholeB xs = true → r = recOf xs) : wholeP r xs = wholeB xs := by
  rw [Bool.eq_iff_iff]
  constructor
  · intro h
    unfold wholeP at h
    simp only [Bool.and_eq_true, decide_eq_true_eq] at h
    exact (whole_of hr h.1 h.2).1
  · intro h
    rw [he h]
    exact h
theorem wholeP_look {xs : List Int} (hl : xs.length = 16) : wholeP (lookL xs) xs = wholeB xs := wholeP_of (lookL_len hl) (whole_look hl)

theorem words_no (r : List Int) (w : World) (ht : Turns w) (hr : r.length = 13) (h64 : ∀ x ∈ r, I64 x) (hb : rightB r = false) :
    Calls Tryd.prog 33 #[.agg (ints r)] w fun e w' => e = .returned (.tuple #[.slice none 0 0, .int .i64 2]) ∧ Keeps [] w w' := by
  refine (words_any r w ht hr h64).mono ?_
  have hwr : wordsR r = (2, []) := by unfold wordsR; rw [if_neg (by simp [hb])]
  rw [hwr]
  rintro e w1 (⟨-, rfl, k1⟩ | ⟨hne, -⟩)
  · exact ⟨rfl, k1⟩
  · exact absurd rfl hne
theorem words_yes (r : List Int) (w : World) (ht : Turns w) (hr : r.length = 13) (h64 : ∀ x ∈ r, I64 x) (hb : rightB r = true) :
    Calls Tryd.prog 33 #[.agg (ints r)] w fun e w' => ∃ g cc, e = .returned (.tuple #[.slice (some ⟨g, 0, none⟩) 16 cc, .int .i64 0]) ∧ w.heap.size ≤ g ∧ Arr w' g cc (wordsL r) ∧ Keeps [] w w' := by
  refine (words_any r w ht hr h64).mono ?_
  have hwr : wordsR r = (0, wordsL r) := by unfold wordsR; rw [if_pos hb]
  have hl := wordsL_len hr
  rw [hwr]
  rintro e w1 (⟨he, -⟩ | ⟨-, g, cc, rfl, hg, hA, hk⟩)
  · simp only at he
    rw [he] at hl
    simp at hl
  · simp only at hA ⊢
    rw [hl]
    exact ⟨g, cc, rfl, hg, hA, hk⟩

set_option maxHeartbeats 2000000 in
theorem whole_any (a : Option Addr) (n c : Nat) (xs r : List Int) (w : World) (ht : Turns w) (hi : IntsAt w a n xs) (hn : n ≤ maxLen) (hr : r.length = 13) (h64 : ∀ x ∈ r, I64 x) :
    Calls Tryd.prog 36 #[.agg (readA (.slice a n c) r)] w fun e w' => e = .returned (.bool (wholeP r xs)) ∧ Keeps [] w w' := by
  have h0 : RdAt (w.alloc (.cells (readA (.slice a n c) r) 77)) w.heap.size (.slice a n c) r := heap_alloc_new w _
  have k0 : Keeps [] w (w.alloc (.cells (readA (.slice a n c) r) 77)) := (Keeps.refl _ _).alloc _
  obtain ⟨b, hb⟩ : ∃ b, b = wholeP r xs := ⟨_, rfl⟩
  rw [← hb]
  unfold wholeP at hb
  have HI := Lib.hid hi
  have HT := Lib.hid (ht.keep k0)
  have HR := Lib.hid hr
  have H64 := Lib.hid h64
  have HB := Lib.hid hb
  have HN := Lib.hid hn
  clear hi ht hr h64 hb hn
  go_enter Tryd.func36, Tryd.ntmps36
  go_upto_region 1 with fail
  generalize w.alloc (.cells (readA (.slice a n c) r) 77) = w0 at *
  have K0 := Lib.hid k0
  have H0 := Lib.hid h0
  clear k0
  cases hrb : rightB r
  · have hfin : b = false := by rw [HB.out, hrb]; rfl
    have HF := Lib.hid hfin
    have HRB := Lib.hid hrb
    clear hfin hrb
    go_wp2_with (first
      | (refine ld_rdrec _ h0 HR.out rfl rfl rfl ?_; simp only [Act.put])
      | (go_at_call 33; refine (words_no r _ HT.out HR.out H64.out HRB.out).mono ?_; rintro e w1 ⟨rfl, k1⟩; have K1 := Lib.hid (K0.out.trans0 k1); clear k1))
    go_ret
    rw [HF.out]
    exact ⟨rfl, K1.out⟩
  · have hfin : b = decide (wordsL r = xs) := by rw [HB.out, hrb]; rfl
    have HF := Lib.hid hfin
    have HRB := Lib.hid hrb
    clear hfin hrb
    go_wp2_with (first
      | (refine ld_rdrec _ h0 HR.out rfl rfl rfl ?_; simp only [Act.put]; clear h0)
      | (go_at_call 33; refine (words_yes r _ HT.out HR.out H64.out HRB.out).mono ?_; rintro e w1 ⟨g, cc, rfl, hg, hA, k1⟩; have K1 := Lib.hid (K0.out.trans0 k1); have HA := Lib.hid hA; have HI1 := Lib.hid (HI.out.keep0 K1.out); have hc0 := rd_first (RdAt.keep H0.out k1); clear k1 hA hg)
      | (go_at_call 43; refine (equal_any _ _ 16 n _ _ (wordsL r) xs _ (by have := HA.out.ints; rw [wordsL_len HR.out] at this; exact this) HI1.out (by unfold maxLen; omega) HN.out).mono ?_; rintro e w2 ⟨he, m, rfl⟩; rw [← HF.out] at he; subst he))
    go_ret
    exact ⟨rfl, K1.out.drewN _⟩

set_option maxHeartbeats 2000000 in
theorem read_any (a : Option Addr) (n c : Nat) (xs : List Int) (w : World) (ht : Turns w) (hi : IntsAt w a n xs) (hn : n ≤ c) (hc : c ≤ maxLen) (h64 : ∀ x ∈ xs, I64 x) :
    Calls Tryd.prog 24 #[.slice a n c] w fun e w' => e = .returned (.tuple #[.agg (ints (readR xs).2), .int .i64 (readR xs).1]) ∧ Keeps [] w w' := by
  have h0 : RecAt (w.alloc (.cells (ints (zer 13)) 50)) w.heap.size (zer 13) := heap_alloc_new w _
  have k0 : Keeps [] w (w.alloc (.cells (ints (zer 13)) 50)) := (Keeps.refl _ _).alloc _
  obtain ⟨R, hR⟩ : ∃ R, R = readR xs := ⟨_, rfl⟩
  rw [← hR]
  have HR := Lib.hid hR
  have HI := Lib.hid (hi.keep0 k0)
  have HT := Lib.hid (ht.keep k0)
  have HN := Lib.hid hn
  have HC := Lib.hid hc
  have H64 := Lib.hid (lookL_64 h64)
  have HLEN := Lib.hid (show n = xs.length from hi.1)
  clear hi ht h64 hR
  go_enter Tryd.func24, Tryd.ntmps24
  go_upto_region 1 with fail
  simp only [zeros13]
  generalize w.alloc (.cells (ints (zer 13)) 50) = w0 at *
  have H0 := Lib.hid h0
  have K0 := Lib.hid k0
  clear k0
  by_cases h16 : n = 16
  · have hb : ((n : Int) != 16) = false := by simp [h16]
    have hl := HLEN.out
    rw [h16] at hl
    have HL := Lib.hid hl.symm
    have HLL := Lib.hid (lookL_len hl.symm)
    have H16 := Lib.hid h16
    have hwl := wholeP_look hl.symm
    have HW := Lib.hid hwl
    have hrd : R = if wholeB xs = true then (0, recOf xs) else (60, zer 13) := by rw [HR.out]; unfold readR; rw [if_pos hl.symm]
    have HRD := Lib.hid hrd
    have hlt := lt_of_block h0
    clear h16 hl hwl hrd h0
    go_wp2_with fail
    refine (look_any a n c xs _ HI.out HN.out HC.out H16.out).mono ?_
    rintro e w2 ⟨rfl, k2⟩
    have HI2 := Lib.hid (HI.out.keep0 k2)
    have HT2 := Lib.hid (HT.out.keep k2)
    have K2 := Lib.hid (K0.out.trans0 k2)
    have H2 := Lib.hid (H0.out.keep k2 (by simp))
    have hks := k2.size
    clear k2
    have hA : RdAt (w2.alloc (.cells (readA (.slice none 0 0) (zer 13)) 77)) w2.heap.size (.slice none 0 0) (zer 13) := heap_alloc_new w2 _
    have KA := Lib.hid ((Keeps.refl [] w2).alloc (.cells (readA (.slice none 0 0) (zer 13)) 77))
    obtain ⟨b, hbw⟩ : ∃ b, b = wholeB xs := ⟨_, rfl⟩
    have HB := Lib.hid hbw
    clear hbw
    cases b
    · have hfin : R = (60, zer 13) := by rw [HRD.out, ← HB.out]; rfl
      have HF := Lib.hid hfin
      clear hfin
      go_wp2_with (first
        | (simp only [rd_lit])
        | (refine st_rd _ _ hA (zer_len _) HLL.out rfl rfl rfl rfl rfl ?_; intro w3 h3 k3 s3; simp only [Act.put]; have k4 : Keeps [] w2 w3 := KA.out.trans k3 (by intro y hy; right; simp at hy; omega); have HI3 := Lib.hid (HI2.out.keep0 k4); have HT3 := Lib.hid (HT2.out.keep k4); have K3 := Lib.hid (K2.out.trans0 k4); have H3 := Lib.hid (H2.out.keep k4 (by simp)); have R3 := Lib.hid h3; clear hA k3 k4 s3)
        | (refine ld_rd _ h3 HLL.out rfl rfl rfl ?_; simp only [Act.put]; clear h3)
        | (go_at_call 36; refine (whole_any a n c xs (lookL xs) _ HT3.out HI3.out (Nat.le_trans HN.out HC.out) HLL.out H64.out).mono ?_; rw [HW.out, ← HB.out]; rintro e w4 ⟨rfl, k4⟩; have K4 := Lib.hid (K3.out.trans0 k4); have H4 := H3.out.keep k4 (by simp); have R4 := RdAt.keep R3.out k4; clear k4)
        | (simp only [build0])
        | (refine st_rec _ _ H4 (zer_len _) (zer_len 13) rfl rfl rfl rfl ?_; intro w5 h5 k5 s5; simp only [Act.put]))
      rw [HF.out]
      refine bodyPost_ret (ret_rec2 rfl h5 (zer_len _) rfl) rfl ⟨rfl, K4.out.trans k5 (by simp)⟩
    · have hfin : R = (0, lookL xs) := by rw [HRD.out, ← HB.out, whole_look HL.out HB.out.symm]; rfl
      have HF := Lib.hid hfin
      clear hfin
      go_wp2_with (first
        | (simp only [rd_lit])
        | (refine st_rd _ _ hA (zer_len _) HLL.out rfl rfl rfl rfl rfl ?_; intro w3 h3 k3 s3; simp only [Act.put]; have k4 : Keeps [] w2 w3 := KA.out.trans k3 (by intro y hy; right; simp at hy; omega); have HI3 := Lib.hid (HI2.out.keep0 k4); have HT3 := Lib.hid (HT2.out.keep k4); have K3 := Lib.hid (K2.out.trans0 k4); have H3 := Lib.hid (H2.out.keep k4 (by simp)); have R3 := Lib.hid h3; clear hA k3 k4 s3)
        | (refine ld_rd _ h3 HLL.out rfl rfl rfl ?_; simp only [Act.put]; clear h3)
        | (go_at_call 36; refine (whole_any a n c xs (lookL xs) _ HT3.out HI3.out (Nat.le_trans HN.out HC.out) HLL.out H64.out).mono ?_; rw [HW.out, ← HB.out]; rintro e w4 ⟨rfl, k4⟩; have K4 := Lib.hid (K3.out.trans0 k4); have H4 := H3.out.keep k4 (by simp); have R4 := RdAt.keep R3.out k4; clear k4)
        | (refine ld_rdrec _ R4 HLL.out rfl rfl rfl ?_; simp only [Act.put])
        | (refine st_rec _ _ H4 (zer_len _) HLL.out rfl rfl rfl rfl ?_; intro w5 h5 k5 s5; simp only [Act.put]))
      rw [HF.out]
      refine bodyPost_ret (ret_rec2 rfl h5 HLL.out rfl) rfl ⟨rfl, K4.out.trans k5 (by simp)⟩
  · have hb : ((n : Int) != 16) = true := by simp; omega
    have hfin : R = (2, zer 13) := by rw [HR.out]; unfold readR; rw [if_neg (by rw [← HLEN.out]; exact h16)]
    have HF := Lib.hid hfin
    clear h16 hfin
    go_wp2_with (first
      | (simp only [build0])
      | (refine st_rec _ _ h0 (zer_len _) (zer_len 13) rfl rfl rfl rfl ?_; intro w5 h5 k5 s5; simp only [Act.put]))
    rw [HF.out]
    refine bodyPost_ret (ret_rec2 rfl h5 (zer_len _) rfl) rfl ⟨rfl, K0.out.trans k5 (by simp)⟩

end Go.Proofs.YtihpmnnbiabggaaDoor
