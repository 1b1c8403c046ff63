
/- group: a slot is looked at, and Scan: contracts. No condition but lengths, that all are numbers of 64 bits, and the table of the sums. -/
import Derived.Test.YtihpmnnbiabggaaDoorRh
namespace Go.Proofs.YtihpmnnbiabggaaDoor
open Go.RowKit Go.Shelf
set_option linter.unusedVariables false
set_option linter.unusedSimpArgs false
set_option maxRecDepth 100000

theorem readR_64 (s : List Int) : ∀ x ∈ (readR s).2, I64 x := by
  unfold readR
  split
  · split
    · rename_i hw
      exact recOf_64 (whole_out hw).1
    · intro x hx
      simp [zer] at hx
      rw [hx]
      unfold I64; omega
  · intro x hx
    simp [zer] at hx
    rw [hx]
    unfold I64; omega
theorem isR_many {r : List Int} (h : (isR r).2.2 = true) : 1 ≤ (isR r).1 ∧ (isR r).1 ≤ 4 := by
  unfold isR at h ⊢
  split
  · rename_i hd
    rw [decide_eq_true_eq] at hd
    unfold commitR at hd
    split at hd
    · rename_i hc
      exact hc.2
    · simp at hd
  · rename_i hd
    rw [if_neg hd] at h
    simp at h
/-- What makes records count, in the program's order. -/
theorem recs_split (q : Int) : ∀ (ss : List (List Int)) (last : Int), recsOk q last ss = ((ss.all fun s => decide ((readR s).1 = 0)) && (risingB (last + 1) (ss.map fun s => (readR s).2) && alikeB q (ss.map fun s => (readR s).2)))
  | [], _ => rfl
  | s :: ss, last => by
    simp only [recsOk, List.all_cons, List.map_cons, risingB, alikeB, recs_split q ss]
    rw [show decide (last + 1 ≤ (readR s).2.getD 0 0) = decide (last < (readR s).2.getD 0 0) by apply decide_eq_decide.2; omega, show ((readR s).2.getD 1 0 == q) = decide ((readR s).2.getD 1 0 = q) by rw [Bool.eq_iff_iff]; simp]
    cases decide ((readR s).1 = 0) <;> cases decide ((readR s).2.getD 0 0 < 4) <;> cases decide (last < (readR s).2.getD 0 0) <;> cases decide ((readR s).2.getD 1 0 = q) <;> simp
theorem live_map : ∀ (ss : List (List Int)) (live : List Int), liveAll live ss = liveRecs live (ss.map fun s => (readR s).2)
  | [], _ => rfl
  | s :: ss, live => live_map ss _
theorem rising_low : ∀ {rs : List (List Int)} {least : Int}, 0 ≤ least → risingB least rs = true → ∀ r ∈ rs, 0 ≤ r.getD 0 0 ∧ r.getD 0 0 < 4
  | [], _, _, _, r, hr => by simp at hr
  | s :: rs, least, h0, h, r, hr => by
    simp only [risingB, Bool.and_eq_true, decide_eq_true_eq] at h
    rcases List.mem_cons.1 hr with rfl | hr
    · exact ⟨by omega, h.1.2⟩
    · exact rising_low (by omega) h.2 r hr

/-- What is found behind a slot that is looked at. -/
def lookF (xs : List Int) (f : Fnd) (k : Nat) : Fnd :=
  if countsB ((slotsL xs).take k) f (slotA xs k) = true then
    ⟨true, (readR (slotA xs k)).2.getD 1 0, liveAll f.live (aheadL xs k (isR (readR (slotA xs k)).2).1.toNat), f.com + 1, f.free⟩
  else f
theorem lookF_is {xs : List Int} {f : Fnd} {k m : Nat} {q : Int} {first : Bool} {R : Int × List Int} (hk : k < xs.length / 16) (hR : R = readR (slotA xs k)) (h0 : R.1 = 0) (hI : isR R.2 = ((m : Int), first, true)) (hq : R.2.getD 1 0 = q) :
    lookF xs f k = if (aheadB xs k m && (risingB 0 ((aheadL xs k m).map fun s => (readR s).2) && (alikeB q ((aheadL xs k m).map fun s => (readR s).2) && followsB f q m first))) = true then
      ⟨true, q, liveRecs f.live ((aheadL xs k m).map fun s => (readR s).2), f.com + 1, f.free⟩ else f := by
  unfold lookF
  rw [← hR, hI, hq, live_map]
  simp only [Int.toNat_natCast]
  have e : countsB ((slotsL xs).take k) f (slotA xs k) = (aheadB xs k m && (risingB 0 ((aheadL xs k m).map fun s => (readR s).2) && (alikeB q ((aheadL xs k m).map fun s => (readR s).2) && followsB f q m first))) := by
    unfold countsB aheadB followsB aheadL
    rw [← hR, hI, hq, decide_eq_true h0]
    simp only [Int.toNat_natCast, Bool.true_and]
    rw [recs_split, List.length_take, slotsL_len, Nat.min_eq_left (by omega), (decide_eq_decide.2 Int.ofNat_le : decide ((m : Int) ≤ (k : Int)) = decide (m ≤ k)), show (-1 : Int) + 1 = 0 from rfl]
    simp only [Bool.and_assoc]
  rw [e]
theorem lookF_code {xs : List Int} {f : Fnd} {k : Nat} (h : (readR (slotA xs k)).1 ≠ 0) : lookF xs f k = f := by
  unfold lookF
  rw [if_neg]
  unfold countsB
  simp [h]
theorem lookF_not {xs : List Int} {f : Fnd} {k : Nat} (h : (isR (readR (slotA xs k)).2).2.2 = false) : lookF xs f k = f := by
  unfold lookF
  rw [if_neg]
  unfold countsB
  simp [h]

set_option maxHeartbeats 4000000 in
theorem glook_any (g : Nat) (a : Option Addr) (n c : Nat) (xs : List Int) (f : Fnd) (k : Nat) (a' : Option Addr) (c' : Nat) (w : World) (ht : Turns w) (hf : FAt w g 42 [.slice a n c] f) (hl : f.live.length = 44) (hc : 0 ≤ f.com ∧ f.com < 9223372036854775807)
    (hi : IntsAt w a n xs) (hn : n ≤ c) (hcm : c ≤ maxLen) (h64 : ∀ x ∈ xs, I64 x) (hk : k < n / 16) (hs : IntsAt w a' 16 (slotA xs k)) (hc' : 16 ≤ c' ∧ c' ≤ maxLen) :
    Calls Tryd.prog 16 #[.pointer (some ⟨g, 0, none⟩), .int .i64 (k : Int), .slice a' 16 c'] w fun e w' => (∃ v, e = .returned v) ∧ FAt w' g 42 [.slice a n c] (lookF xs f k) ∧ Keeps [g] w w' := by
  have hxl := hi.1
  obtain ⟨R, hR⟩ : ∃ R, R = readR (slotA xs k) := ⟨_, rfl⟩
  have hR13 : R.2.length = 13 := by rw [hR]; exact readR_len _
  have hR64 : ∀ x ∈ R.2, I64 x := by rw [hR]; exact readR_64 _
  have hs64 : ∀ x ∈ slotA xs k, I64 x := fun x hx => h64 x (List.mem_of_mem_drop (List.mem_of_mem_take hx))
  obtain ⟨q, hq⟩ : ∃ q, q = R.2.getD 1 0 := ⟨_, rfl⟩
  obtain ⟨L, hL⟩ : ∃ L, L = lookF xs f k := ⟨_, rfl⟩
  rw [← hL]
  have hgw := hf.lt
  have hsv : w.cell? ⟨g, 0, none⟩ = some (.slice a n c) := hf.cellAt rfl
  have HT := Lib.hid ht
  have HF := Lib.hid hf
  have HLV := Lib.hid hl
  have HI := Lib.hid hi
  have HN := Lib.hid hn
  have HCM := Lib.hid hcm
  have H64 := Lib.hid h64
  have HKN := Lib.hid hk
  have HS := Lib.hid hs
  have HC' := Lib.hid hc'
  have HXL := Lib.hid hxl
  have HR := Lib.hid hR
  have HR13 := Lib.hid hR13
  have HR64 := Lib.hid hR64
  have HS64 := Lib.hid hs64
  have HQ := Lib.hid hq
  have HL := Lib.hid hL
  have HCC := Lib.hid hc
  have HSV := Lib.hid hsv
  clear ht hf hl hi hn hcm h64 hk hs hc' hxl hR hR13 hR64 hs64 hq hL hc hsv
  by_cases h0 : R.1 = 0
  · have hb : (R.1 != 0) = false := by simp [h0]
    have H0 := Lib.hid h0
    clear h0
    cases his : (isR R.2).2.2
    · have HIS := Lib.hid his
      have HFIN := Lib.hid (show L = f by rw [HL.out]; exact lookF_not (by rw [← HR.out]; exact HIS.out))
      clear his
      go_enter Tryd.func16, Tryd.ntmps16
      go_wp2_with (first
        | (go_at_call 24; refine (read_any _ _ _ _ _ HT.out HS.out HC'.out.1 HC'.out.2 HS64.out).mono ?_; rw [← HR.out]; rintro e u2 ⟨rfl, k2⟩; have hA : RecAt (u2.alloc (.cells (ints (zer 13)) 50)) u2.heap.size (zer 13) := heap_alloc_new u2 _; have KA := Lib.hid (k2.alloc (.cells (ints (zer 13)) 50)); have hu2 := k2.size; clear k2)
        | (simp only [zeros13])
        | (refine st_rec _ _ hA (zer_len _) HR13.out rfl rfl rfl rfl ?_; intro u3 h3 k3 s3; simp only [Act.put]; have K3 := Lib.hid (KA.out.trans k3 (by intro x hx; right; simp at hx; omega)); clear hA k3)
        | (refine ld_rec _ h3 HR13.out rfl rfl rfl ?_; simp only [Act.put])
        | (go_at_call 25; refine (isCommit_any _ _ HR13.out HR64.out).mono ?_; (first | (rw [HII.out]) | (rw [HIS.out])); rintro e u4 ⟨rfl, k4⟩; have h4 := h3.keep k4 (by simp); have c4 := h4.cell 1 (by rw [HR13.out]; decide); rw [← HQ.out] at c4; have K4 := Lib.hid (K3.out.trans0 k4); have F4 := Lib.hid (HF.out.keep K4.out (by simp)); have hv4 := F4.out.cellAt (i := 0) rfl; clear k4 h3)
        | (go_at_call 26; refine (follows_any g _ f q m first _ F4.out).mono ?_; rw [HFO.out]; rintro e w' ⟨rfl, rfl⟩)
        | (go_at_call 27; refine (ahead_any a n c k m xs _ (HT.out.keep K4.out) (HI.out.keep0 K4.out) HN.out HCM.out H64.out (Nat.le_of_lt HKN.out) HM4.out).mono ?_; rw [HOK.out]; rintro e u5 ⟨v5, d5, rfl, k5, r5⟩; simp only [if_true, if_false, Bool.false_eq_true]; have h5 := h4.keep k5 (by simp); have c5 := h5.cell 1 (by rw [HR13.out]; decide); rw [← HQ.out] at c5; have K5 := Lib.hid (K4.out.trans0 k5); have R5 := Lib.hid r5; have H5 := Lib.hid h5; have hu4 := K4.out.size; clear k5 r5 h4 c4 h5)
        | (go_at_call 18; refine (rising_any _ _ _ rs _ (by rw [HRS.out]; exact (R5.out rfl).1) (by have := HM4.out; unfold maxLen; omega)).mono ?_; rw [HRI.out]; rintro e u6 ⟨rfl, k6⟩; have h6 := H5.out.keep k6 (by simp); have c6 := h6.cell 1 (by rw [HR13.out]; decide); rw [← HQ.out] at c6; have K6 := Lib.hid (K5.out.trans0 k6); have R6 := Lib.hid (((R5.out rfl).1).keep0 k6); have H6 := Lib.hid h6; clear k6 h6 c5)
        | (go_at_call 28; refine (alike_any q _ _ _ rs _ (by rw [HRS.out]; exact R6.out) (by have := HM4.out; unfold maxLen; omega)).mono ?_; rw [HAL.out]; rintro e u7 ⟨rfl, k7⟩; have h7 := H6.out.keep k7 (by simp); have c7 := h7.cell 1 (by rw [HR13.out]; decide); rw [← HQ.out] at c7; have K7 := Lib.hid (K6.out.trans0 k7); have R7 := Lib.hid (R6.out.keep0 k7); clear k7 h7 c6)
        | (go_at_call 29; refine (count_any g _ f q _ m _ rs _ (HF.out.keep K7.out (by simp)) HLV.out (by rw [HRS.out]; exact R7.out) (by intro b o s e; have := (R5.out rfl).2.2.2 b o s e; omega) (by have := HM4.out; unfold maxLen; omega) HKD.out HCC.out).mono ?_; rintro e u8 ⟨⟨v8, rfl⟩, f8, k8⟩; have F8 := Lib.hid f8; have K8 := Lib.hid k8; clear f8 k8))
      refine bodyPost_ret (results_none rfl _ _ _) rfl ?_
      exact ⟨⟨_, rfl⟩, by rw [HFIN.out]; exact HF.out.keep K4.out (by simp), K4.out.mono (by simp)⟩
    · obtain ⟨m, hm⟩ := Int.eq_ofNat_of_zero_le (show 0 ≤ (isR R.2).1 by have := isR_many his; omega)
      have hmb := isR_many his
      obtain ⟨first, hfi⟩ : ∃ b, b = (isR R.2).2.1 := ⟨_, rfl⟩
      have hI : isR R.2 = ((m : Int), first, true) := by rw [← hm, hfi, ← his]
      have hm4 : 1 ≤ m ∧ m ≤ 4 := by omega
      obtain ⟨rs, hrs⟩ : ∃ rs, rs = (aheadL xs k m).map fun s => (readR s).2 := ⟨_, rfl⟩
      have hLF := lookF_is (xs := xs) (f := f) (k := k) (by rw [← HXL.out]; exact HKN.out) HR.out H0.out hI HQ.out.symm
      rw [← HL.out, ← hrs] at hLF
      have HLF := Lib.hid hLF
      have HII := Lib.hid hI
      have HM4 := Lib.hid hm4
      have HRS := Lib.hid hrs
      clear his hm hmb hfi hI hm4 hLF hrs
      cases hfo : followsB f q m first
      · have HFO := Lib.hid hfo
        have HFIN := Lib.hid (show L = f by rw [HLF.out, hfo]; simp)
        clear hfo
        go_enter Tryd.func16, Tryd.ntmps16
        go_wp2_with (first
        | (go_at_call 24; refine (read_any _ _ _ _ _ HT.out HS.out HC'.out.1 HC'.out.2 HS64.out).mono ?_; rw [← HR.out]; rintro e u2 ⟨rfl, k2⟩; have hA : RecAt (u2.alloc (.cells (ints (zer 13)) 50)) u2.heap.size (zer 13) := heap_alloc_new u2 _; have KA := Lib.hid (k2.alloc (.cells (ints (zer 13)) 50)); have hu2 := k2.size; clear k2)
        | (simp only [zeros13])
        | (refine st_rec _ _ hA (zer_len _) HR13.out rfl rfl rfl rfl ?_; intro u3 h3 k3 s3; simp only [Act.put]; have K3 := Lib.hid (KA.out.trans k3 (by intro x hx; right; simp at hx; omega)); clear hA k3)
        | (refine ld_rec _ h3 HR13.out rfl rfl rfl ?_; simp only [Act.put])
        | (go_at_call 25; refine (isCommit_any _ _ HR13.out HR64.out).mono ?_; (first | (rw [HII.out]) | (rw [HIS.out])); rintro e u4 ⟨rfl, k4⟩; have h4 := h3.keep k4 (by simp); have c4 := h4.cell 1 (by rw [HR13.out]; decide); rw [← HQ.out] at c4; have K4 := Lib.hid (K3.out.trans0 k4); have F4 := Lib.hid (HF.out.keep K4.out (by simp)); have hv4 := F4.out.cellAt (i := 0) rfl; clear k4 h3)
        | (go_at_call 26; refine (follows_any g _ f q m first _ F4.out).mono ?_; rw [HFO.out]; rintro e w' ⟨rfl, rfl⟩)
        | (go_at_call 27; refine (ahead_any a n c k m xs _ (HT.out.keep K4.out) (HI.out.keep0 K4.out) HN.out HCM.out H64.out (Nat.le_of_lt HKN.out) HM4.out).mono ?_; rw [HOK.out]; rintro e u5 ⟨v5, d5, rfl, k5, r5⟩; simp only [if_true, if_false, Bool.false_eq_true]; have h5 := h4.keep k5 (by simp); have c5 := h5.cell 1 (by rw [HR13.out]; decide); rw [← HQ.out] at c5; have K5 := Lib.hid (K4.out.trans0 k5); have R5 := Lib.hid r5; have H5 := Lib.hid h5; have hu4 := K4.out.size; clear k5 r5 h4 c4 h5)
        | (go_at_call 18; refine (rising_any _ _ _ rs _ (by rw [HRS.out]; exact (R5.out rfl).1) (by have := HM4.out; unfold maxLen; omega)).mono ?_; rw [HRI.out]; rintro e u6 ⟨rfl, k6⟩; have h6 := H5.out.keep k6 (by simp); have c6 := h6.cell 1 (by rw [HR13.out]; decide); rw [← HQ.out] at c6; have K6 := Lib.hid (K5.out.trans0 k6); have R6 := Lib.hid (((R5.out rfl).1).keep0 k6); have H6 := Lib.hid h6; clear k6 h6 c5)
        | (go_at_call 28; refine (alike_any q _ _ _ rs _ (by rw [HRS.out]; exact R6.out) (by have := HM4.out; unfold maxLen; omega)).mono ?_; rw [HAL.out]; rintro e u7 ⟨rfl, k7⟩; have h7 := H6.out.keep k7 (by simp); have c7 := h7.cell 1 (by rw [HR13.out]; decide); rw [← HQ.out] at c7; have K7 := Lib.hid (K6.out.trans0 k7); have R7 := Lib.hid (R6.out.keep0 k7); clear k7 h7 c6)
        | (go_at_call 29; refine (count_any g _ f q _ m _ rs _ (HF.out.keep K7.out (by simp)) HLV.out (by rw [HRS.out]; exact R7.out) (by intro b o s e; have := (R5.out rfl).2.2.2 b o s e; omega) (by have := HM4.out; unfold maxLen; omega) HKD.out HCC.out).mono ?_; rintro e u8 ⟨⟨v8, rfl⟩, f8, k8⟩; have F8 := Lib.hid f8; have K8 := Lib.hid k8; clear f8 k8))
        refine bodyPost_ret (results_none rfl _ _ _) rfl ?_
        exact ⟨⟨_, rfl⟩, by rw [HFIN.out]; exact HF.out.keep K4.out (by simp), K4.out.mono (by simp)⟩
      · have HFO := Lib.hid hfo
        rw [hfo] at HLF
        clear hfo
        cases hok : aheadB xs k m
        · have HOK := Lib.hid hok
          have HFIN := Lib.hid (show L = f by rw [HLF.out, hok]; simp)
          clear hok
          go_enter Tryd.func16, Tryd.ntmps16
          go_wp2_with (first
        | (go_at_call 24; refine (read_any _ _ _ _ _ HT.out HS.out HC'.out.1 HC'.out.2 HS64.out).mono ?_; rw [← HR.out]; rintro e u2 ⟨rfl, k2⟩; have hA : RecAt (u2.alloc (.cells (ints (zer 13)) 50)) u2.heap.size (zer 13) := heap_alloc_new u2 _; have KA := Lib.hid (k2.alloc (.cells (ints (zer 13)) 50)); have hu2 := k2.size; clear k2)
        | (simp only [zeros13])
        | (refine st_rec _ _ hA (zer_len _) HR13.out rfl rfl rfl rfl ?_; intro u3 h3 k3 s3; simp only [Act.put]; have K3 := Lib.hid (KA.out.trans k3 (by intro x hx; right; simp at hx; omega)); clear hA k3)
        | (refine ld_rec _ h3 HR13.out rfl rfl rfl ?_; simp only [Act.put])
        | (go_at_call 25; refine (isCommit_any _ _ HR13.out HR64.out).mono ?_; (first | (rw [HII.out]) | (rw [HIS.out])); rintro e u4 ⟨rfl, k4⟩; have h4 := h3.keep k4 (by simp); have c4 := h4.cell 1 (by rw [HR13.out]; decide); rw [← HQ.out] at c4; have K4 := Lib.hid (K3.out.trans0 k4); have F4 := Lib.hid (HF.out.keep K4.out (by simp)); have hv4 := F4.out.cellAt (i := 0) rfl; clear k4 h3)
        | (go_at_call 26; refine (follows_any g _ f q m first _ F4.out).mono ?_; rw [HFO.out]; rintro e w' ⟨rfl, rfl⟩)
        | (go_at_call 27; refine (ahead_any a n c k m xs _ (HT.out.keep K4.out) (HI.out.keep0 K4.out) HN.out HCM.out H64.out (Nat.le_of_lt HKN.out) HM4.out).mono ?_; rw [HOK.out]; rintro e u5 ⟨v5, d5, rfl, k5, r5⟩; simp only [if_true, if_false, Bool.false_eq_true]; have h5 := h4.keep k5 (by simp); have c5 := h5.cell 1 (by rw [HR13.out]; decide); rw [← HQ.out] at c5; have K5 := Lib.hid (K4.out.trans0 k5); have R5 := Lib.hid r5; have H5 := Lib.hid h5; have hu4 := K4.out.size; clear k5 r5 h4 c4 h5)
        | (go_at_call 18; refine (rising_any _ _ _ rs _ (by rw [HRS.out]; exact (R5.out rfl).1) (by have := HM4.out; unfold maxLen; omega)).mono ?_; rw [HRI.out]; rintro e u6 ⟨rfl, k6⟩; have h6 := H5.out.keep k6 (by simp); have c6 := h6.cell 1 (by rw [HR13.out]; decide); rw [← HQ.out] at c6; have K6 := Lib.hid (K5.out.trans0 k6); have R6 := Lib.hid (((R5.out rfl).1).keep0 k6); have H6 := Lib.hid h6; clear k6 h6 c5)
        | (go_at_call 28; refine (alike_any q _ _ _ rs _ (by rw [HRS.out]; exact R6.out) (by have := HM4.out; unfold maxLen; omega)).mono ?_; rw [HAL.out]; rintro e u7 ⟨rfl, k7⟩; have h7 := H6.out.keep k7 (by simp); have c7 := h7.cell 1 (by rw [HR13.out]; decide); rw [← HQ.out] at c7; have K7 := Lib.hid (K6.out.trans0 k7); have R7 := Lib.hid (R6.out.keep0 k7); clear k7 h7 c6)
        | (go_at_call 29; refine (count_any g _ f q _ m _ rs _ (HF.out.keep K7.out (by simp)) HLV.out (by rw [HRS.out]; exact R7.out) (by intro b o s e; have := (R5.out rfl).2.2.2 b o s e; omega) (by have := HM4.out; unfold maxLen; omega) HKD.out HCC.out).mono ?_; rintro e u8 ⟨⟨v8, rfl⟩, f8, k8⟩; have F8 := Lib.hid f8; have K8 := Lib.hid k8; clear f8 k8))
          go_end0
          exact ⟨⟨_, rfl⟩, by rw [HFIN.out]; exact HF.out.keep K5.out (by simp), K5.out.mono (by simp)⟩
        · have HOK := Lib.hid hok
          rw [hok] at HLF
          clear hok
          cases hri : risingB 0 rs
          · have HRI := Lib.hid hri
            have HFIN := Lib.hid (show L = f by rw [HLF.out, hri]; simp)
            clear hri
            go_enter Tryd.func16, Tryd.ntmps16
            go_wp2_with (first
        | (go_at_call 24; refine (read_any _ _ _ _ _ HT.out HS.out HC'.out.1 HC'.out.2 HS64.out).mono ?_; rw [← HR.out]; rintro e u2 ⟨rfl, k2⟩; have hA : RecAt (u2.alloc (.cells (ints (zer 13)) 50)) u2.heap.size (zer 13) := heap_alloc_new u2 _; have KA := Lib.hid (k2.alloc (.cells (ints (zer 13)) 50)); have hu2 := k2.size; clear k2)
        | (simp only [zeros13])
        | (refine st_rec _ _ hA (zer_len _) HR13.out rfl rfl rfl rfl ?_; intro u3 h3 k3 s3; simp only [Act.put]; have K3 := Lib.hid (KA.out.trans k3 (by intro x hx; right; simp at hx; omega)); clear hA k3)
        | (refine ld_rec _ h3 HR13.out rfl rfl rfl ?_; simp only [Act.put])
        | (go_at_call 25; refine (isCommit_any _ _ HR13.out HR64.out).mono ?_; (first | (rw [HII.out]) | (rw [HIS.out])); rintro e u4 ⟨rfl, k4⟩; have h4 := h3.keep k4 (by simp); have c4 := h4.cell 1 (by rw [HR13.out]; decide); rw [← HQ.out] at c4; have K4 := Lib.hid (K3.out.trans0 k4); have F4 := Lib.hid (HF.out.keep K4.out (by simp)); have hv4 := F4.out.cellAt (i := 0) rfl; clear k4 h3)
        | (go_at_call 26; refine (follows_any g _ f q m first _ F4.out).mono ?_; rw [HFO.out]; rintro e w' ⟨rfl, rfl⟩)
        | (go_at_call 27; refine (ahead_any a n c k m xs _ (HT.out.keep K4.out) (HI.out.keep0 K4.out) HN.out HCM.out H64.out (Nat.le_of_lt HKN.out) HM4.out).mono ?_; rw [HOK.out]; rintro e u5 ⟨v5, d5, rfl, k5, r5⟩; simp only [if_true, if_false, Bool.false_eq_true]; have h5 := h4.keep k5 (by simp); have c5 := h5.cell 1 (by rw [HR13.out]; decide); rw [← HQ.out] at c5; have K5 := Lib.hid (K4.out.trans0 k5); have R5 := Lib.hid r5; have H5 := Lib.hid h5; have hu4 := K4.out.size; clear k5 r5 h4 c4 h5)
        | (go_at_call 18; refine (rising_any _ _ _ rs _ (by rw [HRS.out]; exact (R5.out rfl).1) (by have := HM4.out; unfold maxLen; omega)).mono ?_; rw [HRI.out]; rintro e u6 ⟨rfl, k6⟩; have h6 := H5.out.keep k6 (by simp); have c6 := h6.cell 1 (by rw [HR13.out]; decide); rw [← HQ.out] at c6; have K6 := Lib.hid (K5.out.trans0 k6); have R6 := Lib.hid (((R5.out rfl).1).keep0 k6); have H6 := Lib.hid h6; clear k6 h6 c5)
        | (go_at_call 28; refine (alike_any q _ _ _ rs _ (by rw [HRS.out]; exact R6.out) (by have := HM4.out; unfold maxLen; omega)).mono ?_; rw [HAL.out]; rintro e u7 ⟨rfl, k7⟩; have h7 := H6.out.keep k7 (by simp); have c7 := h7.cell 1 (by rw [HR13.out]; decide); rw [← HQ.out] at c7; have K7 := Lib.hid (K6.out.trans0 k7); have R7 := Lib.hid (R6.out.keep0 k7); clear k7 h7 c6)
        | (go_at_call 29; refine (count_any g _ f q _ m _ rs _ (HF.out.keep K7.out (by simp)) HLV.out (by rw [HRS.out]; exact R7.out) (by intro b o s e; have := (R5.out rfl).2.2.2 b o s e; omega) (by have := HM4.out; unfold maxLen; omega) HKD.out HCC.out).mono ?_; rintro e u8 ⟨⟨v8, rfl⟩, f8, k8⟩; have F8 := Lib.hid f8; have K8 := Lib.hid k8; clear f8 k8))
            go_end0
            exact ⟨⟨_, rfl⟩, by rw [HFIN.out]; exact HF.out.keep K6.out (by simp), K6.out.mono (by simp)⟩
          · have HRI := Lib.hid hri
            rw [hri] at HLF
            have HKD := Lib.hid (rising_low (Int.le_refl 0) hri)
            clear hri
            cases hal : alikeB q rs
            · have HAL := Lib.hid hal
              have HFIN := Lib.hid (show L = f by rw [HLF.out, hal]; simp)
              clear hal
              go_enter Tryd.func16, Tryd.ntmps16
              go_wp2_with (first
        | (go_at_call 24; refine (read_any _ _ _ _ _ HT.out HS.out HC'.out.1 HC'.out.2 HS64.out).mono ?_; rw [← HR.out]; rintro e u2 ⟨rfl, k2⟩; have hA : RecAt (u2.alloc (.cells (ints (zer 13)) 50)) u2.heap.size (zer 13) := heap_alloc_new u2 _; have KA := Lib.hid (k2.alloc (.cells (ints (zer 13)) 50)); have hu2 := k2.size; clear k2)
        | (simp only [zeros13])
        | (refine st_rec _ _ hA (zer_len _) HR13.out rfl rfl rfl rfl ?_; intro u3 h3 k3 s3; simp only [Act.put]; have K3 := Lib.hid (KA.out.trans k3 (by intro x hx; right; simp at hx; omega)); clear hA k3)
        | (refine ld_rec _ h3 HR13.out rfl rfl rfl ?_; simp only [Act.put])
        | (go_at_call 25; refine (isCommit_any _ _ HR13.out HR64.out).mono ?_; (first | (rw [HII.out]) | (rw [HIS.out])); rintro e u4 ⟨rfl, k4⟩; have h4 := h3.keep k4 (by simp); have c4 := h4.cell 1 (by rw [HR13.out]; decide); rw [← HQ.out] at c4; have K4 := Lib.hid (K3.out.trans0 k4); have F4 := Lib.hid (HF.out.keep K4.out (by simp)); have hv4 := F4.out.cellAt (i := 0) rfl; clear k4 h3)
        | (go_at_call 26; refine (follows_any g _ f q m first _ F4.out).mono ?_; rw [HFO.out]; rintro e w' ⟨rfl, rfl⟩)
        | (go_at_call 27; refine (ahead_any a n c k m xs _ (HT.out.keep K4.out) (HI.out.keep0 K4.out) HN.out HCM.out H64.out (Nat.le_of_lt HKN.out) HM4.out).mono ?_; rw [HOK.out]; rintro e u5 ⟨v5, d5, rfl, k5, r5⟩; simp only [if_true, if_false, Bool.false_eq_true]; have h5 := h4.keep k5 (by simp); have c5 := h5.cell 1 (by rw [HR13.out]; decide); rw [← HQ.out] at c5; have K5 := Lib.hid (K4.out.trans0 k5); have R5 := Lib.hid r5; have H5 := Lib.hid h5; have hu4 := K4.out.size; clear k5 r5 h4 c4 h5)
        | (go_at_call 18; refine (rising_any _ _ _ rs _ (by rw [HRS.out]; exact (R5.out rfl).1) (by have := HM4.out; unfold maxLen; omega)).mono ?_; rw [HRI.out]; rintro e u6 ⟨rfl, k6⟩; have h6 := H5.out.keep k6 (by simp); have c6 := h6.cell 1 (by rw [HR13.out]; decide); rw [← HQ.out] at c6; have K6 := Lib.hid (K5.out.trans0 k6); have R6 := Lib.hid (((R5.out rfl).1).keep0 k6); have H6 := Lib.hid h6; clear k6 h6 c5)
        | (go_at_call 28; refine (alike_any q _ _ _ rs _ (by rw [HRS.out]; exact R6.out) (by have := HM4.out; unfold maxLen; omega)).mono ?_; rw [HAL.out]; rintro e u7 ⟨rfl, k7⟩; have h7 := H6.out.keep k7 (by simp); have c7 := h7.cell 1 (by rw [HR13.out]; decide); rw [← HQ.out] at c7; have K7 := Lib.hid (K6.out.trans0 k7); have R7 := Lib.hid (R6.out.keep0 k7); clear k7 h7 c6)
        | (go_at_call 29; refine (count_any g _ f q _ m _ rs _ (HF.out.keep K7.out (by simp)) HLV.out (by rw [HRS.out]; exact R7.out) (by intro b o s e; have := (R5.out rfl).2.2.2 b o s e; omega) (by have := HM4.out; unfold maxLen; omega) HKD.out HCC.out).mono ?_; rintro e u8 ⟨⟨v8, rfl⟩, f8, k8⟩; have F8 := Lib.hid f8; have K8 := Lib.hid k8; clear f8 k8))
              go_end0
              exact ⟨⟨_, rfl⟩, by rw [HFIN.out]; exact HF.out.keep K7.out (by simp), K7.out.mono (by simp)⟩
            · have HAL := Lib.hid hal
              have HFIN := Lib.hid (show L = ⟨true, q, liveRecs f.live rs, f.com + 1, f.free⟩ by rw [HLF.out, hal]; simp)
              clear hal
              go_enter Tryd.func16, Tryd.ntmps16
              go_wp2_with (first
        | (go_at_call 24; refine (read_any _ _ _ _ _ HT.out HS.out HC'.out.1 HC'.out.2 HS64.out).mono ?_; rw [← HR.out]; rintro e u2 ⟨rfl, k2⟩; have hA : RecAt (u2.alloc (.cells (ints (zer 13)) 50)) u2.heap.size (zer 13) := heap_alloc_new u2 _; have KA := Lib.hid (k2.alloc (.cells (ints (zer 13)) 50)); have hu2 := k2.size; clear k2)
        | (simp only [zeros13])
        | (refine st_rec _ _ hA (zer_len _) HR13.out rfl rfl rfl rfl ?_; intro u3 h3 k3 s3; simp only [Act.put]; have K3 := Lib.hid (KA.out.trans k3 (by intro x hx; right; simp at hx; omega)); clear hA k3)
        | (refine ld_rec _ h3 HR13.out rfl rfl rfl ?_; simp only [Act.put])
        | (go_at_call 25; refine (isCommit_any _ _ HR13.out HR64.out).mono ?_; (first | (rw [HII.out]) | (rw [HIS.out])); rintro e u4 ⟨rfl, k4⟩; have h4 := h3.keep k4 (by simp); have c4 := h4.cell 1 (by rw [HR13.out]; decide); rw [← HQ.out] at c4; have K4 := Lib.hid (K3.out.trans0 k4); have F4 := Lib.hid (HF.out.keep K4.out (by simp)); have hv4 := F4.out.cellAt (i := 0) rfl; clear k4 h3)
        | (go_at_call 26; refine (follows_any g _ f q m first _ F4.out).mono ?_; rw [HFO.out]; rintro e w' ⟨rfl, rfl⟩)
        | (go_at_call 27; refine (ahead_any a n c k m xs _ (HT.out.keep K4.out) (HI.out.keep0 K4.out) HN.out HCM.out H64.out (Nat.le_of_lt HKN.out) HM4.out).mono ?_; rw [HOK.out]; rintro e u5 ⟨v5, d5, rfl, k5, r5⟩; simp only [if_true, if_false, Bool.false_eq_true]; have h5 := h4.keep k5 (by simp); have c5 := h5.cell 1 (by rw [HR13.out]; decide); rw [← HQ.out] at c5; have K5 := Lib.hid (K4.out.trans0 k5); have R5 := Lib.hid r5; have H5 := Lib.hid h5; have hu4 := K4.out.size; clear k5 r5 h4 c4 h5)
        | (go_at_call 18; refine (rising_any _ _ _ rs _ (by rw [HRS.out]; exact (R5.out rfl).1) (by have := HM4.out; unfold maxLen; omega)).mono ?_; rw [HRI.out]; rintro e u6 ⟨rfl, k6⟩; have h6 := H5.out.keep k6 (by simp); have c6 := h6.cell 1 (by rw [HR13.out]; decide); rw [← HQ.out] at c6; have K6 := Lib.hid (K5.out.trans0 k6); have R6 := Lib.hid (((R5.out rfl).1).keep0 k6); have H6 := Lib.hid h6; clear k6 h6 c5)
        | (go_at_call 28; refine (alike_any q _ _ _ rs _ (by rw [HRS.out]; exact R6.out) (by have := HM4.out; unfold maxLen; omega)).mono ?_; rw [HAL.out]; rintro e u7 ⟨rfl, k7⟩; have h7 := H6.out.keep k7 (by simp); have c7 := h7.cell 1 (by rw [HR13.out]; decide); rw [← HQ.out] at c7; have K7 := Lib.hid (K6.out.trans0 k7); have R7 := Lib.hid (R6.out.keep0 k7); clear k7 h7 c6)
        | (go_at_call 29; refine (count_any g _ f q _ m _ rs _ (HF.out.keep K7.out (by simp)) HLV.out (by rw [HRS.out]; exact R7.out) (by intro b o s e; have := (R5.out rfl).2.2.2 b o s e; omega) (by have := HM4.out; unfold maxLen; omega) HKD.out HCC.out).mono ?_; rintro e u8 ⟨⟨v8, rfl⟩, f8, k8⟩; have F8 := Lib.hid f8; have K8 := Lib.hid k8; clear f8 k8))
              go_end0
              exact ⟨⟨_, rfl⟩, by rw [HFIN.out]; exact F8.out, (K7.out.mono (by simp)).trans K8.out (by simp)⟩
  · have hb : (R.1 != 0) = true := by simp [h0]
    have HFIN := Lib.hid (show L = f by rw [HL.out]; exact lookF_code (by rw [← HR.out]; exact h0))
    clear h0
    go_enter Tryd.func16, Tryd.ntmps16
    go_wp2_with (first
        | (go_at_call 24; refine (read_any _ _ _ _ _ HT.out HS.out HC'.out.1 HC'.out.2 HS64.out).mono ?_; rw [← HR.out]; rintro e u2 ⟨rfl, k2⟩; have hA : RecAt (u2.alloc (.cells (ints (zer 13)) 50)) u2.heap.size (zer 13) := heap_alloc_new u2 _; have KA := Lib.hid (k2.alloc (.cells (ints (zer 13)) 50)); have hu2 := k2.size; clear k2)
        | (simp only [zeros13])
        | (refine st_rec _ _ hA (zer_len _) HR13.out rfl rfl rfl rfl ?_; intro u3 h3 k3 s3; simp only [Act.put]; have K3 := Lib.hid (KA.out.trans k3 (by intro x hx; right; simp at hx; omega)); clear hA k3)
        | (refine ld_rec _ h3 HR13.out rfl rfl rfl ?_; simp only [Act.put])
        | (go_at_call 25; refine (isCommit_any _ _ HR13.out HR64.out).mono ?_; (first | (rw [HII.out]) | (rw [HIS.out])); rintro e u4 ⟨rfl, k4⟩; have h4 := h3.keep k4 (by simp); have c4 := h4.cell 1 (by rw [HR13.out]; decide); rw [← HQ.out] at c4; have K4 := Lib.hid (K3.out.trans0 k4); have F4 := Lib.hid (HF.out.keep K4.out (by simp)); have hv4 := F4.out.cellAt (i := 0) rfl; clear k4 h3)
        | (go_at_call 26; refine (follows_any g _ f q m first _ F4.out).mono ?_; rw [HFO.out]; rintro e w' ⟨rfl, rfl⟩)
        | (go_at_call 27; refine (ahead_any a n c k m xs _ (HT.out.keep K4.out) (HI.out.keep0 K4.out) HN.out HCM.out H64.out (Nat.le_of_lt HKN.out) HM4.out).mono ?_; rw [HOK.out]; rintro e u5 ⟨v5, d5, rfl, k5, r5⟩; simp only [if_true, if_false, Bool.false_eq_true]; have h5 := h4.keep k5 (by simp); have c5 := h5.cell 1 (by rw [HR13.out]; decide); rw [← HQ.out] at c5; have K5 := Lib.hid (K4.out.trans0 k5); have R5 := Lib.hid r5; have H5 := Lib.hid h5; have hu4 := K4.out.size; clear k5 r5 h4 c4 h5)
        | (go_at_call 18; refine (rising_any _ _ _ rs _ (by rw [HRS.out]; exact (R5.out rfl).1) (by have := HM4.out; unfold maxLen; omega)).mono ?_; rw [HRI.out]; rintro e u6 ⟨rfl, k6⟩; have h6 := H5.out.keep k6 (by simp); have c6 := h6.cell 1 (by rw [HR13.out]; decide); rw [← HQ.out] at c6; have K6 := Lib.hid (K5.out.trans0 k6); have R6 := Lib.hid (((R5.out rfl).1).keep0 k6); have H6 := Lib.hid h6; clear k6 h6 c5)
        | (go_at_call 28; refine (alike_any q _ _ _ rs _ (by rw [HRS.out]; exact R6.out) (by have := HM4.out; unfold maxLen; omega)).mono ?_; rw [HAL.out]; rintro e u7 ⟨rfl, k7⟩; have h7 := H6.out.keep k7 (by simp); have c7 := h7.cell 1 (by rw [HR13.out]; decide); rw [← HQ.out] at c7; have K7 := Lib.hid (K6.out.trans0 k7); have R7 := Lib.hid (R6.out.keep0 k7); clear k7 h7 c6)
        | (go_at_call 29; refine (count_any g _ f q _ m _ rs _ (HF.out.keep K7.out (by simp)) HLV.out (by rw [HRS.out]; exact R7.out) (by intro b o s e; have := (R5.out rfl).2.2.2 b o s e; omega) (by have := HM4.out; unfold maxLen; omega) HKD.out HCC.out).mono ?_; rintro e u8 ⟨⟨v8, rfl⟩, f8, k8⟩; have F8 := Lib.hid f8; have K8 := Lib.hid k8; clear f8 k8))
    refine bodyPost_ret (results_none rfl _ _ _) rfl ?_
    exact ⟨⟨_, rfl⟩, by rw [HFIN.out]; exact HF.out.keep K3.out (by simp), K3.out.mono (by simp)⟩

end Go.Proofs.YtihpmnnbiabggaaDoor
