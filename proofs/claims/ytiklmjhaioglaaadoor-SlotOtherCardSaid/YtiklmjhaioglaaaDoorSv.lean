/- SlotOther, SlotFirst walked. No condition but the table of the sums, and that all are numbers of 64 bits. -/
import Derived.Test.YtiklmjhaioglaaaDoorSu
namespace Go.Proofs.YtiklmjhaioglaaaDoor
open Go.RowKit
set_option linter.unusedVariables false

theorem set_same {xs : List Int} {k : Nat} (h : k < xs.length) : xs.set k (xs.getD k 0) = xs := by
  refine List.ext_getElem (by simp) fun i h1 h2 => ?_
  rw [List.getElem_set]
  split
  · rename_i e
    subst e
    simp [List.getD, h2]
  · rfl
theorem wordsL_64 {l : List Int} (hb : rightB l = true) {k : Nat} {v : Int} (hv : I64 v) : ∀ x ∈ (wordsL l).set k v, I64 x := by
  intro x hx
  rcases List.mem_or_eq_of_mem_set hx with h | rfl
  · exact words_64 hb x h
  · exact hv

set_option maxHeartbeats 4000000 in
theorem sother_any (l : List Int) (at' wv : Int) (w : World) (ht : Turns w) (hl : l.length = 13) (h64 : ∀ x ∈ l, I64 x) :
    Calls Tryd.prog 7 #[.agg (ints l), .int .i64 at', .int .i64 wv] w fun e w' => e = .returned (.bool true) ∧ Keeps [] w w' := by
  have h0 : RecAt (w.alloc (.cells (ints l) 24)) w.heap.size l := heap_alloc_new w _
  have k0 : Keeps [] w (w.alloc (.cells (ints l) 24)) := (Keeps.refl _ _).alloc _
  have HTW := Lib.hid ht
  have HT := Lib.hid (ht.keep k0)
  have HL := Lib.hid hl
  have H64 := Lib.hid h64
  clear ht hl h64
  go_enter Tryd.func7, Tryd.ntmps7
  go_upto_region 1 with fail
  generalize w.alloc (.cells (ints l) 24) = w0 at *
  have K0 := Lib.hid k0
  clear k0
  go_wp2_with fail
  refine (works_any _ HT.out).mono ?_
  rintro e w1 ⟨rfl, k1⟩
  have h1 := h0.keep k1 (by simp)
  have HT1 := Lib.hid (HT.out.keep k1)
  have K1 := Lib.hid (K0.out.trans0 k1)
  clear k1 h0
  cases hrb : rightB l
  · have HRB := Lib.hid hrb
    clear hrb
    go_wp2_with (first
      | (refine ld_rec _ h1 HL.out rfl rfl rfl ?_; simp only [Act.put]; clear h1)
      | (go_at_call 8; refine (words_no l _ HT1.out HL.out H64.out HRB.out).mono ?_; rintro e w2 ⟨rfl, k2⟩; have K2 := Lib.hid (K1.out.trans0 k2); clear k2))
    go_ret
    exact ⟨rfl, K2.out⟩
  · have HRB := Lib.hid hrb
    have ha := amongI_lt at' 16 (by omega) (by omega)
    obtain ⟨k, hk⟩ := Int.eq_ofNat_of_zero_le ha.1
    have hk16 : k < 16 := by omega
    obtain ⟨v, hv⟩ : ∃ v, v = amongI wv 65536 := ⟨_, rfl⟩
    have hvb := amongI_lt wv 65536 (by omega) (by omega)
    rw [← hv] at hvb
    have hv' := hv.symm
    obtain ⟨was, hwas⟩ : ∃ x, x = (wordsL l).getD k 0 := ⟨_, rfl⟩
    have hwo := whole_other HL.out hrb hk16 hvb.1 hvb.2
    rw [← hwas] at hwo
    have HWO := Lib.hid hwo
    have HWAS := Lib.hid hwas
    have HV := Lib.hid hv
    have h64s : ∀ x ∈ (wordsL l).set k v, I64 x := wordsL_64 hrb (by unfold I64; omega)
    have H64S := Lib.hid h64s
    have hlen : ((wordsL l).set k v).length = 16 := by rw [List.length_set, wordsL_len HL.out]
    have HLEN := Lib.hid hlen
    clear hrb ha hv hwas hwo h64s hlen
    go_wp2_with (first
      | (refine ld_rec _ h1 HL.out rfl rfl rfl ?_; simp only [Act.put]; clear h1)
      | (go_at_call 8; refine (words_yes l _ HT1.out HL.out H64.out HRB.out).mono ?_; rintro e w2 ⟨g, cc, rfl, hg, hA, k2⟩; have HT2 := Lib.hid (HT1.out.keep k2); have K2 := Lib.hid (K1.out.trans0 k2); have HG := Lib.hid (Nat.le_trans K1.out.size hg); have HA := Lib.hid hA; have hc := hA.cell (i := k) (by rw [wordsL_len HL.out]; exact hk16); rw [← HWAS.out] at hc; have hfz := hA.frozen k; clear k2 hg hA)
      | (go_at_call 22; refine (among_any _ _ _ (by omega) (by omega)).mono ?_; rintro e w' ⟨he, rfl⟩; (first | rw [hk] at he | rw [hv'] at he); subst he))
    have hset := HA.out.set (i := k) (by rw [wordsL_len HL.out]; exact hk16) v
    have kset : Keeps [] w (w2.setCell ⟨g, k, none⟩ (.int .i64 v)) := K2.out.setCell (.inr HG.out) _
    have HT3 := Lib.hid (HTW.out.keep kset)
    have hc3 := hset.cell (i := k) (by rw [HLEN.out]; exact hk16)
    have hcv : ((wordsL l).set k v).getD k 0 = v := by simp [List.getD, wordsL_len HL.out, hk16]
    rw [hcv] at hc3
    generalize w2.setCell ⟨g, k, none⟩ (.int .i64 v) = w3 at *
    have HA3 := Lib.hid hset
    have K3 := Lib.hid kset
    have hrd : readR ((wordsL l).set k v) = if v = was then (0, l) else (60, zer 13) := by
      by_cases he : v = was
      · rw [if_pos he, he, HWAS.out, set_same (by rw [wordsL_len HL.out]; exact hk16), read_words HL.out HRB.out]
      · rw [if_neg he]
        unfold readR
        rw [if_pos HLEN.out, if_neg (by rw [HWO.out]; simpa using he)]
    obtain ⟨xs, hxs⟩ : ∃ xs, xs = (wordsL l).set k v := ⟨_, rfl⟩
    have HIX := Lib.hid (show IntsAt w3 (some ⟨g, 0, none⟩) 16 xs by have := HA3.out.ints; rw [HLEN.out, ← hxs] at this; exact this)
    have H64X := Lib.hid (show ∀ x ∈ xs, I64 x by rw [hxs]; exact H64S.out)
    have HLE := Lib.hid (show 16 ≤ cc by have := HA3.out.le; rw [HLEN.out] at this; exact this)
    rw [← hxs] at hrd
    clear hset kset hcv hc hfz hk hv' hxs
    by_cases he : v = was
    · have heb : (v == was) = true := by simp [he]
      rw [if_pos he] at hrd
      have HRD := Lib.hid hrd
      clear he hrd
      refine (read_any _ 16 cc xs _ HT3.out HIX.out HLE.out HA3.out.cm H64X.out).mono ?_
      rw [HRD.out]
      rintro e w4 ⟨rfl, k4⟩
      have hc4 := (k4.cell (World.block_lt_of_cell? _ _ hc3) (by simp)).trans hc3
      have K4 := Lib.hid (K3.out.trans0 k4)
      have hn4 := heap_alloc_new w4 (.cells (ints (zer 13)) 24)
      have ka4 := Lib.hid ((Keeps.refl [] w4).alloc (.cells (ints (zer 13)) 24))
      have hks4 := K4.out.size
      clear k4 hc3
      go_wp2_with (first
        | (simp only [zeros13])
        | (refine st_rec _ _ (l := zer 13) (l' := l) hn4 (zer_len _) HL.out rfl rfl rfl rfl ?_; intro w5 h5 k5 s5; simp only [Act.put]; have kk : Keeps [] w4 w5 := ka4.out.trans k5 (by intro y hy; right; simp at hy; omega); have K5 := Lib.hid (K4.out.trans0 kk); have hc5 := (kk.cell (World.block_lt_of_cell? _ _ hc4) (by simp)).trans hc4; clear hn4 kk k5 hc4 h5 s5))
      go_ret
      exact ⟨rfl, K5.out⟩
    · have heb : (v == was) = false := by simp [he]
      rw [if_neg he] at hrd
      have HRD := Lib.hid hrd
      clear he hrd
      refine (read_any _ 16 cc xs _ HT3.out HIX.out HLE.out HA3.out.cm H64X.out).mono ?_
      rw [HRD.out]
      rintro e w4 ⟨rfl, k4⟩
      have hc4 := (k4.cell (World.block_lt_of_cell? _ _ hc3) (by simp)).trans hc3
      have K4 := Lib.hid (K3.out.trans0 k4)
      have hn4 := heap_alloc_new w4 (.cells (ints (zer 13)) 24)
      have ka4 := Lib.hid ((Keeps.refl [] w4).alloc (.cells (ints (zer 13)) 24))
      have hks4 := K4.out.size
      clear k4 hc3
      go_wp2_with (first
        | (simp only [zeros13])
        | (refine st_rec _ _ (l := zer 13) (l' := zer 13) hn4 (zer_len _) (zer_len 13) rfl rfl rfl rfl ?_; intro w5 h5 k5 s5; simp only [Act.put]; have kk : Keeps [] w4 w5 := ka4.out.trans k5 (by intro y hy; right; simp at hy; omega); have K5 := Lib.hid (K4.out.trans0 kk); have hc5 := (kk.cell (World.block_lt_of_cell? _ _ hc4) (by simp)).trans hc4; clear hn4 kk k5 hc4 s5)
        | (refine ld_rec _ h5 (zer_len 13) rfl rfl rfl ?_; simp only [Act.put])
        | (refine eq_rec _ _ _ (l := zer 13) (l' := zer 13) (zer_len 13) (zer_len 13) rfl rfl rfl rfl ?_; simp only [Act.put]))
      go_ret
      exact ⟨rfl, K5.out⟩

/-- Words of which those from the n-th to the i-th are blank. -/
def blankL (xs : List Int) (n i : Nat) : List Int := xs.take n ++ (List.replicate (i - n) 65535 ++ xs.drop i)
theorem blankL_len {xs : List Int} {n i : Nat} (h : n ≤ i) (hi : i ≤ xs.length) : (blankL xs n i).length = xs.length := by simp [blankL]; omega
theorem blankL_start (xs : List Int) (n : Nat) : blankL xs n n = xs := by simp [blankL]
theorem blankL_step {xs : List Int} {n i : Nat} (h : n ≤ i) (hi : i < xs.length) : (blankL xs n i).set i 65535 = blankL xs n (i + 1) := by
  unfold blankL
  have e1 : (xs.take n).length = n := by simp; omega
  rw [List.set_append_right _ _ (by omega), e1, List.set_append_right _ _ (by simp), List.length_replicate, Nat.sub_self, List.drop_eq_getElem_cons hi, List.set_cons_zero, show i + 1 - n = (i - n) + 1 by omega, List.replicate_succ']
  simp
theorem blank_last {xs : List Int} (h : xs.length = 16) {n : Nat} (hn : n < 16) : (blankL xs n 16).getD 15 0 = 65535 := by
  unfold blankL
  simp only [List.getD]
  rw [List.getElem?_append_right (by simp; omega), List.getElem?_append_left (by simp; omega), List.getElem?_replicate]
  rw [if_pos (by simp; omega)]
  rfl
theorem blank_not_whole {xs : List Int} (h : xs.length = 16) {n : Nat} (hn : n < 16) : readR (blankL xs n 16) = (60, zer 13) := by
  have hl : (blankL xs n 16).length = 16 := by rw [blankL_len (by omega) (by omega), h]
  unfold readR
  rw [if_pos hl, if_neg]
  intro hw
  have := whole_last hl hw
  rw [blank_last h hn] at this
  omega
theorem blank_is {l : List Int} (hl : l.length = 13) (hb : rightB l = true) {n : Nat} (hn : n < 16) : blankB (blankL (wordsL l) n 16) = decide (n = 0) := by
  have h16 := wordsL_len hl
  have hlen : (blankL (wordsL l) n 16).length = 16 := by rw [blankL_len (by omega) (by omega), h16]
  unfold blankB
  rw [hlen]
  by_cases h0 : n = 0
  · subst h0
    have : blankL (wordsL l) 0 16 = List.replicate 16 65535 := by
      unfold blankL
      rw [List.drop_eq_nil_of_le (by omega)]
      simp
    rw [this]
    simp
  · rw [decide_eq_false h0, Bool.and_eq_false_iff]
    right
    rw [List.all_eq_false]
    refine ⟨(wordsL l).getD 0 0, ?_, ?_⟩
    · unfold blankL
      rw [List.mem_append]
      left
      rw [List.mem_iff_getElem?]
      refine ⟨0, ?_⟩
      rw [List.getElem?_take, if_pos (by omega)]
      simp [List.getD, h16]
    · have := (right_out hb).1
      rw [words_first]
      intro hh
      rw [beq_iff_eq] at hh
      omega
theorem blank_64 {xs : List Int} (h : ∀ x ∈ xs, I64 x) (n i : Nat) : ∀ x ∈ blankL xs n i, I64 x := by
  intro x hx
  simp only [blankL, List.mem_append, List.mem_replicate] at hx
  rcases hx with hx | ⟨-, rfl⟩ | hx
  · exact h x (List.mem_of_mem_take hx)
  · unfold I64; omega
  · exact h x (List.mem_of_mem_drop hx)

set_option maxHeartbeats 4000000 in
theorem sfirst_any (l : List Int) (nv : Int) (w : World) (ht : Turns w) (hl : l.length = 13) (h64 : ∀ x ∈ l, I64 x) :
    Calls Tryd.prog 6 #[.agg (ints l), .int .i64 nv] w fun e w' => e = .returned (.bool true) ∧ Keeps [] w w' := by
  have h0 : RecAt (w.alloc (.cells (ints l) 24)) w.heap.size l := heap_alloc_new w _
  have k0 : Keeps [] w (w.alloc (.cells (ints l) 24)) := (Keeps.refl _ _).alloc _
  have HTW := Lib.hid ht
  have HT := Lib.hid (ht.keep k0)
  have HL := Lib.hid hl
  have H64 := Lib.hid h64
  clear ht hl h64
  go_enter Tryd.func6, Tryd.ntmps6
  go_upto_region 1 with fail
  generalize w.alloc (.cells (ints l) 24) = w0 at *
  have K0 := Lib.hid k0
  clear k0
  go_wp2_with fail
  refine (works_any _ HT.out).mono ?_
  rintro e w1 ⟨rfl, k1⟩
  have h1 := h0.keep k1 (by simp)
  have HT1 := Lib.hid (HT.out.keep k1)
  have K1 := Lib.hid (K0.out.trans0 k1)
  clear k1 h0
  cases hrb : rightB l
  · have HRB := Lib.hid hrb
    clear hrb
    go_wp2_with (first
      | (refine ld_rec _ h1 HL.out rfl rfl rfl ?_; simp only [Act.put]; clear h1)
      | (go_at_call 8; refine (words_no l _ HT1.out HL.out H64.out HRB.out).mono ?_; rintro e w2 ⟨rfl, k2⟩; have K2 := Lib.hid (K1.out.trans0 k2); clear k2))
    go_ret
    exact ⟨rfl, K2.out⟩
  · have HRB := Lib.hid hrb
    have ha := amongI_lt nv 16 (by omega) (by omega)
    obtain ⟨k, hk⟩ := Int.eq_ofNat_of_zero_le ha.1
    have hk16 : k < 16 := by omega
    clear hrb ha
    go_wp2_with (first
      | (refine ld_rec _ h1 HL.out rfl rfl rfl ?_; simp only [Act.put]; clear h1)
      | (go_at_call 8; refine (words_yes l _ HT1.out HL.out H64.out HRB.out).mono ?_; rintro e w2 ⟨g, cc, rfl, hg, hA, k2⟩; have K2 := Lib.hid (K1.out.trans0 k2); have HG := Lib.hid (Nat.le_trans K1.out.size hg); have HA := Lib.hid hA; clear k2 hg hA)
      | (go_at_call 22; refine (among_any _ _ _ (by omega) (by omega)).mono ?_; rintro e w' ⟨he, rfl⟩; rw [hk] at he; subst he))
    go_loopw [7] (fun vi wr => ∃ i : Nat, k ≤ i ∧ i ≤ 16 ∧ vi = .int .i64 i ∧ Arr wr g cc (blankL (wordsL l) k i) ∧ Keeps [] w wr) (fun vi _ => 16 - (intOf vi).toNat)
    case atStart => exact ⟨k, Nat.le_refl _, by omega, rfl, by rw [blankL_start]; exact HA.out, K2.out⟩
    case round =>
      obtain ⟨i, hki, hi16, rfl, hA, hkk⟩ := hrel
      have hlen : (blankL (wordsL l) k i).length = 16 := by rw [blankL_len hki (by rw [wordsL_len HL.out]; exact hi16), wordsL_len HL.out]
      have HAI := Lib.hid hA
      have HKK := Lib.hid hkk
      have HLEN := Lib.hid hlen
      clear hlen hkk
      by_cases hlt : i < 16
      · have hc := hA.cell (i := i) (by rw [HLEN.out]; exact hlt)
        have hfz := hA.frozen i
        have hset := hA.set (i := i) (by rw [HLEN.out]; exact hlt) 65535
        rw [blankL_step hki (by rw [wordsL_len HL.out]; exact hlt)] at hset
        have HS := Lib.hid hset
        have HKS := Lib.hid (HKK.out.setCell (p := ⟨g, i, none⟩) (.inr HG.out) (.int .i64 65535))
        clear hset hA
        go_wp2_with fail
        go_roundw
        case rel => exact ⟨i + 1, by omega, by omega, by go_num, HS.out, HKS.out⟩
        case measure => simp [intOf]; omega
      · have hi2 : i = 16 := by omega
        subst hi2
        obtain ⟨xs, hxs⟩ : ∃ xs, xs = blankL (wordsL l) k 16 := ⟨_, rfl⟩
        have HIX := Lib.hid (show IntsAt wr (some ⟨g, 0, none⟩) 16 xs by have := HAI.out.ints; rw [HLEN.out, ← hxs] at this; exact this)
        have H64X := Lib.hid (show ∀ x ∈ xs, I64 x by rw [hxs]; exact blank_64 (words_64 HRB.out) _ _)
        have HLE := Lib.hid (show 16 ≤ cc by have := HAI.out.le; rw [HLEN.out] at this; exact this)
        have HRD := Lib.hid (show readR xs = (60, zer 13) by rw [hxs]; exact blank_not_whole (wordsL_len HL.out) hk16)
        have HBL := Lib.hid (show blankB xs = decide (k = 0) by rw [hxs]; exact blank_is HL.out HRB.out hk16)
        have HT3 := Lib.hid (HTW.out.keep HKK.out)
        clear hxs hA
        go_wp2_with fail
        refine (read_any _ 16 cc xs _ HT3.out HIX.out HLE.out HAI.out.cm H64X.out).mono ?_
        rw [HRD.out]
        rintro e w4 ⟨rfl, k4⟩
        have HI4 := Lib.hid (HIX.out.keep0 k4)
        have K4 := Lib.hid (HKK.out.trans0 k4)
        have hn4 := heap_alloc_new w4 (.cells (ints (zer 13)) 24)
        have ka4 := Lib.hid ((Keeps.refl [] w4).alloc (.cells (ints (zer 13)) 24))
        have hks4 := K4.out.size
        clear k4
        by_cases hk0 : k = 0
        · have hkz : ((k : Int) == 0) = true := by simp [hk0]
          have HB := Lib.hid (show blankB xs = true by rw [HBL.out]; simpa using hk0)
          clear hk0
          go_wp2_with (first
            | (simp only [zeros13])
            | (refine st_rec _ _ (l := zer 13) (l' := zer 13) hn4 (zer_len _) (zer_len 13) rfl rfl rfl rfl ?_; intro w5 h5 k5 s5; simp only [Act.put]; have kk : Keeps [] w4 w5 := ka4.out.trans k5 (by intro y hy; right; simp at hy; omega); have K5 := Lib.hid (K4.out.trans0 kk); have HI5 := Lib.hid (HI4.out.keep0 kk); clear hn4 kk k5 s5)
            | (refine ld_rec _ h5 (zer_len 13) rfl rfl rfl ?_; simp only [Act.put])
            | (refine eq_rec _ _ _ (l := zer 13) (l' := zer 13) (zer_len 13) (zer_len 13) rfl rfl rfl rfl ?_; simp only [Act.put])
            | (go_at_call 20; refine (blank_any _ 16 cc xs _ HI5.out (by unfold maxLen; omega)).mono ?_; rintro e w7 ⟨he, rfl⟩; rw [HB.out] at he; subst he))
          go_ret
          exact ⟨rfl, K5.out⟩
        · have hkz : ((k : Int) == 0) = false := by simp; omega
          have HB := Lib.hid (show blankB xs = false by rw [HBL.out]; simpa using hk0)
          clear hk0
          go_wp2_with (first
            | (simp only [zeros13])
            | (refine st_rec _ _ (l := zer 13) (l' := zer 13) hn4 (zer_len _) (zer_len 13) rfl rfl rfl rfl ?_; intro w5 h5 k5 s5; simp only [Act.put]; have kk : Keeps [] w4 w5 := ka4.out.trans k5 (by intro y hy; right; simp at hy; omega); have K5 := Lib.hid (K4.out.trans0 kk); have HI5 := Lib.hid (HI4.out.keep0 kk); clear hn4 kk k5 s5)
            | (refine ld_rec _ h5 (zer_len 13) rfl rfl rfl ?_; simp only [Act.put])
            | (refine eq_rec _ _ _ (l := zer 13) (l' := zer 13) (zer_len 13) (zer_len 13) rfl rfl rfl rfl ?_; simp only [Act.put])
            | (go_at_call 20; refine (blank_any _ 16 cc xs _ HI5.out (by unfold maxLen; omega)).mono ?_; rintro e w7 ⟨he, rfl⟩; rw [HB.out] at he; subst he))
          go_ret
          exact ⟨rfl, K5.out⟩

end Go.Proofs.YtiklmjhaioglaaaDoor
