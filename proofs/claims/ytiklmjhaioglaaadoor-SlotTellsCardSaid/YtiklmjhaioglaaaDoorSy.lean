/- SlotTells, SlotReads walked. No condition but the table of the sums, and that all are numbers of 64 bits. -/
import Derived.Test.YtiklmjhaioglaaaDoorSx
import Derived.Test.YtiklmjhaioglaaaDoorIn
namespace Go.Proofs.YtiklmjhaioglaaaDoor
open Go.RowKit
set_option linter.unusedVariables false

theorem wordsR_len {l : List Int} (h : l.length = 13) : (wordsR l).2.length ≤ 16 := by
  unfold wordsR
  split
  · simp [wordsL_len h]
  · simp

set_option maxHeartbeats 8000000 in
theorem stells_any (l : List Int) (s m : Int) (f : Bool) (w : World) (ht : Turns w) (hl : l.length = 13) (h64 : ∀ x ∈ l, I64 x) (hs : I64 s) (hm : I64 m) :
    Calls Tryd.prog 3 #[.agg (ints l), .int .i64 s, .int .i64 m, .bool f] w fun e w' => e = .returned (.bool true) ∧ Keeps [] w w' := by
  have h0 : RecAt (w.alloc (.cells (ints l) 24)) w.heap.size l := heap_alloc_new w _
  have k0 : Keeps [] w (w.alloc (.cells (ints l) 24)) := (Keeps.refl _ _).alloc _
  obtain ⟨C, hC⟩ : ∃ C, C = (wordsR l).1 := ⟨_, rfl⟩
  obtain ⟨L, hL⟩ : ∃ L, L = (wordsR l).2 := ⟨_, rfl⟩
  obtain ⟨D, hD⟩ : ∃ D, D = (commitR s m f).1 := ⟨_, rfl⟩
  obtain ⟨M, hM⟩ : ∃ M, M = (commitR s m f).2 := ⟨_, rfl⟩
  obtain ⟨p, hp⟩ : ∃ p, p = (isR l).1 := ⟨_, rfl⟩
  obtain ⟨q, hq⟩ : ∃ q, q = (isR l).2.1 := ⟨_, rfl⟩
  obtain ⟨r, hr⟩ : ∃ r, r = (isR l).2.2 := ⟨_, rfl⟩
  have HWR := Lib.hid (show wordsR l = (C, L) by rw [hC, hL])
  have HCR := Lib.hid (show commitR s m f = (D, M) by rw [hD, hM])
  have HIR := Lib.hid (show isR l = (p, q, r) by rw [hp, hq, hr])
  have HML := Lib.hid (show M.length = 13 by rw [hM]; exact commitR_len s m f)
  have HLL := Lib.hid (show L.length ≤ 16 by rw [hL]; exact wordsR_len hl)
  have HT := Lib.hid (ht.keep k0)
  have HL := Lib.hid hl
  have H64 := Lib.hid h64
  clear ht hl h64 hC hL hD hM hp hq hr
  go_enter Tryd.func3, Tryd.ntmps3
  go_upto_region 1 with fail
  generalize w.alloc (.cells (ints l) 24) = w0 at *
  have K0 := Lib.hid k0
  clear k0
  go_wp2_with (first
    | (refine ld_rec _ h0 HL.out rfl rfl rfl ?_; simp only [Act.put])
    | (go_at_call 8; refine (words_any l _ HT.out HL.out H64.out).mono ?_; rw [HWR.out]; rintro e w1 hW; obtain ⟨a1, c1, rfl, i1, k1, -, -⟩ := hW.out; have K1 := Lib.hid (K0.out.trans0 k1); have I1 := Lib.hid i1; have h1 := h0.keep k1 (by simp); have HT1 := Lib.hid (HT.out.keep k1); clear hW k1 i1 h0)
    | (refine ld_rec _ h1 HL.out rfl rfl rfl ?_; simp only [Act.put])
    | (go_at_call 9; refine (refWords_any l _ HL.out H64.out).mono ?_; rw [HWR.out]; rintro e w2 hW; obtain ⟨a2, c2, rfl, i2, k2, -, -⟩ := hW; have K2 := Lib.hid (K1.out.trans0 k2); have I2 := Lib.hid (I1.out.keep0 k2); have J2 := Lib.hid i2; have H2 := Lib.hid (h1.keep k2 (by simp)); have HT2 := Lib.hid (HT1.out.keep k2); clear k2 i2 h1)
    | (go_at_call 10; refine (commit_any s m f _ hs).mono ?_; rw [HCR.out]; rintro e w3 ⟨rfl, k3⟩; have K3 := Lib.hid (K2.out.trans0 k3); have I3 := Lib.hid (I2.out.keep0 k3); have J3 := Lib.hid (J2.out.keep0 k3); have H3 := Lib.hid (H2.out.keep k3 (by simp)); have HT3 := Lib.hid (HT2.out.keep k3); have hn3 := heap_alloc_new w3 (.cells (ints (zer 13)) 24); have ka3 := Lib.hid ((Keeps.refl [] w3).alloc (.cells (ints (zer 13)) 24)); have hks3 := K3.out.size; clear k3)
    | (simp only [zeros13])
    | (refine st_rec _ _ (l := zer 13) (l' := M) hn3 (zer_len _) HML.out rfl rfl rfl rfl ?_; intro w4 h4 k4 s4; simp only [Act.put]; have kk : Keeps [] w3 w4 := ka3.out.trans k4 (by intro y hy; right; simp at hy; omega); have K4 := Lib.hid (K3.out.trans0 kk); have I4 := Lib.hid (I3.out.keep0 kk); have J4 := Lib.hid (J3.out.keep0 kk); have H4 := Lib.hid (H3.out.keep kk (by simp)); have HT4 := Lib.hid (HT3.out.keep kk); have A4 := Lib.hid h4; clear hn3 kk k4 s4 h4)
    | (go_at_call 11; refine (refCommit_any s m f _ hs hm).mono ?_; rw [HCR.out]; rintro e w5 ⟨rfl, k5⟩; have K5 := Lib.hid (K4.out.trans0 k5); have I5 := Lib.hid (I4.out.keep0 k5); have J5 := Lib.hid (J4.out.keep0 k5); have H5 := Lib.hid (H4.out.keep k5 (by simp)); have HT5 := Lib.hid (HT4.out.keep k5); have A5 := Lib.hid (A4.out.keep k5 (by simp)); have hn5 := heap_alloc_new w5 (.cells (ints (zer 13)) 24); have ka5 := Lib.hid ((Keeps.refl [] w5).alloc (.cells (ints (zer 13)) 24)); have hks5 := K5.out.size; clear k5)
    | (refine st_rec _ _ (l := zer 13) (l' := M) hn5 (zer_len _) HML.out rfl rfl rfl rfl ?_; intro w6 h6 k6 s6; simp only [Act.put]; have kk : Keeps [] w5 w6 := ka5.out.trans k6 (by intro y hy; right; simp at hy; omega); have K6 := Lib.hid (K5.out.trans0 kk); have I6 := Lib.hid (I5.out.keep0 kk); have J6 := Lib.hid (J5.out.keep0 kk); have c6 := H5.out.keep kk (by simp); have HT6 := Lib.hid (HT5.out.keep kk); have A6 := Lib.hid (A5.out.keep kk (by simp)); have B6 := Lib.hid h6; clear hn5 kk k6 s6 h6)
    | (refine ld_rec _ c6 HL.out rfl rfl rfl ?_; simp only [Act.put])
    | (go_at_call 12; refine (isCommit_any l _ HL.out H64.out).mono ?_; rw [HIR.out]; rintro e w7 ⟨rfl, k7⟩; have K7 := Lib.hid (K6.out.trans0 k7); have I7 := Lib.hid (I6.out.keep0 k7); have J7 := Lib.hid (J6.out.keep0 k7); have c7 := c6.keep k7 (by simp); have HT7 := Lib.hid (HT6.out.keep k7); have A7 := Lib.hid (A6.out.keep k7 (by simp)); have B7 := Lib.hid (B6.out.keep k7 (by simp)); clear k7 c6)
    | (refine ld_rec _ c7 HL.out rfl rfl rfl ?_; simp only [Act.put])
    | (go_at_call 13; refine (refIsCommit_any l _ HL.out H64.out).mono ?_; rw [HIR.out]; rintro e w8 ⟨rfl, k8⟩; have K8 := Lib.hid (K7.out.trans0 k8); have I8 := Lib.hid (I7.out.keep0 k8); have J8 := Lib.hid (J7.out.keep0 k8); have HT8 := Lib.hid (HT7.out.keep k8); have A8 := Lib.hid (A7.out.keep k8 (by simp)); have B8 := Lib.hid (B7.out.keep k8 (by simp)); clear k8 c7)
    | (go_at_call 14; refine (sameInts_any _ _ _ _ _ _ L L _ I8.out J8.out (by have := HLL.out; unfold maxLen; omega) (by have := HLL.out; unfold maxLen; omega)).mono ?_; rw [show decide (L = L) = true from by simp]; rintro e w9 ⟨rfl, mm, rfl⟩; have k9 : Keeps [] w8 (w8.drewN mm) := (Keeps.refl _ _).drewN mm; have K9 := Lib.hid (K8.out.trans0 k9); have HT9 := Lib.hid (HT8.out.keep k9); have a9 := A8.out.keep k9 (by simp); have b9 := B8.out.keep k9 (by simp); clear k9)
    | (refine ld_rec _ a9 HML.out rfl rfl rfl ?_; simp only [Act.put]; clear a9)
    | (refine ld_rec _ b9 HML.out rfl rfl rfl ?_; simp only [Act.put]; clear b9)
    | (refine eq_rec _ _ _ (l := M) (l' := M) HML.out HML.out rfl rfl rfl rfl ?_; simp only [Act.put])
    | (go_at_call 15; refine (works_any _ HT9.out).mono ?_; rintro e w10 ⟨rfl, k10⟩; have K10 := Lib.hid (K9.out.trans0 k10); clear k10))
  go_ret
  exact ⟨rfl, K10.out⟩

theorem payL_in {ys : List Int} {i : Nat} (h : i < ys.length) (h11 : i < 11) : (payL ys).getD i 0 = ys.getD i 0 := by
  unfold payL
  simp only [List.getD]
  rw [List.getElem?_append_left (by simp; omega), List.getElem?_take, if_pos h11]
theorem payL_out {ys : List Int} {i : Nat} (h : ¬ i < ys.length) (h11 : i < 11) : (payL ys).getD i 0 = 0 := by
  unfold payL
  simp only [List.getD]
  rw [List.getElem?_append_right (by simp; omega), List.getElem?_replicate]
  split <;> rfl

set_option maxHeartbeats 8000000 in
theorem sreads_any (a : Option Addr) (n c : Nat) (xs : List Int) (w : World) (ht : Turns w) (hi : IntsAt w a n xs) (hx64 : ∀ x ∈ xs, I64 x) (hn : n ≤ c) (hc : c ≤ maxLen) :
    Calls Tryd.prog 4 #[.slice a n c] w fun e w' => e = .returned (.bool true) ∧ Keeps [] w w' := by
  have HT := Lib.hid ht
  have HI := Lib.hid hi
  have HX64 := Lib.hid hx64
  have HN := Lib.hid hn
  have HC := Lib.hid hc
  have HLEN := Lib.hid (show n = xs.length from hi.1)
  clear ht hi hx64
  unfold maxLen at hc
  go_enter Tryd.func4, Tryd.ntmps4
  go_upto_region 1 with fail
  obtain ⟨ys, hys⟩ : ∃ ys, ys = xs.take 100 := ⟨_, rfl⟩
  have hyl := take100 xs HLEN.out
  rw [← hys] at hyl
  go_cut [0] from 11 to 15 (fun v wx => v = .slice a ys.length c ∧ w = wx)
  case first =>
    by_cases h : n ≤ 100
    · have h2 : (n : Int) ≤ 100 := by omega
      have hy2 : ys.length = n := by omega
      have HY2 := Lib.hid hy2
      clear hyl hy2
      go_wp2_with fail
      go_meet
      exact ⟨by rw [HY2.out], rfl⟩
    · have h2 : ¬ (n : Int) ≤ 100 := by omega
      have hy2 : ys.length = 100 := by omega
      have HY2 := Lib.hid hy2
      clear hyl hy2
      go_wp2_with fail
      go_meet
      exact ⟨by rw [HY2.out], rfl⟩
  case rest =>
    obtain ⟨rfl, rfl⟩ := hcut
    have HI1 := Lib.hid (show IntsAt w a ys.length ys by have := HI.out.take (k := ys.length) (by rw [hyl]; omega); rw [show xs.take ys.length = ys by rw [hys, List.length_take]; exact List.take_eq_take_min.symm] at this; exact this)
    have HY64 := Lib.hid (show ∀ x ∈ ys, I64 x by rw [hys]; exact fun x hx => HX64.out x (List.mem_of_mem_take hx))
    have hyc : ys.length ≤ c := by omega
    have hy100 : ys.length ≤ 100 := by omega
    clear hys hyl
    obtain ⟨m, hm⟩ : ∃ m, m = ys.length := ⟨_, rfl⟩
    rw [← hm] at hyc hy100 ⊢
    have HM := Lib.hid hm
    have HIM := Lib.hid (show IntsAt w a m ys by rw [hm]; exact HI1.out)
    have HMC := Lib.hid hyc
    clear hm
    obtain ⟨E, hE⟩ : ∃ E, E = (readR ys).1 := ⟨_, rfl⟩
    obtain ⟨R, hR⟩ : ∃ R, R = (readR ys).2 := ⟨_, rfl⟩
    have HRD := Lib.hid (show readR ys = (E, R) by rw [hE, hR])
    have HRL := Lib.hid (show R.length = 13 by rw [hR]; exact readR_len ys)
    clear hE hR
    go_upto_region 6 with (first
      | (go_at_call 16; refine (ints_any a m c ys _ HIM.out (by omega)).mono ?_; rintro e w1 ⟨v, rfl, g, cc, rfl, hg, hA, k1⟩; rw [← HM.out]; have HA := Lib.hid hA; have K1 := Lib.hid k1; have J1 := Lib.hid (show IntsAt w1 (some ⟨g, 0, none⟩) m ys by have := hA.ints; rw [← HM.out] at this; exact this); have HI1 := Lib.hid (HIM.out.keep0 k1); have HT1 := Lib.hid (HT.out.keep k1); have HLE := Lib.hid (show m ≤ cc by have := hA.le; rw [← HM.out] at this; exact this); clear hg hA k1)
      | (go_at_call 17; refine (read_any _ m cc ys _ HT1.out J1.out HLE.out HA.out.cm HY64.out).mono ?_; rw [HRD.out]; rintro e w3 ⟨rfl, k3⟩; have K3 := Lib.hid (K1.out.trans0 k3); have J3 := Lib.hid (J1.out.keep0 k3); have HI3 := Lib.hid (HI1.out.keep0 k3); have HT3 := Lib.hid (HT1.out.keep k3); have hn3 := heap_alloc_new w3 (.cells (ints (zer 13)) 24); have ka3 := Lib.hid ((Keeps.refl [] w3).alloc (.cells (ints (zer 13)) 24)); have hks3 := K3.out.size; clear k3)
      | (simp only [zeros13])
      | (simp only [zeros11])
      | (refine st_rec _ _ (l := zer 13) (l' := R) hn3 (zer_len _) HRL.out rfl rfl rfl rfl ?_; intro w4 h4 k4 s4; simp only [Act.put]; have kk : Keeps [] w3 w4 := ka3.out.trans k4 (by intro y hy; right; simp at hy; omega); have K4 := Lib.hid (K3.out.trans0 kk); have J4 := Lib.hid (J3.out.keep0 kk); have HI4 := Lib.hid (HI3.out.keep0 kk); have HT4 := Lib.hid (HT3.out.keep kk); have A4 := Lib.hid h4; clear hn3 kk k4 s4 h4)
      | (go_at_call 18; refine (refRead_any a m c ys _ HI4.out (Nat.le_trans HMC.out HC.out) HY64.out).mono ?_; rw [HRD.out]; rintro e w5 ⟨rfl, k5⟩; have K5 := Lib.hid (K4.out.trans0 k5); have J5 := Lib.hid (J4.out.keep0 k5); have HI5 := Lib.hid (HI4.out.keep0 k5); have HT5 := Lib.hid (HT4.out.keep k5); have A5 := Lib.hid (A4.out.keep k5 (by simp)); have hn5 := heap_alloc_new w5 (.cells (ints (zer 13)) 24); have ka5 := Lib.hid ((Keeps.refl [] w5).alloc (.cells (ints (zer 13)) 24)); have hks5 := K5.out.size; clear k5)
      | (refine st_rec _ _ (l := zer 13) (l' := R) hn5 (zer_len _) HRL.out rfl rfl rfl rfl ?_; intro w6 h6 k6 s6; simp only [Act.put]; have kk : Keeps [] w5 w6 := ka5.out.trans k6 (by intro y hy; right; simp at hy; omega); have K6 := Lib.hid (K5.out.trans0 kk); have J6 := Lib.hid (J5.out.keep0 kk); have HI6 := Lib.hid (HI5.out.keep0 kk); have HT6 := Lib.hid (HT5.out.keep kk); have A6 := Lib.hid (A5.out.keep kk (by simp)); have B6 := Lib.hid h6; clear hn5 kk k6 s6 h6)
      | (go_at_call 19; refine (payload_any _ m cc ys _ J6.out).mono ?_; rintro e w7 ⟨rfl, k7⟩; have K7 := Lib.hid (K6.out.trans0 k7); have J7 := Lib.hid (J6.out.keep0 k7); have HI7 := Lib.hid (HI6.out.keep0 k7); have HT7 := Lib.hid (HT6.out.keep k7); have A7 := Lib.hid (A6.out.keep k7 (by simp)); have B7 := Lib.hid (B6.out.keep k7 (by simp)); have hn7 := heap_alloc_new w7 (.cells (ints (zer 11)) 22); have ka7 := Lib.hid ((Keeps.refl [] w7).alloc (.cells (ints (zer 11)) 22)); have hks7 := K7.out.size; clear k7)
      | (refine st_pay _ _ (l := zer 11) (l' := payL ys) hn7 (zer_len _) (payL_len _) rfl rfl rfl rfl ?_; intro w8 h8 k8 s8; simp only [Act.put]; have kk : Keeps [] w7 w8 := ka7.out.trans k8 (by intro y hy; right; simp at hy; omega); have K8 := Lib.hid (K7.out.trans0 kk); have J8 := Lib.hid (J7.out.keep0 kk); have HI8 := Lib.hid (HI7.out.keep0 kk); have HT8 := Lib.hid (HT7.out.keep kk); have A8 := Lib.hid (A7.out.keep kk (by simp)); have B8 := Lib.hid (B7.out.keep kk (by simp)); have P8 := Lib.hid h8; clear hn7 kk k8 s8 h8))
    obtain ⟨bb, hbb⟩ : ∃ b, b = blankB ys := ⟨_, rfl⟩
    have HBB := Lib.hid hbb
    clear hbb
    go_wp2_with fail
    go_loop [9, 10] (fun vi v10 => ∃ i : Nat, i ≤ 11 ∧ vi = .int .i64 i) (fun vi _ => 11 - (intOf vi).toNat)
    case atStart => exact ⟨0, by omega, rfl⟩
    case round =>
      obtain ⟨i, hi11, rfl⟩ := hrel
      by_cases hlt : i < 11
      · have hp := P8.out.cell i (by rw [payL_len]; exact hlt)
        by_cases him : i < m
        · rw [payL_in (by rw [← HM.out]; exact him) hlt] at hp
          obtain ⟨b, o, rfl⟩ := HI8.out.addr (by omega)
          have hx := (HI8.out.2.2 b o none rfl (List.ne_nil_of_length_pos (by rw [← HM.out]; omega))).2 i (by rw [← HM.out]; exact him)
          obtain ⟨x, ex⟩ : ∃ x, x = ys.getD i 0 := ⟨_, rfl⟩
          rw [← ex] at hp hx
          have hne : (x != x) = false := by simp
          clear ex
          go_wp2_with fail
          go_round
          case rel => exact ⟨i + 1, by omega, by go_num⟩
          case measure => simp [intOf]; omega
        · rw [payL_out (by rw [← HM.out]; exact him) hlt] at hp
          go_wp2_with fail
          go_round
          case rel => exact ⟨i + 1, by omega, by go_num⟩
          case measure => simp [intOf]; omega
      · have a9 := A8.out
        have b9 := B8.out
        go_wp2_with (first
          | (refine ld_rec _ a9 HRL.out rfl rfl rfl ?_; simp only [Act.put]; clear a9)
          | (refine ld_rec _ b9 HRL.out rfl rfl rfl ?_; simp only [Act.put]; clear b9)
          | (refine eq_rec _ _ _ (l := R) (l' := R) HRL.out HRL.out rfl rfl rfl rfl ?_; simp only [Act.put])
          | (go_at_call 20; refine (blank_any _ m cc ys _ J8.out (by unfold maxLen; omega)).mono ?_; rw [← HBB.out]; rintro e w9 ⟨rfl, rfl⟩)
          | (go_at_call 21; refine (refBlank_any a m c ys _ HI8.out (by unfold maxLen; omega)).mono ?_; rw [← HBB.out]; rintro e w9 ⟨rfl, rfl⟩)
          | (go_at_call 14; refine (sameInts_any _ _ m m _ _ ys ys _ J8.out HI8.out (by unfold maxLen; omega) (by unfold maxLen; omega)).mono ?_; rw [show decide (ys = ys) = true from by simp]; rintro e w10 ⟨rfl, mm, rfl⟩; have k10 : Keeps [] w8 (w8.drewN mm) := (Keeps.refl _ _).drewN mm; have K10 := Lib.hid (K8.out.trans0 k10); have HT10 := Lib.hid (HT8.out.keep k10); clear k10)
          | (go_at_call 15; refine (works_any _ HT10.out).mono ?_; rintro e w11 ⟨rfl, k11⟩; have K11 := Lib.hid (K10.out.trans0 k11); clear k11))
        go_ret
        exact ⟨rfl, K11.out⟩

end Go.Proofs.YtiklmjhaioglaaaDoor
