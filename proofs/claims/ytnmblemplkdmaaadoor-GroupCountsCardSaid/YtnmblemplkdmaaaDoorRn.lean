
/- group: the document's Slots, at, counts: contracts. No condition but lengths, and that all are numbers of 64 bits. -/
import Derived.Test.YtnmblemplkdmaaaDoorRj
namespace Go.Proofs.YtnmblemplkdmaaaDoor
open Go.RowKit Go.Shelf
set_option linter.unusedVariables false
set_option linter.unusedSimpArgs false
set_option maxRecDepth 100000

theorem refSlots_any (x : Int) (w : World) (h : I64 x) : Calls Tryd.prog 15 #[.int .i64 x] w fun e w' => e = .returned (.int .i64 (slotsI x)) ∧ w = w' := by
  unfold I64 at h
  by_cases h0 : 0 ≤ x
  · have e : slotsI x = x / 16 := by unfold slotsI; rw [if_pos h0]
    have e1 : IntKind.i64.wrap (x.tdiv 16) = x / 16 := by rw [Int.tdiv_eq_ediv_of_nonneg h0, IntKind.wrap_i64]; omega
    have d1 : decide (x < 0) = false := by simpa using h0
    rw [e]
    go_enter Tryd.func15, Tryd.ntmps15
    go_wp2
    go_ret
    exact ⟨rfl, rfl⟩
  · have e : slotsI x = 0 := by unfold slotsI; rw [if_neg h0]
    rw [e]
    have h1 : x < 0 := by omega
    go_enter Tryd.func15, Tryd.ntmps15
    go_wp2
    go_ret
    exact ⟨rfl, rfl⟩

theorem refAt_any (b o n c k : Nat) (w : World) (hk : k < n / 16) (hn : n ≤ c) (hc : c ≤ maxLen) :
    Calls Tryd.prog 28 #[.slice (some ⟨b, o, none⟩) n c, .int .i64 (k : Int)] w fun e w' => e = .returned (.slice (some ⟨b, o + 16 * k, none⟩) 16 (c - 16 * k)) ∧ w = w' := by
  unfold maxLen at hc
  have e1 : IntKind.i64.wrap ((k : Int) * 16) = ((16 * k : Nat) : Int) := by rw [IntKind.wrap_i64]; omega
  have e0 : IntKind.i64.wrap ((k : Int) + 1) = ((k + 1 : Nat) : Int) := by rw [IntKind.wrap_i64]; omega
  have e2 : IntKind.i64.wrap (((k + 1 : Nat) : Int) * 16) = ((16 * k + 16 : Nat) : Int) := by rw [IntKind.wrap_i64]; omega
  obtain ⟨K1, hK1⟩ : ∃ K1, K1 = k + 1 := ⟨_, rfl⟩
  obtain ⟨I, hI⟩ : ∃ I, I = 16 * k := ⟨_, rfl⟩
  obtain ⟨J, hJ⟩ : ∃ J, J = 16 * k + 16 := ⟨_, rfl⟩
  rw [← hI] at e1
  rw [← hK1] at e0 e2
  rw [← hJ] at e2
  have hIJ : I < J := by omega
  have hJn : J ≤ n := by omega
  have e3 : 16 = J - I := by omega
  have E3 := Lib.hid e3
  rw [← hI]
  clear hI hJ e3 hK1
  go_enter Tryd.func28, Tryd.ntmps28
  go_wp2
  go_ret
  exact ⟨by rw [E3.out]; rfl, rfl⟩

theorem ahead_len {xs : List Int} {k m : Nat} (hk : k ≤ xs.length / 16) (hm : m ≤ k) : (aheadL xs k m).length = m := by rw [ahead_slots hk hm]; simp
theorem ahead_get {xs : List Int} {k m j : Nat} (hk : k ≤ xs.length / 16) (hm : m ≤ k) (hj : j < m) : (aheadL xs k m).getD j [] = slotA xs (k - m + j) := by
  unfold aheadL lastN
  have hl : ((slotsL xs).take k).length = k := by rw [List.length_take, slotsL_len]; omega
  rw [hl]
  simp only [List.getD]
  rw [List.getElem?_drop, List.getElem?_take, if_pos (by omega), slotsL_get (by omega)]
  rfl
theorem ahead_drop {xs : List Int} {k m j : Nat} (hk : k ≤ xs.length / 16) (hm : m ≤ k) (hj : j < m) : (aheadL xs k m).drop j = slotA xs (k - m + j) :: (aheadL xs k m).drop (j + 1) := by
  rw [drop_get (by rw [ahead_len hk hm]; exact hj), ahead_get hk hm hj]
theorem RecAt.whole {w : World} {g : Nat} {l : List Int} (h : RecAt w g l) : w.rangeAt g 0 (l.map (.int .i64)) := fun j v hv => by
  have hj := (List.getElem?_eq_some_iff.1 hv).1
  simp at hj
  rw [map_get hj] at hv
  injection hv with hv
  rw [← hv, Nat.zero_add, h.cell j hj]
theorem counts_is {xs : List Int} {f : Fnd} {k m : Nat} {q : Int} {first : Bool} {R : Int × List Int} (hk : k < xs.length / 16) (hR : R = readR (slotA xs k)) (h0 : R.1 = 0) (hI : isR R.2 = ((m : Int), first, true)) (hq : q = R.2.getD 1 0) :
    countsB ((slotsL xs).take k) f (slotA xs k) = (decide (m ≤ k) && (recsOk q (-1) (aheadL xs k m) && followsB f q m first)) := by
  unfold countsB followsB aheadL
  rw [← hR, hI, ← hq, decide_eq_true h0]
  simp only [Int.toNat_natCast, Bool.true_and]
  rw [List.length_take, slotsL_len, Nat.min_eq_left (by omega), (decide_eq_decide.2 Int.ofNat_le : decide ((m : Int) ≤ (k : Int)) = decide (m ≤ k))]

set_option maxHeartbeats 8000000 in
theorem refCounts_any (a : Option Addr) (n c : Nat) (xs : List Int) (f : Fnd) (k : Nat) (w : World) (hl : f.live.length = 44) (hi : IntsAt w a n xs) (hn : n ≤ c) (hcm : c ≤ maxLen) (h64 : ∀ x ∈ xs, I64 x) (hk : k < n / 16) :
    Calls Tryd.prog 29 #[.slice a n c, .int .i64 (k : Int), .agg (fndV f)] w fun e w' => e = .returned (.tuple #[.agg (ints (readR (slotA xs k)).2), .bool (countsB ((slotsL xs).take k) f (slotA xs k))]) ∧ Keeps [] w w' := by
  obtain ⟨b, o, rfl⟩ := hi.addr (by omega)
  have hxl := hi.1
  obtain ⟨R, hR⟩ : ∃ R, R = readR (slotA xs k) := ⟨_, rfl⟩
  obtain ⟨B, hB⟩ : ∃ B, B = countsB ((slotsL xs).take k) f (slotA xs k) := ⟨_, rfl⟩
  rw [← hR, ← hB]
  have hR13 : R.2.length = 13 := by rw [hR]; exact readR_len _
  have hR64 : ∀ x ∈ R.2, I64 x := by rw [hR]; exact readR_64 _
  have hs64 : ∀ j, ∀ x ∈ slotA xs j, I64 x := fun j x hx => h64 x (List.mem_of_mem_drop (List.mem_of_mem_take hx))
  have hsl2 : ∀ j, j < n / 16 → ∀ W, Keeps [] w W → IntsAt W (some ⟨b, o + 16 * j, none⟩) 16 (slotA xs j) := fun j hj W hW => (hi.keep0 hW).slot hj
  have hkb : k < 576460752303423488 := by unfold maxLen at hcm; omega
  obtain ⟨q, hq⟩ : ∃ q, q = R.2.getD 1 0 := ⟨_, rfl⟩
  obtain ⟨fq, hfq⟩ : ∃ fq, fq = f.seq := ⟨_, rfl⟩
  have HLV := Lib.hid hl
  have HN := Lib.hid hn
  have HCM := Lib.hid hcm
  have HKN := Lib.hid hk
  have HXL := Lib.hid hxl
  have HR := Lib.hid hR
  have HB := Lib.hid hB
  have HR13 := Lib.hid hR13
  have HR64 := Lib.hid hR64
  have HS64 := Lib.hid hs64
  have HSL2 := Lib.hid hsl2
  have HSL := Lib.hid (hsl2 k hk)
  have HQ := Lib.hid hq
  have HFQ := Lib.hid hfq
  clear hl hi hn hcm h64 hk hxl hR hB hR13 hR64 hs64 hsl2 hq hfq
  by_cases h0 : R.1 = 0
  · have hb : (R.1 != 0) = false := by simp [h0]
    have H0 := Lib.hid h0
    clear h0
    cases his : (isR R.2).2.2
    · have HIS := Lib.hid his
      have HF := Lib.hid (show B = false by rw [HB.out]; unfold countsB; rw [← HR.out, his]; simp)
      clear his
      go_enter Tryd.func29, Tryd.ntmps29
      go_upto_region 1 with fail
      simp only [zeros13]
      have z0 : RecAt ((w.alloc (.cells (fndV f) 30)).alloc (.cells (ints (zer 13)) 46)) (w.heap.size + 1) (zer 13) := by
        have h := heap_alloc_new (w.alloc (.cells (fndV f) 30)) (.cells (ints (zer 13)) 46)
        rw [World.size_alloc] at h
        exact h
      have f0 : FAt ((w.alloc (.cells (fndV f) 30)).alloc (.cells (ints (zer 13)) 46)) w.heap.size 30 [] f := heap_alloc_held (heap_alloc_new w _) _
      have k0 : Keeps [] w ((w.alloc (.cells (fndV f) 30)).alloc (.cells (ints (zer 13)) 46)) := ((Keeps.refl _ _).alloc _).alloc _
      have s0 : ((w.alloc (.cells (fndV f) 30)).alloc (.cells (ints (zer 13)) 46)).heap.size = w.heap.size + 1 + 1 := by simp
      generalize (w.alloc (.cells (fndV f) 30)).alloc (.cells (ints (zer 13)) 46) = w0 at *
      have Z0 := Lib.hid z0
      have F0 := Lib.hid f0
      have K0 := Lib.hid k0
      clear z0 f0 k0
      go_wp2_with (first
        | (go_at_call 28; refine (refAt_any b o n c k _ HKN.out HN.out HCM.out).mono ?_; rintro e w' ⟨rfl, rfl⟩)
        | (go_at_call 30; refine (refRead_any _ _ _ (slotA xs k) _ (HSL.out _ K0.out) (by unfold maxLen; omega) (HS64.out k)).mono ?_; rw [← HR.out]; rintro e u2 ⟨rfl, k2⟩; have hA : RecAt (u2.alloc (.cells (ints (zer 13)) 46)) u2.heap.size (zer 13) := heap_alloc_new u2 _; have K2 := Lib.hid (K0.out.trans0 k2); have F2 := Lib.hid (F0.out.keep k2 (by simp)); have Z2 := Lib.hid (Z0.out.keep k2 (by simp)); have hu2 := K0.out.size; have hu3 := k2.size; clear k2)
        | (simp only [zeros13])
        | (refine st_rec _ _ hA (zer_len _) HR13.out rfl rfl rfl rfl ?_; intro u3 h3 k3 s3; simp only [Act.put]; have K3 := Lib.hid ((K2.out.alloc (.cells (ints (zer 13)) 46)).trans k3 (by intro x hx; right; simp at hx; omega)); have F3 := Lib.hid (FAt.keep (heap_alloc_held F2.out (.cells (ints (zer 13)) 46)) k3 (by simp; omega)); have Z3 := Lib.hid (RecAt.keep (heap_alloc_held Z2.out (.cells (ints (zer 13)) 46)) k3 (by simp; omega)); clear hA k3)
        | (refine ld_rec _ h3 HR13.out rfl rfl rfl ?_; simp only [Act.put])
        | (go_at_call 46; refine (refIsCommit_any _ _ HR13.out HR64.out).mono ?_; (first | (rw [HII.out]) | (rw [HIS.out])); rintro e u4 ⟨rfl, k4⟩; have h4 := h3.keep k4 (by simp); have K4 := Lib.hid (K3.out.trans0 k4); have F4 := Lib.hid (F3.out.keep k4 (by simp)); have Z4 := Lib.hid (Z3.out.keep k4 (by simp)); have H4 := Lib.hid h4; have hu4 := k4.size; clear k4 h3)
        | (refine ld_rec _ h4 HR13.out rfl rfl rfl ?_; simp only [Act.put])
        | (refine st_rec _ _ Z4.out (zer_len _) HR13.out rfl rfl rfl rfl ?_; intro u5 h5 k5 s5; simp only [Act.put]; have K5 := Lib.hid (K4.out.trans k5 (by intro x hx; right; simp at hx; omega)); clear k5))
      refine bodyPost_ret (ret_rec2 rfl h5 HR13.out rfl) rfl ⟨by rw [HF.out]; rfl, K5.out⟩
    · obtain ⟨m, hm⟩ := Int.eq_ofNat_of_zero_le (show 0 ≤ (isR R.2).1 by have := isR_many his; omega)
      have hmb := isR_many his
      obtain ⟨first, hfi⟩ : ∃ b, b = (isR R.2).2.1 := ⟨_, rfl⟩
      have hI : isR R.2 = ((m : Int), first, true) := by rw [← hm, hfi, ← his]
      have hm4 : 1 ≤ m ∧ m ≤ 4 := by omega
      have hCI := counts_is (f := f) (by rw [← HXL.out]; exact HKN.out) HR.out H0.out hI HQ.out
      rw [← HB.out] at hCI
      have HII := Lib.hid hI
      have HM4 := Lib.hid hm4
      clear his hm hmb hfi hI hm4
      by_cases hmk : m ≤ k
      · rw [decide_eq_true hmk, Bool.true_and] at hCI
        have HCI := Lib.hid hCI
        have hgt : (m : Int) ≤ (k : Int) := by omega
        have d0 : decide ((k : Int) < (m : Int)) = false := by simpa using hgt
        have hkm : IntKind.i64.wrap ((k : Int) - (m : Int)) = ((k - m : Nat) : Int) := by rw [IntKind.wrap_i64]; omega
        have hK16 : k ≤ xs.length / 16 := by rw [← HXL.out]; have := HKN.out; omega
        have HDR := Lib.hid (fun j (hj : j < m) => ahead_drop (xs := xs) hK16 hmk hj)
        have HAL := Lib.hid (ahead_len (xs := xs) hK16 hmk)
        obtain ⟨ss, hss⟩ : ∃ ss, ss = aheadL xs k m := ⟨_, rfl⟩
        rw [← hss] at HCI HDR HAL
        have HM := Lib.hid hmk
        clear hCI hK16 hss hmk
        go_enter Tryd.func29, Tryd.ntmps29
        go_upto_region 1 with fail
        simp only [zeros13]
        have z0 : RecAt ((w.alloc (.cells (fndV f) 30)).alloc (.cells (ints (zer 13)) 46)) (w.heap.size + 1) (zer 13) := by
          have h := heap_alloc_new (w.alloc (.cells (fndV f) 30)) (.cells (ints (zer 13)) 46)
          rw [World.size_alloc] at h
          exact h
        have f0 : FAt ((w.alloc (.cells (fndV f) 30)).alloc (.cells (ints (zer 13)) 46)) w.heap.size 30 [] f := heap_alloc_held (heap_alloc_new w _) _
        have k0 : Keeps [] w ((w.alloc (.cells (fndV f) 30)).alloc (.cells (ints (zer 13)) 46)) := ((Keeps.refl _ _).alloc _).alloc _
        have s0 : ((w.alloc (.cells (fndV f) 30)).alloc (.cells (ints (zer 13)) 46)).heap.size = w.heap.size + 1 + 1 := by simp
        generalize (w.alloc (.cells (fndV f) 30)).alloc (.cells (ints (zer 13)) 46) = w0 at *
        have Z0 := Lib.hid z0
        have F0 := Lib.hid f0
        have K0 := Lib.hid k0
        clear z0 f0 k0
        go_wp2_with (first
        | (go_at_call 28; refine (refAt_any b o n c k _ HKN.out HN.out HCM.out).mono ?_; rintro e w' ⟨rfl, rfl⟩)
        | (go_at_call 30; refine (refRead_any _ _ _ (slotA xs k) _ (HSL.out _ K0.out) (by unfold maxLen; omega) (HS64.out k)).mono ?_; rw [← HR.out]; rintro e u2 ⟨rfl, k2⟩; have hA : RecAt (u2.alloc (.cells (ints (zer 13)) 46)) u2.heap.size (zer 13) := heap_alloc_new u2 _; have K2 := Lib.hid (K0.out.trans0 k2); have F2 := Lib.hid (F0.out.keep k2 (by simp)); have Z2 := Lib.hid (Z0.out.keep k2 (by simp)); have hu2 := K0.out.size; have hu3 := k2.size; clear k2)
        | (simp only [zeros13])
        | (refine st_rec _ _ hA (zer_len _) HR13.out rfl rfl rfl rfl ?_; intro u3 h3 k3 s3; simp only [Act.put]; have K3 := Lib.hid ((K2.out.alloc (.cells (ints (zer 13)) 46)).trans k3 (by intro x hx; right; simp at hx; omega)); have F3 := Lib.hid (FAt.keep (heap_alloc_held F2.out (.cells (ints (zer 13)) 46)) k3 (by simp; omega)); have Z3 := Lib.hid (RecAt.keep (heap_alloc_held Z2.out (.cells (ints (zer 13)) 46)) k3 (by simp; omega)); clear hA k3)
        | (refine ld_rec _ h3 HR13.out rfl rfl rfl ?_; simp only [Act.put])
        | (go_at_call 46; refine (refIsCommit_any _ _ HR13.out HR64.out).mono ?_; (first | (rw [HII.out]) | (rw [HIS.out])); rintro e u4 ⟨rfl, k4⟩; have h4 := h3.keep k4 (by simp); have K4 := Lib.hid (K3.out.trans0 k4); have F4 := Lib.hid (F3.out.keep k4 (by simp)); have Z4 := Lib.hid (Z3.out.keep k4 (by simp)); have H4 := Lib.hid h4; have hu4 := k4.size; clear k4 h3)
        | (refine ld_rec _ h4 HR13.out rfl rfl rfl ?_; simp only [Act.put])
        | (refine st_rec _ _ Z4.out (zer_len _) HR13.out rfl rfl rfl rfl ?_; intro u5 h5 k5 s5; simp only [Act.put]; have K5 := Lib.hid (K4.out.trans k5 (by intro x hx; right; simp at hx; omega)); clear k5))
        obtain ⟨gC, hgC⟩ : ∃ gC, gC = u2.heap.size := ⟨_, rfl⟩
        rw [← hgC] at h4 H4 ⊢
        have hgg : w.heap.size + 1 < gC := by omega
        clear h4 hgC
        go_loopw [13, 14] (fun vl vi wr => ∃ (j : Nat) (last : Int), j ≤ m ∧ vi = .int .i64 ((k - m + j : Nat) : Int) ∧ vl = .int .i64 last ∧ recsOk q (-1) ss = recsOk q last (ss.drop j) ∧ Keeps [] u4 wr) (fun _ vi _ => k - (intOf vi).toNat)
        case atStart => exact ⟨0, -1, Nat.zero_le _, by simp, rfl, by rw [List.drop_zero], Keeps.refl _ _⟩
        case round =>
          obtain ⟨j, last, hj, rfl, rfl, hrec, hkk⟩ := hrel
          have hC := H4.out.keep hkk (by simp)
          have hF := F4.out.keep hkk (by simp)
          have hres := Z4.out.keep hkk (by simp)
          have hk := K4.out.trans0 hkk
          have HC := Lib.hid hC
          have HFF := Lib.hid hF
          have HRES := Lib.hid hres
          have HK := Lib.hid hk
          have HKK := Lib.hid hkk
          have HREC := Lib.hid hrec
          have hsz := hkk.size
          have hgw : gC < wr.heap.size := lt_of_block hC
          clear hrec hkk hk
          obtain ⟨i, hij⟩ : ∃ i, i = k - m + j := ⟨_, rfl⟩
          rw [← hij]
          have HIJ := Lib.hid hij
          have hjb : j ≤ m → i ≤ k := by have := HM.out; omega
          clear hij
          by_cases hlt : j < m
          · have hikn : i < k := by have := HM.out; have := HIJ.out; omega
            have hik : (i : Int) < (k : Int) := by omega
            have e1 : IntKind.i64.wrap ((i : Int) + 1) = ((i + 1 : Nat) : Int) := by rw [IntKind.wrap_i64]; omega
            obtain ⟨T, hT⟩ : ∃ T, T = readR (slotA xs i) := ⟨_, rfl⟩
            have hT13 : T.2.length = 13 := by rw [hT]; exact readR_len _
            obtain ⟨kd, hkd⟩ : ∃ kd, kd = T.2.getD 0 0 := ⟨_, rfl⟩
            obtain ⟨qd, hqd⟩ : ∃ qd, qd = T.2.getD 1 0 := ⟨_, rfl⟩
            have hstep : recsOk q (-1) ss = ((decide (T.1 = 0) && (decide (kd < 4) && (decide (last < kd) && decide (qd = q)))) && recsOk q kd (ss.drop (j + 1))) := by
              rw [HREC.out, HDR.out j hlt, ← HIJ.out]
              simp only [recsOk]
              rw [← hT, ← hkd, ← hqd]
            have HT := Lib.hid hT
            have HT13 := Lib.hid hT13
            have HKD := Lib.hid hkd
            have HQD := Lib.hid hqd
            have HST := Lib.hid hstep
            clear hT hT13 hkd hqd hstep hC hF hres hjb
            by_cases t0 : T.1 = 0
            · have d1 : (T.1 != 0) = false := by simp [t0]
              have T0 := Lib.hid t0
              clear t0
              by_cases t1 : kd < 4
              · have d2 : decide (4 ≤ kd) = false := by simpa using t1
                by_cases t2 : last < kd
                · have d3 : decide (kd ≤ last) = false := by simpa using t2
                  by_cases t3 : qd = q
                  · have d4 : (qd != q) = false := by simp [t3]
                    have HNX := Lib.hid (show recsOk q (-1) ss = recsOk q kd (ss.drop (j + 1)) by rw [HST.out, decide_eq_true T0.out, decide_eq_true t1, decide_eq_true t2, decide_eq_true t3]; rfl)
                    clear t1 t2 t3
                    go_wp2_with (first
        | (go_at_call 28; refine (refAt_any b o n c i _ (by have := HKN.out; omega) HN.out HCM.out).mono ?_; rintro e w' ⟨rfl, rfl⟩)
        | (go_at_call 30; refine (refRead_any _ _ _ (slotA xs i) _ (HSL2.out i (by have := HKN.out; omega) _ HK.out) (by unfold maxLen; omega) (HS64.out i)).mono ?_; rw [← HT.out]; rintro e v2 ⟨rfl, k2⟩; have hA : RecAt (v2.alloc (.cells (ints (zer 13)) 46)) v2.heap.size (zer 13) := heap_alloc_new v2 _; have K2 := Lib.hid (k2.alloc (.cells (ints (zer 13)) 46)); have hv2 := k2.size; clear k2)
        | (simp only [zeros13])
        | (refine st_rec _ _ hA (zer_len _) HT13.out rfl rfl rfl rfl ?_; intro v3 t3 k3 s3; simp only [Act.put]; have kk3 := K2.out.trans k3 (by intro x hx; right; simp at hx; omega); have KV := Lib.hid (HK.out.trans0 kk3); have KX := Lib.hid kk3; have ct0 := t3.cell 0 (by rw [HT13.out]; decide); have ct1 := t3.cell 1 (by rw [HT13.out]; decide); rw [← HKD.out] at ct0; rw [← HQD.out] at ct1; have hC3 := HC.out.keep kk3 (by simp); have hc1 := hC3.cell 1 (by rw [HR13.out]; decide); rw [← HQ.out] at hc1; have HC3 := Lib.hid hC3; have hres3 := HRES.out.keep kk3 (by simp); clear hA k3 kk3 t3)
        | (refine ld_rec _ hC3 HR13.out rfl rfl rfl ?_; simp only [Act.put])
        | (refine st_rec _ _ hres3 (zer_len _) HR13.out rfl rfl rfl rfl ?_; intro u5 h5 k5 s5; simp only [Act.put]; have K5 := Lib.hid (KV.out.trans k5 (by intro x hx; right; simp at hx; omega)); clear k5))
                    go_roundw
                    case rel => exact ⟨j + 1, kd, by omega, by have := HIJ.out; rw [show k - m + (j + 1) = i + 1 by omega]; go_num, rfl, HNX.out, HKK.out.trans0 KX.out⟩
                    case measure => simp [intOf]; omega
                  · have d4 : (qd != q) = true := by simp [t3]
                    have HF := Lib.hid (show B = false by rw [HCI.out, HST.out, decide_eq_false t3]; simp)
                    clear t1 t2 t3
                    go_wp2_with (first
        | (go_at_call 28; refine (refAt_any b o n c i _ (by have := HKN.out; omega) HN.out HCM.out).mono ?_; rintro e w' ⟨rfl, rfl⟩)
        | (go_at_call 30; refine (refRead_any _ _ _ (slotA xs i) _ (HSL2.out i (by have := HKN.out; omega) _ HK.out) (by unfold maxLen; omega) (HS64.out i)).mono ?_; rw [← HT.out]; rintro e v2 ⟨rfl, k2⟩; have hA : RecAt (v2.alloc (.cells (ints (zer 13)) 46)) v2.heap.size (zer 13) := heap_alloc_new v2 _; have K2 := Lib.hid (k2.alloc (.cells (ints (zer 13)) 46)); have hv2 := k2.size; clear k2)
        | (simp only [zeros13])
        | (refine st_rec _ _ hA (zer_len _) HT13.out rfl rfl rfl rfl ?_; intro v3 t3 k3 s3; simp only [Act.put]; have kk3 := K2.out.trans k3 (by intro x hx; right; simp at hx; omega); have KV := Lib.hid (HK.out.trans0 kk3); have KX := Lib.hid kk3; have ct0 := t3.cell 0 (by rw [HT13.out]; decide); have ct1 := t3.cell 1 (by rw [HT13.out]; decide); rw [← HKD.out] at ct0; rw [← HQD.out] at ct1; have hC3 := HC.out.keep kk3 (by simp); have hc1 := hC3.cell 1 (by rw [HR13.out]; decide); rw [← HQ.out] at hc1; have HC3 := Lib.hid hC3; have hres3 := HRES.out.keep kk3 (by simp); clear hA k3 kk3 t3)
        | (refine ld_rec _ hC3 HR13.out rfl rfl rfl ?_; simp only [Act.put])
        | (refine st_rec _ _ hres3 (zer_len _) HR13.out rfl rfl rfl rfl ?_; intro u5 h5 k5 s5; simp only [Act.put]; have K5 := Lib.hid (KV.out.trans k5 (by intro x hx; right; simp at hx; omega)); clear k5))
                    refine bodyPost_ret (ret_rec2 rfl h5 HR13.out rfl) rfl ⟨by rw [HF.out]; rfl, K5.out⟩
                · have d3 : decide (kd ≤ last) = true := by simpa using t2
                  have HF := Lib.hid (show B = false by rw [HCI.out, HST.out, decide_eq_false t2]; simp)
                  clear t1 t2
                  go_wp2_with (first
        | (go_at_call 28; refine (refAt_any b o n c i _ (by have := HKN.out; omega) HN.out HCM.out).mono ?_; rintro e w' ⟨rfl, rfl⟩)
        | (go_at_call 30; refine (refRead_any _ _ _ (slotA xs i) _ (HSL2.out i (by have := HKN.out; omega) _ HK.out) (by unfold maxLen; omega) (HS64.out i)).mono ?_; rw [← HT.out]; rintro e v2 ⟨rfl, k2⟩; have hA : RecAt (v2.alloc (.cells (ints (zer 13)) 46)) v2.heap.size (zer 13) := heap_alloc_new v2 _; have K2 := Lib.hid (k2.alloc (.cells (ints (zer 13)) 46)); have hv2 := k2.size; clear k2)
        | (simp only [zeros13])
        | (refine st_rec _ _ hA (zer_len _) HT13.out rfl rfl rfl rfl ?_; intro v3 t3 k3 s3; simp only [Act.put]; have kk3 := K2.out.trans k3 (by intro x hx; right; simp at hx; omega); have KV := Lib.hid (HK.out.trans0 kk3); have KX := Lib.hid kk3; have ct0 := t3.cell 0 (by rw [HT13.out]; decide); have ct1 := t3.cell 1 (by rw [HT13.out]; decide); rw [← HKD.out] at ct0; rw [← HQD.out] at ct1; have hC3 := HC.out.keep kk3 (by simp); have hc1 := hC3.cell 1 (by rw [HR13.out]; decide); rw [← HQ.out] at hc1; have HC3 := Lib.hid hC3; have hres3 := HRES.out.keep kk3 (by simp); clear hA k3 kk3 t3)
        | (refine ld_rec _ hC3 HR13.out rfl rfl rfl ?_; simp only [Act.put])
        | (refine st_rec _ _ hres3 (zer_len _) HR13.out rfl rfl rfl rfl ?_; intro u5 h5 k5 s5; simp only [Act.put]; have K5 := Lib.hid (KV.out.trans k5 (by intro x hx; right; simp at hx; omega)); clear k5))
                  refine bodyPost_ret (ret_rec2 rfl h5 HR13.out rfl) rfl ⟨by rw [HF.out]; rfl, K5.out⟩
              · have d2 : decide (4 ≤ kd) = true := by simpa using t1
                have HF := Lib.hid (show B = false by rw [HCI.out, HST.out, decide_eq_false t1]; simp)
                clear t1
                go_wp2_with (first
        | (go_at_call 28; refine (refAt_any b o n c i _ (by have := HKN.out; omega) HN.out HCM.out).mono ?_; rintro e w' ⟨rfl, rfl⟩)
        | (go_at_call 30; refine (refRead_any _ _ _ (slotA xs i) _ (HSL2.out i (by have := HKN.out; omega) _ HK.out) (by unfold maxLen; omega) (HS64.out i)).mono ?_; rw [← HT.out]; rintro e v2 ⟨rfl, k2⟩; have hA : RecAt (v2.alloc (.cells (ints (zer 13)) 46)) v2.heap.size (zer 13) := heap_alloc_new v2 _; have K2 := Lib.hid (k2.alloc (.cells (ints (zer 13)) 46)); have hv2 := k2.size; clear k2)
        | (simp only [zeros13])
        | (refine st_rec _ _ hA (zer_len _) HT13.out rfl rfl rfl rfl ?_; intro v3 t3 k3 s3; simp only [Act.put]; have kk3 := K2.out.trans k3 (by intro x hx; right; simp at hx; omega); have KV := Lib.hid (HK.out.trans0 kk3); have KX := Lib.hid kk3; have ct0 := t3.cell 0 (by rw [HT13.out]; decide); have ct1 := t3.cell 1 (by rw [HT13.out]; decide); rw [← HKD.out] at ct0; rw [← HQD.out] at ct1; have hC3 := HC.out.keep kk3 (by simp); have hc1 := hC3.cell 1 (by rw [HR13.out]; decide); rw [← HQ.out] at hc1; have HC3 := Lib.hid hC3; have hres3 := HRES.out.keep kk3 (by simp); clear hA k3 kk3 t3)
        | (refine ld_rec _ hC3 HR13.out rfl rfl rfl ?_; simp only [Act.put])
        | (refine st_rec _ _ hres3 (zer_len _) HR13.out rfl rfl rfl rfl ?_; intro u5 h5 k5 s5; simp only [Act.put]; have K5 := Lib.hid (KV.out.trans k5 (by intro x hx; right; simp at hx; omega)); clear k5))
                refine bodyPost_ret (ret_rec2 rfl h5 HR13.out rfl) rfl ⟨by rw [HF.out]; rfl, K5.out⟩
            · have d1 : (T.1 != 0) = true := by simp [t0]
              have HF := Lib.hid (show B = false by rw [HCI.out, HST.out, decide_eq_false t0]; simp)
              clear t0
              go_wp2_with (first
        | (go_at_call 28; refine (refAt_any b o n c i _ (by have := HKN.out; omega) HN.out HCM.out).mono ?_; rintro e w' ⟨rfl, rfl⟩)
        | (go_at_call 30; refine (refRead_any _ _ _ (slotA xs i) _ (HSL2.out i (by have := HKN.out; omega) _ HK.out) (by unfold maxLen; omega) (HS64.out i)).mono ?_; rw [← HT.out]; rintro e v2 ⟨rfl, k2⟩; have hA : RecAt (v2.alloc (.cells (ints (zer 13)) 46)) v2.heap.size (zer 13) := heap_alloc_new v2 _; have K2 := Lib.hid (k2.alloc (.cells (ints (zer 13)) 46)); have hv2 := k2.size; clear k2)
        | (simp only [zeros13])
        | (refine st_rec _ _ hA (zer_len _) HT13.out rfl rfl rfl rfl ?_; intro v3 t3 k3 s3; simp only [Act.put]; have kk3 := K2.out.trans k3 (by intro x hx; right; simp at hx; omega); have KV := Lib.hid (HK.out.trans0 kk3); have KX := Lib.hid kk3; have ct0 := t3.cell 0 (by rw [HT13.out]; decide); have ct1 := t3.cell 1 (by rw [HT13.out]; decide); rw [← HKD.out] at ct0; rw [← HQD.out] at ct1; have hC3 := HC.out.keep kk3 (by simp); have hc1 := hC3.cell 1 (by rw [HR13.out]; decide); rw [← HQ.out] at hc1; have HC3 := Lib.hid hC3; have hres3 := HRES.out.keep kk3 (by simp); clear hA k3 kk3 t3)
        | (refine ld_rec _ hC3 HR13.out rfl rfl rfl ?_; simp only [Act.put])
        | (refine st_rec _ _ hres3 (zer_len _) HR13.out rfl rfl rfl rfl ?_; intro u5 h5 k5 s5; simp only [Act.put]; have K5 := Lib.hid (KV.out.trans k5 (by intro x hx; right; simp at hx; omega)); clear k5))
              refine bodyPost_ret (ret_rec2 rfl h5 HR13.out rfl) rfl ⟨by rw [HF.out]; rfl, K5.out⟩
          · have hik : i = k := by have := HM.out; have := HIJ.out; omega
            clear hjb
            have hro : recsOk q (-1) ss = true := by rw [HREC.out, List.drop_eq_nil_of_le (by rw [HAL.out]; omega)]; rfl
            have HCI2 := Lib.hid (show B = followsB f q m first by rw [HCI.out, hro, Bool.true_and])
            have cf : wr.cell? ⟨w.heap.size, 0, none⟩ = some (.bool f.has) := hF.has
            clear hro
            subst hik
            cases hh : f.has
            · rw [hh] at cf
              have HH := Lib.hid hh
              clear hh hF
              cases first
              · have HF := Lib.hid (show B = false by rw [HCI2.out]; unfold followsB; rw [HH.out]; rfl)
                go_wp2_with (first
                  | (refine ld_rec _ hC HR13.out rfl rfl rfl ?_; simp only [Act.put])
                  | (refine st_rec _ _ hres (zer_len _) HR13.out rfl rfl rfl rfl ?_; intro u5 h5 k5 s5; simp only [Act.put]; have K5 := Lib.hid (HK.out.trans k5 (by intro x hx; right; simp at hx; omega)); clear k5))
                refine bodyPost_ret (ret_rec2 rfl h5 HR13.out rfl) rfl ⟨by rw [HF.out]; rfl, K5.out⟩
              · by_cases h4 : (m : Int) = 4
                · have d5 : ((m : Int) == 4) = true := by simp [h4]
                  have HF := Lib.hid (show B = true by rw [HCI2.out]; unfold followsB; rw [HH.out, decide_eq_true h4]; rfl)
                  clear h4
                  go_wp2_with (first
                    | (refine ld_rec _ hC HR13.out rfl rfl rfl ?_; simp only [Act.put])
                    | (refine st_rec _ _ hres (zer_len _) HR13.out rfl rfl rfl rfl ?_; intro u5 h5 k5 s5; simp only [Act.put]; have K5 := Lib.hid (HK.out.trans k5 (by intro x hx; right; simp at hx; omega)); clear k5))
                  refine bodyPost_ret (ret_rec2 rfl h5 HR13.out rfl) rfl ⟨by rw [HF.out]; rfl, K5.out⟩
                · have d5 : ((m : Int) == 4) = false := by simp [h4]
                  have HF := Lib.hid (show B = false by rw [HCI2.out]; unfold followsB; rw [HH.out, decide_eq_false h4]; rfl)
                  clear h4
                  go_wp2_with (first
                    | (refine ld_rec _ hC HR13.out rfl rfl rfl ?_; simp only [Act.put])
                    | (refine st_rec _ _ hres (zer_len _) HR13.out rfl rfl rfl rfl ?_; intro u5 h5 k5 s5; simp only [Act.put]; have K5 := Lib.hid (HK.out.trans k5 (by intro x hx; right; simp at hx; omega)); clear k5))
                  refine bodyPost_ret (ret_rec2 rfl h5 HR13.out rfl) rfl ⟨by rw [HF.out]; rfl, K5.out⟩
            · rw [hh] at cf
              have HH := Lib.hid hh
              clear hh
              cases first
              · have HF := Lib.hid (show B = decide (fq < q) by rw [HCI2.out, HFQ.out]; unfold followsB; rw [HH.out]; rfl)
                go_upto_region 15 with fail
                refine wp_region_held_drew (S := fun wz => RecAt wz gC R.2 ∧ FAt wz w.heap.size 30 [] f) (by kernel_rfl) ⟨hC, hF⟩ (fun hHeld => ?_)
                refine wpAnyH_take (i := 0) (oi := ⟨some 89, _, _, _, _, _⟩) (v := .agg (ints R.2)) rfl (by kernel_rfl) (by kernel_rfl) (by kernel_rfl) (fun _ _ _ h => h) (yieldsIf_load_mid (by rfl) _ _ rfl _ _ rfl (R.2.map (.int .i64)) _ (fun _ h => RecAt.whole h.1) Tryd.underlying46 rfl (by rw [List.length_map, HR13.out]; exact infoRec)) hHeld ?_
                simp only [Act.put, List.setIfInBounds_toArray, List.set_cons_zero, List.set_cons_succ]
                refine wpAnyH_take (i := 1) (oi := ⟨some 90, _, _, _, _, _⟩) (v := .bool false) rfl (by kernel_rfl) (by kernel_rfl) (by kernel_rfl) (fun _ _ _ h => h) (Or.inl ⟨by rfl, fun wz hz => by go_simp⟩) hHeld ?_
                simp only [Act.put, List.setIfInBounds_toArray, List.set_cons_zero, List.set_cons_succ]
                refine wpAnyH_take (i := 2) (oi := ⟨some 91, _, _, _, _, _⟩) (v := .bool true) rfl (by kernel_rfl) (by kernel_rfl) (by kernel_rfl) (fun _ _ _ h => h) (Or.inl ⟨by rfl, fun wz hz => by go_simp⟩) hHeld ?_
                simp only [Act.put, List.setIfInBounds_toArray, List.set_cons_zero, List.set_cons_succ]
                refine wpAnyH_take (i := 3) (oi := ⟨some 92, _, _, _, _, _⟩) (v := .bool true) rfl (by kernel_rfl) (by kernel_rfl) (by kernel_rfl) (fun _ _ _ h => h) (Or.inl ⟨by rfl, fun wz hz => by go_simp⟩) hHeld ?_
                simp only [Act.put, List.setIfInBounds_toArray, List.set_cons_zero, List.set_cons_succ]
                refine wpAnyH_take (i := 4) (oi := ⟨some 93, _, _, _, _, _⟩) (v := .pointer (some ⟨gC, 1, none⟩)) rfl (by kernel_rfl) (by kernel_rfl) (by kernel_rfl) (fun _ _ _ h => h) (Or.inl ⟨by rfl, fun wz hz => by go_simp⟩) hHeld ?_
                simp only [Act.put, List.setIfInBounds_toArray, List.set_cons_zero, List.set_cons_succ]
                refine wpAnyH_take (i := 5) (oi := ⟨some 94, _, _, _, _, _⟩) (v := .int .i64 q) rfl (by kernel_rfl) (by kernel_rfl) (by kernel_rfl) (fun _ _ _ h => h) (Or.inl ⟨by rfl, fun wz hz => by have hs := RecAt.cell hz.1 1 (by rw [HR13.out]; decide); rw [← HQ.out] at hs; go_simp⟩) hHeld ?_
                simp only [Act.put, List.setIfInBounds_toArray, List.set_cons_zero, List.set_cons_succ]
                refine wpAnyH_take (i := 6) (oi := ⟨some 95, _, _, _, _, _⟩) (v := .pointer (some ⟨w.heap.size, 1, none⟩)) rfl (by kernel_rfl) (by kernel_rfl) (by kernel_rfl) (fun _ _ _ h => h) (Or.inl ⟨by rfl, fun wz hz => by go_simp⟩) hHeld ?_
                simp only [Act.put, List.setIfInBounds_toArray, List.set_cons_zero, List.set_cons_succ]
                refine wpAnyH_take (i := 7) (oi := ⟨some 96, _, _, _, _, _⟩) (v := .int .i64 fq) rfl (by kernel_rfl) (by kernel_rfl) (by kernel_rfl) (fun _ _ _ h => h) (Or.inl ⟨by rfl, fun wz hz => by have hs : wz.cell? ⟨w.heap.size, 1, none⟩ = some (.int .i64 f.seq) := FAt.seq hz.2; rw [← HFQ.out] at hs; go_simp⟩) hHeld ?_
                simp only [Act.put, List.setIfInBounds_toArray, List.set_cons_zero, List.set_cons_succ]
                refine wpAnyH_take (i := 8) (oi := ⟨some 97, _, _, _, _, _⟩) (v := .bool (decide (fq < q))) rfl (by kernel_rfl) (by kernel_rfl) (by kernel_rfl) (fun _ _ _ h => h) (Or.inl ⟨by rfl, fun wz hz => by go_simp⟩) hHeld ?_
                simp only [Act.put, List.setIfInBounds_toArray, List.set_cons_zero, List.set_cons_succ]
                refine wpAnyH_take (i := 9) (oi := ⟨some 98, _, _, _, _, _⟩) (v := .bool (decide (fq < q))) rfl (by kernel_rfl) (by kernel_rfl) (by kernel_rfl) (fun _ _ _ h => h) (Or.inl ⟨by rfl, fun wz hz => by go_simp⟩) hHeld ?_
                simp only [Act.put, List.setIfInBounds_toArray, List.set_cons_zero, List.set_cons_succ]
                refine wpAnyH_ready (rs := [10]) (by kernel_rfl) (by simp) ?_
                refine AllReadyH.cons (o := ⟨none, _, _, _, _, _⟩) rfl (fun K hK => ?_) AllReadyH.nil
                rw [if_pos (by rfl)]
                refine wp_store_row _ _ _ rfl (w.heap.size + 1) (ints R.2) rfl rfl _ (ints (zer 13)) hres (by rw [ints_size, HR13.out]; exact infoRec) (by rw [ints_size, ints_size, HR13.out, zer_len]) (ints_one _) ?_
                have g1 : Keeps [w.heap.size + 1] wr (wr.drew.setRow (w.heap.size + 1) (ints R.2)) := (Keeps.drew (Keeps.refl _ _)).setRowR (.inl (by simp)) _
                have a1 : RecAt (wr.drew.setRow (w.heap.size + 1) (ints R.2)) (w.heap.size + 1) R.2 := setRow_heap wr.drew _ _ _ _ _ hres
                refine hK.out _ _ ⟨g1.held hHeld.1 (by simp; omega), g1.held hHeld.2 (by simp)⟩ (fun hHeld => ?_)
                have K9 := Lib.hid (HK.out.trans g1 (by simp))
                clear hK K g1
                generalize wr.drew.setRow (w.heap.size + 1) (ints R.2) = w9 at *
                refine wpAnyH_take (i := 11) (oi := ⟨some 7, _, _, _, _, _⟩) (v := .bool (decide (fq < q))) rfl (by kernel_rfl) (by kernel_rfl) (by kernel_rfl) (fun _ _ _ h => h) (Or.inl ⟨by rfl, fun wz hz => by go_simp⟩) hHeld ?_
                simp only [Act.put, List.setIfInBounds_toArray, List.set_cons_zero, List.set_cons_succ]
                refine wpAnyH_done (by kernel_rfl) ?_ _
                clear hHeld
                go_wp2_with fail
                refine bodyPost_ret (ret_rec2 rfl a1 HR13.out rfl) rfl ⟨by rw [HF.out]; rfl, K9.out⟩
              · have HF := Lib.hid (show B = false by rw [HCI2.out]; unfold followsB; rw [HH.out]; rfl)
                go_upto_region 15 with fail
                refine wp_region_held_drew (S := fun wz => RecAt wz gC R.2 ∧ FAt wz w.heap.size 30 [] f) (by kernel_rfl) ⟨hC, hF⟩ (fun hHeld => ?_)
                refine wpAnyH_take (i := 0) (oi := ⟨some 89, _, _, _, _, _⟩) (v := .agg (ints R.2)) rfl (by kernel_rfl) (by kernel_rfl) (by kernel_rfl) (fun _ _ _ h => h) (yieldsIf_load_mid (by rfl) _ _ rfl _ _ rfl (R.2.map (.int .i64)) _ (fun _ h => RecAt.whole h.1) Tryd.underlying46 rfl (by rw [List.length_map, HR13.out]; exact infoRec)) hHeld ?_
                simp only [Act.put, List.setIfInBounds_toArray, List.set_cons_zero, List.set_cons_succ]
                refine wpAnyH_take (i := 1) (oi := ⟨some 90, _, _, _, _, _⟩) (v := .bool true) rfl (by kernel_rfl) (by kernel_rfl) (by kernel_rfl) (fun _ _ _ h => h) (Or.inl ⟨by rfl, fun wz hz => by go_simp⟩) hHeld ?_
                simp only [Act.put, List.setIfInBounds_toArray, List.set_cons_zero, List.set_cons_succ]
                refine wpAnyH_take (i := 2) (oi := ⟨some 91, _, _, _, _, _⟩) (v := .bool false) rfl (by kernel_rfl) (by kernel_rfl) (by kernel_rfl) (fun _ _ _ h => h) (Or.inl ⟨by rfl, fun wz hz => by go_simp⟩) hHeld ?_
                simp only [Act.put, List.setIfInBounds_toArray, List.set_cons_zero, List.set_cons_succ]
                refine wpAnyH_take (i := 3) (oi := ⟨some 92, _, _, _, _, _⟩) (v := .bool false) rfl (by kernel_rfl) (by kernel_rfl) (by kernel_rfl) (fun _ _ _ h => h) (Or.inl ⟨by rfl, fun wz hz => by go_simp⟩) hHeld ?_
                simp only [Act.put, List.setIfInBounds_toArray, List.set_cons_zero, List.set_cons_succ]
                refine wpAnyH_take (i := 4) (oi := ⟨some 93, _, _, _, _, _⟩) (v := undef) rfl (by kernel_rfl) (by kernel_rfl) (by kernel_rfl) (fun _ _ _ h => h) (Or.inr ⟨by rfl, rfl⟩) hHeld ?_
                simp only [Act.put, List.setIfInBounds_toArray, List.set_cons_zero, List.set_cons_succ]
                refine wpAnyH_take (i := 5) (oi := ⟨some 94, _, _, _, _, _⟩) (v := undef) rfl (by kernel_rfl) (by kernel_rfl) (by kernel_rfl) (fun _ _ _ h => h) (Or.inr ⟨by rfl, rfl⟩) hHeld ?_
                simp only [Act.put, List.setIfInBounds_toArray, List.set_cons_zero, List.set_cons_succ]
                refine wpAnyH_take (i := 6) (oi := ⟨some 95, _, _, _, _, _⟩) (v := undef) rfl (by kernel_rfl) (by kernel_rfl) (by kernel_rfl) (fun _ _ _ h => h) (Or.inr ⟨by rfl, rfl⟩) hHeld ?_
                simp only [Act.put, List.setIfInBounds_toArray, List.set_cons_zero, List.set_cons_succ]
                refine wpAnyH_take (i := 7) (oi := ⟨some 96, _, _, _, _, _⟩) (v := undef) rfl (by kernel_rfl) (by kernel_rfl) (by kernel_rfl) (fun _ _ _ h => h) (Or.inr ⟨by rfl, rfl⟩) hHeld ?_
                simp only [Act.put, List.setIfInBounds_toArray, List.set_cons_zero, List.set_cons_succ]
                refine wpAnyH_take (i := 8) (oi := ⟨some 97, _, _, _, _, _⟩) (v := undef) rfl (by kernel_rfl) (by kernel_rfl) (by kernel_rfl) (fun _ _ _ h => h) (Or.inr ⟨by rfl, rfl⟩) hHeld ?_
                simp only [Act.put, List.setIfInBounds_toArray, List.set_cons_zero, List.set_cons_succ]
                refine wpAnyH_take (i := 9) (oi := ⟨some 98, _, _, _, _, _⟩) (v := .bool false) rfl (by kernel_rfl) (by kernel_rfl) (by kernel_rfl) (fun _ _ _ h => h) (Or.inl ⟨by rfl, fun wz hz => by go_simp⟩) hHeld ?_
                simp only [Act.put, List.setIfInBounds_toArray, List.set_cons_zero, List.set_cons_succ]
                refine wpAnyH_ready (rs := [10]) (by kernel_rfl) (by simp) ?_
                refine AllReadyH.cons (o := ⟨none, _, _, _, _, _⟩) rfl (fun K hK => ?_) AllReadyH.nil
                rw [if_pos (by rfl)]
                refine wp_store_row _ _ _ rfl (w.heap.size + 1) (ints R.2) rfl rfl _ (ints (zer 13)) hres (by rw [ints_size, HR13.out]; exact infoRec) (by rw [ints_size, ints_size, HR13.out, zer_len]) (ints_one _) ?_
                have g1 : Keeps [w.heap.size + 1] wr (wr.drew.setRow (w.heap.size + 1) (ints R.2)) := (Keeps.drew (Keeps.refl _ _)).setRowR (.inl (by simp)) _
                have a1 : RecAt (wr.drew.setRow (w.heap.size + 1) (ints R.2)) (w.heap.size + 1) R.2 := setRow_heap wr.drew _ _ _ _ _ hres
                refine hK.out _ _ ⟨g1.held hHeld.1 (by simp; omega), g1.held hHeld.2 (by simp)⟩ (fun hHeld => ?_)
                have K9 := Lib.hid (HK.out.trans g1 (by simp))
                clear hK K g1
                generalize wr.drew.setRow (w.heap.size + 1) (ints R.2) = w9 at *
                refine wpAnyH_take (i := 11) (oi := ⟨some 7, _, _, _, _, _⟩) (v := .bool false) rfl (by kernel_rfl) (by kernel_rfl) (by kernel_rfl) (fun _ _ _ h => h) (Or.inl ⟨by rfl, fun wz hz => by go_simp⟩) hHeld ?_
                simp only [Act.put, List.setIfInBounds_toArray, List.set_cons_zero, List.set_cons_succ]
                refine wpAnyH_done (by kernel_rfl) ?_ _
                clear hHeld
                go_wp2_with fail
                refine bodyPost_ret (ret_rec2 rfl a1 HR13.out rfl) rfl ⟨by rw [HF.out]; rfl, K9.out⟩
      · have HF := Lib.hid (show B = false by rw [hCI, decide_eq_false hmk]; rfl)
        have hgt : (k : Int) < (m : Int) := by omega
        clear hCI hmk
        go_enter Tryd.func29, Tryd.ntmps29
        go_upto_region 1 with fail
        simp only [zeros13]
        have z0 : RecAt ((w.alloc (.cells (fndV f) 30)).alloc (.cells (ints (zer 13)) 46)) (w.heap.size + 1) (zer 13) := by
          have h := heap_alloc_new (w.alloc (.cells (fndV f) 30)) (.cells (ints (zer 13)) 46)
          rw [World.size_alloc] at h
          exact h
        have f0 : FAt ((w.alloc (.cells (fndV f) 30)).alloc (.cells (ints (zer 13)) 46)) w.heap.size 30 [] f := heap_alloc_held (heap_alloc_new w _) _
        have k0 : Keeps [] w ((w.alloc (.cells (fndV f) 30)).alloc (.cells (ints (zer 13)) 46)) := ((Keeps.refl _ _).alloc _).alloc _
        have s0 : ((w.alloc (.cells (fndV f) 30)).alloc (.cells (ints (zer 13)) 46)).heap.size = w.heap.size + 1 + 1 := by simp
        generalize (w.alloc (.cells (fndV f) 30)).alloc (.cells (ints (zer 13)) 46) = w0 at *
        have Z0 := Lib.hid z0
        have F0 := Lib.hid f0
        have K0 := Lib.hid k0
        clear z0 f0 k0
        go_wp2_with (first
        | (go_at_call 28; refine (refAt_any b o n c k _ HKN.out HN.out HCM.out).mono ?_; rintro e w' ⟨rfl, rfl⟩)
        | (go_at_call 30; refine (refRead_any _ _ _ (slotA xs k) _ (HSL.out _ K0.out) (by unfold maxLen; omega) (HS64.out k)).mono ?_; rw [← HR.out]; rintro e u2 ⟨rfl, k2⟩; have hA : RecAt (u2.alloc (.cells (ints (zer 13)) 46)) u2.heap.size (zer 13) := heap_alloc_new u2 _; have K2 := Lib.hid (K0.out.trans0 k2); have F2 := Lib.hid (F0.out.keep k2 (by simp)); have Z2 := Lib.hid (Z0.out.keep k2 (by simp)); have hu2 := K0.out.size; have hu3 := k2.size; clear k2)
        | (simp only [zeros13])
        | (refine st_rec _ _ hA (zer_len _) HR13.out rfl rfl rfl rfl ?_; intro u3 h3 k3 s3; simp only [Act.put]; have K3 := Lib.hid ((K2.out.alloc (.cells (ints (zer 13)) 46)).trans k3 (by intro x hx; right; simp at hx; omega)); have F3 := Lib.hid (FAt.keep (heap_alloc_held F2.out (.cells (ints (zer 13)) 46)) k3 (by simp; omega)); have Z3 := Lib.hid (RecAt.keep (heap_alloc_held Z2.out (.cells (ints (zer 13)) 46)) k3 (by simp; omega)); clear hA k3)
        | (refine ld_rec _ h3 HR13.out rfl rfl rfl ?_; simp only [Act.put])
        | (go_at_call 46; refine (refIsCommit_any _ _ HR13.out HR64.out).mono ?_; (first | (rw [HII.out]) | (rw [HIS.out])); rintro e u4 ⟨rfl, k4⟩; have h4 := h3.keep k4 (by simp); have K4 := Lib.hid (K3.out.trans0 k4); have F4 := Lib.hid (F3.out.keep k4 (by simp)); have Z4 := Lib.hid (Z3.out.keep k4 (by simp)); have H4 := Lib.hid h4; have hu4 := k4.size; clear k4 h3)
        | (refine ld_rec _ h4 HR13.out rfl rfl rfl ?_; simp only [Act.put])
        | (refine st_rec _ _ Z4.out (zer_len _) HR13.out rfl rfl rfl rfl ?_; intro u5 h5 k5 s5; simp only [Act.put]; have K5 := Lib.hid (K4.out.trans k5 (by intro x hx; right; simp at hx; omega)); clear k5))
        refine bodyPost_ret (ret_rec2 rfl h5 HR13.out rfl) rfl ⟨by rw [HF.out]; rfl, K5.out⟩
  · have hb : (R.1 != 0) = true := by simp [h0]
    have HF := Lib.hid (show B = false by rw [HB.out]; unfold countsB; rw [← HR.out, decide_eq_false h0]; rfl)
    obtain ⟨I1, hI1⟩ : ∃ I1, I1 = isR R.2 := ⟨_, rfl⟩
    have HIS := Lib.hid hI1.symm
    clear h0 hI1
    go_enter Tryd.func29, Tryd.ntmps29
    go_upto_region 1 with fail
    simp only [zeros13]
    have z0 : RecAt ((w.alloc (.cells (fndV f) 30)).alloc (.cells (ints (zer 13)) 46)) (w.heap.size + 1) (zer 13) := by
      have h := heap_alloc_new (w.alloc (.cells (fndV f) 30)) (.cells (ints (zer 13)) 46)
      rw [World.size_alloc] at h
      exact h
    have f0 : FAt ((w.alloc (.cells (fndV f) 30)).alloc (.cells (ints (zer 13)) 46)) w.heap.size 30 [] f := heap_alloc_held (heap_alloc_new w _) _
    have k0 : Keeps [] w ((w.alloc (.cells (fndV f) 30)).alloc (.cells (ints (zer 13)) 46)) := ((Keeps.refl _ _).alloc _).alloc _
    have s0 : ((w.alloc (.cells (fndV f) 30)).alloc (.cells (ints (zer 13)) 46)).heap.size = w.heap.size + 1 + 1 := by simp
    generalize (w.alloc (.cells (fndV f) 30)).alloc (.cells (ints (zer 13)) 46) = w0 at *
    have Z0 := Lib.hid z0
    have F0 := Lib.hid f0
    have K0 := Lib.hid k0
    clear z0 f0 k0
    go_wp2_with (first
        | (go_at_call 28; refine (refAt_any b o n c k _ HKN.out HN.out HCM.out).mono ?_; rintro e w' ⟨rfl, rfl⟩)
        | (go_at_call 30; refine (refRead_any _ _ _ (slotA xs k) _ (HSL.out _ K0.out) (by unfold maxLen; omega) (HS64.out k)).mono ?_; rw [← HR.out]; rintro e u2 ⟨rfl, k2⟩; have hA : RecAt (u2.alloc (.cells (ints (zer 13)) 46)) u2.heap.size (zer 13) := heap_alloc_new u2 _; have K2 := Lib.hid (K0.out.trans0 k2); have F2 := Lib.hid (F0.out.keep k2 (by simp)); have Z2 := Lib.hid (Z0.out.keep k2 (by simp)); have hu2 := K0.out.size; have hu3 := k2.size; clear k2)
        | (simp only [zeros13])
        | (refine st_rec _ _ hA (zer_len _) HR13.out rfl rfl rfl rfl ?_; intro u3 h3 k3 s3; simp only [Act.put]; have K3 := Lib.hid ((K2.out.alloc (.cells (ints (zer 13)) 46)).trans k3 (by intro x hx; right; simp at hx; omega)); have F3 := Lib.hid (FAt.keep (heap_alloc_held F2.out (.cells (ints (zer 13)) 46)) k3 (by simp; omega)); have Z3 := Lib.hid (RecAt.keep (heap_alloc_held Z2.out (.cells (ints (zer 13)) 46)) k3 (by simp; omega)); clear hA k3)
        | (refine ld_rec _ h3 HR13.out rfl rfl rfl ?_; simp only [Act.put])
        | (go_at_call 46; refine (refIsCommit_any _ _ HR13.out HR64.out).mono ?_; (first | (rw [HII.out]) | (rw [HIS.out])); rintro e u4 ⟨rfl, k4⟩; have h4 := h3.keep k4 (by simp); have K4 := Lib.hid (K3.out.trans0 k4); have F4 := Lib.hid (F3.out.keep k4 (by simp)); have Z4 := Lib.hid (Z3.out.keep k4 (by simp)); have H4 := Lib.hid h4; have hu4 := k4.size; clear k4 h3)
        | (refine ld_rec _ h4 HR13.out rfl rfl rfl ?_; simp only [Act.put])
        | (refine st_rec _ _ Z4.out (zer_len _) HR13.out rfl rfl rfl rfl ?_; intro u5 h5 k5 s5; simp only [Act.put]; have K5 := Lib.hid (K4.out.trans k5 (by intro x hx; right; simp at hx; omega)); clear k5))
    refine bodyPost_ret (ret_rec2 rfl h5 HR13.out rfl) rfl ⟨by rw [HF.out]; rfl, K5.out⟩

end Go.Proofs.YtnmblemplkdmaaaDoor
