
/- slot: the document's Read: the contract. No condition but that all are numbers of 64 bits. -/
import Derived.Test.YtnmblemplkdmaaaDoorSq
import Derived.Test.YtnmblemplkdmaaaDoorSi
import Derived.StillTailTactics
import Derived.Deep.CutRange
namespace Go.Proofs.YtnmblemplkdmaaaDoor
open Go.RowKit
set_option maxRecDepth 100000
set_option linter.unusedVariables false

/-- The record that the document reads of sixteen words, right or not. -/
def refL (xs : List Int) : List Int := wrap64 (xs.getD 0 0 - 23040) :: (amongI (xs.getD 1 0) 65536 * 65536 + amongI (xs.getD 2 0) 65536) :: (xs.drop 3).take 11
theorem refL_len {xs : List Int} (h : xs.length = 16) : (refL xs).length = 13 := by simp [refL, h]
theorem among_word {x : Int} (h : 0 ≤ x ∧ x ≤ 65535) : amongI x 65536 = x := by
  have e : IntKind.u64.wrap x = x := by rw [IntKind.wrap_u64]; omega
  unfold amongI
  rw [e, Int.tmod_eq_emod_of_nonneg h.1, Int.emod_eq_of_lt h.1 (by omega)]
  unfold wrap64; omega
theorem whole_ref {xs : List Int} (hl : xs.length = 16) (h : wholeB xs = true) : refL xs = recOf xs := by
  obtain ⟨h1, h2, h3⟩ := whole_three hl h
  have e1 : wrap64 (xs.getD 0 0 - 23040) = xs.getD 0 0 - 23040 := by unfold wrap64; omega
  unfold refL recOf
  rw [e1, among_word h2, among_word h3]
theorem refL_64 {xs : List Int} (h : ∀ x ∈ xs, I64 x) : ∀ x ∈ refL xs, I64 x := by
  intro x hx
  simp only [refL, List.mem_cons] at hx
  rcases hx with rfl | rfl | hx
  · exact wrap_64 _
  · have h1 := amongI_lt (xs.getD 1 0) 65536 (by omega) (by omega)
    have h2 := amongI_lt (xs.getD 2 0) 65536 (by omega) (by omega)
    unfold I64; omega
  · exact h x (List.mem_of_mem_drop (List.mem_of_mem_take hx))
/-- The record as far as it is filled. -/
def fillL (k s : Int) (p : List Int) (i : Nat) : List Int := k :: s :: (p.take i ++ List.replicate (11 - i) 0)
theorem fillL_len (k s : Int) {p : List Int} (h : p.length = 11) {i : Nat} (hi : i ≤ 11) : (fillL k s p i).length = 13 := by simp [fillL, h]; omega
theorem fill_step (k s : Int) {p : List Int} (h : p.length = 11) {i : Nat} (hi : i < 11) : (fillL k s p i).set (2 + i) (p.getD i 0) = fillL k s p (i + 1) := by
  unfold fillL
  rw [Nat.add_comm]
  simp only [List.set_cons_succ]
  congr 2
  have e : (p.take i).length = i := by simp; omega
  rw [List.set_append_right _ _ (by omega), e, Nat.sub_self, List.take_succ_eq_append_getElem (by omega), List.append_assoc]
  congr 1
  rw [show 11 - i = (11 - (i + 1)) + 1 by omega, List.replicate_succ]
  simp [List.getD, h, hi]
theorem lit2 (k s : Int) : (#[.int .i64 k, .int .i64 s, .int .i64 0, .int .i64 0, .int .i64 0, .int .i64 0, .int .i64 0, .int .i64 0, .int .i64 0, .int .i64 0, .int .i64 0, .int .i64 0, .int .i64 0] : Array Value) = ints (k :: s :: zer 11) := rfl

set_option maxHeartbeats 4000000 in
theorem refRead_any (a : Option Addr) (n c : Nat) (xs : List Int) (w : World) (hi : IntsAt w a n xs) (hn : n ≤ maxLen) (h64 : ∀ x ∈ xs, I64 x) :
    Calls Tryd.prog 30 #[.slice a n c] w fun e w' => e = .returned (.tuple #[.agg (ints (readR xs).2), .int .i64 (readR xs).1]) ∧ Keeps [] w w' := by
  have h0 : RecAt (w.alloc (.cells (ints (zer 13)) 46)) w.heap.size (zer 13) := heap_alloc_new w _
  have k0 : Keeps [] w (w.alloc (.cells (ints (zer 13)) 46)) := (Keeps.refl _ _).alloc _
  obtain ⟨R, hR⟩ : ∃ R, R = readR xs := ⟨_, rfl⟩
  rw [← hR]
  have HR := Lib.hid hR
  have HI := Lib.hid (hi.keep0 k0)
  have HN := Lib.hid hn
  have H64 := Lib.hid h64
  have HLEN := Lib.hid (show n = xs.length from hi.1)
  clear hi h64 hR hn
  go_enter Tryd.func30, Tryd.ntmps30
  go_upto_region 1 with fail
  simp only [zeros13]
  generalize w.alloc (.cells (ints (zer 13)) 46) = w0 at *
  have K0 := Lib.hid k0
  by_cases h16 : n = 16
  · have hb : ((n : Int) != 16) = false := by simp [h16]
    have hl := HLEN.out
    rw [h16] at hl
    have HL := Lib.hid hl.symm
    have hrd : R = if wholeB xs = true then (0, recOf xs) else (60, zer 13) := by rw [HR.out]; unfold readR; rw [if_pos hl.symm]
    have HRD := Lib.hid hrd
    obtain ⟨b, o, rfl⟩ := HI.out.addr (by omega)
    have hcl := HI.out.2.2 b o none rfl (List.ne_nil_of_length_pos (by omega))
    have c0 := hcl.2 0 (by omega)
    have c1 := hcl.2 1 (by omega)
    have c2 := hcl.2 2 (by omega)
    rw [Nat.add_zero] at c0
    obtain ⟨x0, e0⟩ : ∃ x, x = xs.getD 0 0 := ⟨_, rfl⟩
    obtain ⟨x1, e1⟩ : ∃ x, x = xs.getD 1 0 := ⟨_, rfl⟩
    obtain ⟨x2, e2⟩ : ∃ x, x = xs.getD 2 0 := ⟨_, rfl⟩
    obtain ⟨A1, f1⟩ : ∃ x, x = amongI (xs.getD 1 0) 65536 := ⟨_, rfl⟩
    obtain ⟨A2, f2⟩ : ∃ x, x = amongI (xs.getD 2 0) 65536 := ⟨_, rfl⟩
    have b1 := amongI_lt (xs.getD 1 0) 65536 (by omega) (by omega)
    have b2 := amongI_lt (xs.getD 2 0) 65536 (by omega) (by omega)
    rw [← f1] at b1
    rw [← f2] at b2
    rw [← e0] at c0
    rw [← e1] at c1 f1
    rw [← e2] at c2 f2
    have F1 := Lib.hid f1
    have F2 := Lib.hid f2
    have E0 := Lib.hid e0
    have E1 := Lib.hid e1
    have E2 := Lib.hid e2
    have H0 := Lib.hid h0
    have H16 := Lib.hid h16
    have hn3 : (3 : Int) ≤ (n : Int) := by omega
    have hn16 : (n : Int) = 16 := by omega
    have HN16 := Lib.hid hn16
    have hw1 := Lib.hid (show IntKind.i64.wrap (x0 - 23040) = wrap64 (x0 - 23040) by rw [IntKind.wrap_i64]; unfold wrap64; omega)
    have hw2 := Lib.hid (show IntKind.i64.wrap (IntKind.i64.wrap (A1 * 65536) + A2) = A1 * 65536 + A2 by rw [IntKind.wrap_i64, IntKind.wrap_i64]; omega)
    clear h16 hl hrd h0 k0 hcl e0 e1 e2 f1 f2
    go_upto_region 3 with fail
    have g1 := F1.out.symm
    have g2 := F2.out.symm
    have := World.new_ne w0 _ c0
    have := World.new_ne w0 _ c1
    have := World.new_ne w0 _ c2
    go_cut [4] from 12 to 26 (fun v wx => ∃ g, v = .pointer (some ⟨g, 0, none⟩) ∧ w0.heap.size ≤ g ∧ RecAt wx g (wrap64 (x0 - 23040) :: (A1 * 65536 + A2) :: zer 11) ∧ Keeps [] w0 wx)
    case first =>
      go_region_held3 (fun wz => wz.cell? ⟨b, o, none⟩ = some (.int .i64 x0) ∧ wz.cell? ⟨b, o + 1, none⟩ = some (.int .i64 x1) ∧ wz.cell? ⟨b, o + 2, none⟩ = some (.int .i64 x2)) (go_keep)
        (first | (go_at_call 20; refine (among_any _ _ _ (by omega) (by omega)).mono ?_; rintro e w' ⟨rfl, rfl⟩))
      all_goals
        go_wp2_with fail
        go_meet
        refine ⟨w0.heap.size, rfl, Nat.le_refl _, ?_, ((Keeps.refl _ _).alloc _).drew⟩
        rw [← hw1.out, ← hw2.out]
        exact heap_alloc_new w0 _
    case rest =>
      obtain ⟨g, rfl, hg, hr, hk⟩ := hcut
      have hp11 : ((xs.drop 3).take 11).length = 11 := by have := HL.out; simp; omega
      obtain ⟨P, hP⟩ : ∃ P, P = (xs.drop 3).take 11 := ⟨_, rfl⟩
      rw [← hP] at hp11
      have hlast : wrap64 (x0 - 23040) :: (A1 * 65536 + A2) :: P = refL xs := by
        unfold refL
        rw [← E0.out, ← E1.out, ← E2.out, ← F1.out, ← F2.out, hP]
      obtain ⟨KK, hKK⟩ : ∃ x, x = wrap64 (x0 - 23040) := ⟨_, rfl⟩
      obtain ⟨SS, hSS⟩ : ∃ x, x = A1 * 65536 + A2 := ⟨_, rfl⟩
      rw [← hKK, ← hSS] at hr hlast
      have HPP := Lib.hid hP
      have HP11 := Lib.hid hp11
      have HLAST := Lib.hid hlast
      have HG := Lib.hid hr
      have HKC := Lib.hid hk
      have hbl := World.block_lt_of_cell? _ _ c0
      clear c0 c1 c2 g1 g2 b1 b2 hKK hSS hP hp11 hlast hr hk
      go_upto_region 4 with fail
      go_wp2_with fail
      go_loopw [5] (fun vi wr => ∃ i : Nat, i ≤ 11 ∧ vi = .int .i64 i ∧ RecAt wr g (fillL KK SS P i) ∧ Keeps [] w0 wr) (fun vi _ => 11 - (intOf vi).toNat)
      case atStart => exact ⟨0, by omega, rfl, HG.out, HKC.out⟩
      case round =>
        obtain ⟨i, hi11, rfl, hA, hkk⟩ := hrel
        have hlen := fillL_len KK SS HP11.out hi11
        have HA := Lib.hid hA
        have HK := Lib.hid hkk
        have HFL := Lib.hid hlen
        clear hlen
        by_cases hlt : i < 11
        · have hli := HI.out.keep0 hkk
          have hx := (hli.2.2 b o none rfl (List.ne_nil_of_length_pos (by have := HL.out; omega))).2 (3 + i) (by have := HL.out; omega)
          have hcw := hA.cell (2 + i) (by rw [HFL.out]; omega)
          have hfz := hA.frozen (2 + i)
          obtain ⟨x, ex⟩ : ∃ x, x = xs.getD (3 + i) 0 := ⟨_, rfl⟩
          rw [← ex] at hx
          have hxp : P.getD i 0 = x := by
            rw [ex, HPP.out]
            simp [List.getD, hlt]
          have hset := hA.set (2 + i) x
          rw [← hxp, fill_step KK SS HP11.out hlt, hxp] at hset
          have HST := Lib.hid hset
          have hks : Keeps [] w0 (wr.setCell ⟨g, 2 + i, none⟩ (.int .i64 x)) := hkk.setCell (.inr hg) _
          have HKS := Lib.hid hks
          clear ex hxp hset hks hli hkk hA
          go_wp2_with fail
          go_roundw
          case rel => exact ⟨i + 1, by omega, by go_num, HST.out, HKS.out⟩
          case measure => simp [intOf]; omega
        · have hi2 : i = 11 := by omega
          have hfull : fillL KK SS P i = refL xs := by
            rw [← HLAST.out, hi2]
            unfold fillL
            have := HP11.out
            rw [List.take_of_length_le (by omega)]
            simp
          rw [hfull] at hA
          have hrl := refL_len HL.out
          have HRL := Lib.hid hrl
          have HR64 := Lib.hid (refL_64 H64.out)
          have HA2 := Lib.hid hA
          have hB := H0.out.keep hkk (by simp)
          have HB := Lib.hid hB
          have HKW := Lib.hid (K0.out.trans0 hkk)
          have HI2 := Lib.hid (HI.out.keep0 hkk)
          have hwp : wholeP (refL xs) xs = wholeB xs := wholeP_of hrl (whole_ref HL.out)
          have HWP := Lib.hid hwp
          clear hi2 hfull hrl hkk hB hwp
          cases hrb : rightB (refL xs)
          · have hfin : R = (60, zer 13) := by
              have hw : wholeB xs = false := by rw [← HWP.out]; unfold wholeP; rw [hrb]; rfl
              rw [HRD.out, hw]; rfl
            have hwr : wordsR (refL xs) = (2, []) := by unfold wordsR; rw [if_neg (by simp [hrb])]
            have HF := Lib.hid hfin
            have HWR := Lib.hid hwr
            clear hfin hwr hrb
            go_wp2_with (first
              | (refine ld_rec _ hA HRL.out rfl rfl rfl ?_; simp only [Act.put]; clear hA)
              | (go_at_call 35; refine (refWords_any _ _ HRL.out HR64.out).mono ?_; rw [HWR.out]; rintro e w5 ⟨a5, c5, rfl, -, k5, -, -⟩; have B5 := HB.out.keep k5 (by simp); have K5 := Lib.hid (HKW.out.trans0 k5); clear k5)
              | (simp only [build0])
              | (refine st_rec _ _ B5 (zer_len _) (zer_len 13) rfl rfl rfl rfl ?_; intro w6 h6 k6 s6; simp only [Act.put]))
            rw [HF.out]
            refine bodyPost_ret (ret_rec2 rfl h6 (zer_len _) rfl) rfl ⟨rfl, K5.out.trans k6 (by simp)⟩
          · have hwr : wordsR (refL xs) = (0, wordsL (refL xs)) := by unfold wordsR; rw [if_pos hrb]
            have HWR := Lib.hid hwr
            have hwl := wordsL_len HRL.out
            have HWL := Lib.hid hwl
            by_cases heq : wordsL (refL xs) = xs
            · have hw : wholeB xs = true := by rw [← HWP.out]; unfold wholeP; rw [hrb, heq]; simp
              have hfin : R = (0, refL xs) := by rw [HRD.out, if_pos hw, whole_ref HL.out hw]
              have HF := Lib.hid hfin
              have HD := Lib.hid (show decide (wordsL (refL xs) = xs) = true by simpa using heq)
              clear hfin hwr hrb hw heq hwl
              go_wp2_with (first
                | (refine ld_rec _ hA HRL.out rfl rfl rfl ?_; simp only [Act.put]; clear hA)
                | (go_at_call 35; refine (refWords_any _ _ HRL.out HR64.out).mono ?_; rw [HWR.out]; rintro e w5 ⟨a5, c5, rfl, i5, k5, -, -⟩; rw [HWL.out] at i5; rw [HWL.out]; have I5 := Lib.hid i5; have I6 := Lib.hid (HI2.out.keep0 k5); have B5 := Lib.hid (HB.out.keep k5 (by simp)); have A5 := Lib.hid (HA2.out.keep k5 (by simp)); have K5 := Lib.hid (HKW.out.trans0 k5); clear k5 i5)
                | (go_at_call 16; refine (sameInts_any _ _ 16 n _ _ (wordsL (refL xs)) xs _ I5.out I6.out (by unfold maxLen; omega) HN.out).mono ?_; rintro e w7 ⟨he, m, rfl⟩; rw [HD.out] at he; subst he; have k7 : Keeps [] w5 (w5.drewN m) := (Keeps.refl _ _).drewN m; have B7 := B5.out.keep k7 (by simp); have A7 := A5.out.keep k7 (by simp); have K7 := Lib.hid (K5.out.trans0 k7); clear k7)
                | (refine ld_rec _ A7 HRL.out rfl rfl rfl ?_; simp only [Act.put])
                | (refine st_rec _ _ B7 (zer_len _) HRL.out rfl rfl rfl rfl ?_; intro w8 h8 k8 s8; simp only [Act.put]))
              rw [HF.out]
              refine bodyPost_ret (ret_rec2 rfl h8 HRL.out rfl) rfl ⟨rfl, K7.out.trans k8 (by simp)⟩
            · have hw : wholeB xs = false := by rw [← HWP.out]; unfold wholeP; rw [hrb]; simpa using heq
              have hfin : R = (60, zer 13) := by rw [HRD.out, hw]; rfl
              have HF := Lib.hid hfin
              have HD := Lib.hid (show decide (wordsL (refL xs) = xs) = false by simpa using heq)
              clear hfin hwr hrb hw heq hwl
              go_wp2_with (first
                | (refine ld_rec _ hA HRL.out rfl rfl rfl ?_; simp only [Act.put]; clear hA)
                | (go_at_call 35; refine (refWords_any _ _ HRL.out HR64.out).mono ?_; rw [HWR.out]; rintro e w5 ⟨a5, c5, rfl, i5, k5, -, -⟩; rw [HWL.out] at i5; rw [HWL.out]; have I5 := Lib.hid i5; have I6 := Lib.hid (HI2.out.keep0 k5); have B5 := Lib.hid (HB.out.keep k5 (by simp)); have K5 := Lib.hid (HKW.out.trans0 k5); clear k5 i5)
                | (go_at_call 16; refine (sameInts_any _ _ 16 n _ _ (wordsL (refL xs)) xs _ I5.out I6.out (by unfold maxLen; omega) HN.out).mono ?_; rintro e w7 ⟨he, m, rfl⟩; rw [HD.out] at he; subst he; have k7 : Keeps [] w5 (w5.drewN m) := (Keeps.refl _ _).drewN m; have B7 := B5.out.keep k7 (by simp); have K7 := Lib.hid (K5.out.trans0 k7); clear k7)
                | (simp only [build0])
                | (refine st_rec _ _ B7 (zer_len _) (zer_len 13) rfl rfl rfl rfl ?_; intro w8 h8 k8 s8; simp only [Act.put]))
              rw [HF.out]
              refine bodyPost_ret (ret_rec2 rfl h8 (zer_len _) rfl) rfl ⟨rfl, K7.out.trans k8 (by simp)⟩
  · have hb : ((n : Int) != 16) = true := by simp; omega
    have hfin : R = (2, zer 13) := by rw [HR.out]; unfold readR; rw [if_neg (by rw [← HLEN.out]; exact h16)]
    have HF := Lib.hid hfin
    clear h16 hfin
    go_wp2_with (first
      | (simp only [build0])
      | (refine st_rec _ _ h0 (zer_len _) (zer_len 13) rfl rfl rfl rfl ?_; intro w5 h5 k5 s5; simp only [Act.put]))
    rw [HF.out]
    refine bodyPost_ret (ret_rec2 rfl h5 (zer_len _) rfl) rfl ⟨rfl, K0.out.trans k5 (by simp)⟩

end Go.Proofs.YtnmblemplkdmaaaDoor
