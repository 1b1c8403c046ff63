
/- slot: the document's Right, Words: contracts. No condition but that all are numbers of 64 bits. -/
import Derived.Test.YtnmblemplkdmaaaDoorSw
namespace Go.Proofs.YtnmblemplkdmaaaDoor
open Go.RowKit
set_option maxRecDepth 100000
set_option linter.unusedVariables false

theorem bad_word {l : List Int} {i : Nat} (h : 2 + i < l.length) (hx : ¬ (0 ≤ l.getD (2 + i) 0 ∧ l.getD (2 + i) 0 ≤ 65535)) : rightB l = false := by
  refine Bool.eq_false_iff.2 fun hr => hx ?_
  refine (right_out hr).2.2 _ ?_
  rw [List.mem_iff_getElem?]
  exact ⟨i, by simp [List.getD, h]⟩

set_option maxHeartbeats 1000000 in
theorem right_any (l : List Int) (w : World) (hl : l.length = 13) (h64 : ∀ x ∈ l, I64 x) :
    Calls Tryd.prog 52 #[.agg (ints l)] w fun e w' => e = .returned (.bool (rightB l)) ∧ Keeps [] w w' := by
  have h0 : RecAt (w.alloc (.cells (ints l) 46)) w.heap.size l := heap_alloc_new w _
  have k0 : Keeps [] w (w.alloc (.cells (ints l) 46)) := (Keeps.refl _ _).alloc _
  go_enter Tryd.func52, Tryd.ntmps52
  go_upto_region 1 with fail
  generalize w.alloc (.cells (ints l) 46) = w0 at *
  have K0 := Lib.hid k0
  have H0 := Lib.hid h0
  have H64 := Lib.hid h64
  have HL := Lib.hid hl
  clear k0 h0 h64 hl
  go_wp2_with fail
  go_loop [3] (fun vi => ∃ i : Nat, i ≤ 11 ∧ vi = .int .i64 i ∧ ∀ j, j < i → 0 ≤ l.getD (2 + j) 0 ∧ l.getD (2 + j) 0 ≤ 65535) (fun vi => 11 - (intOf vi).toNat)
  case atStart => exact ⟨0, by omega, rfl, by intro j hj; omega⟩
  case round =>
    obtain ⟨i, hi, rfl, hall⟩ := hrel
    have HALL := Lib.hid hall
    clear hall
    by_cases hlt : i < 11
    · have hc := H0.out.cell (2 + i) (by have := HL.out; omega)
      obtain ⟨x, hx⟩ : ∃ x, x = l.getD (2 + i) 0 := ⟨_, rfl⟩
      rw [← hx] at hc
      have HX := Lib.hid hx
      clear hx
      by_cases h1 : x < 0
      · have hfin : rightB l = false := bad_word (i := i) (by have := HL.out; omega) (by rw [← HX.out]; omega)
        have HF := Lib.hid hfin
        clear hfin
        go_wp2_with fail
        go_ret
        rw [HF.out]
        exact ⟨rfl, K0.out⟩
      · by_cases h2 : x > 65535
        · have hfin : rightB l = false := bad_word (i := i) (by have := HL.out; omega) (by rw [← HX.out]; omega)
          have HF := Lib.hid hfin
          clear hfin
          go_wp2_with fail
          go_ret
          rw [HF.out]
          exact ⟨rfl, K0.out⟩
        · go_wp2_with fail
          go_round
          case rel =>
            refine ⟨i + 1, by omega, by go_num, ?_⟩
            intro j hj
            by_cases hji : j < i
            · exact HALL.out j hji
            · obtain rfl : j = i := by omega
              rw [← HX.out]; omega
          case measure => simp [intOf]; omega
    · have hc0 := H0.out.cell 0 (by have := HL.out; omega)
      have hc1 := H0.out.cell 1 (by have := HL.out; omega)
      have hfin : rightB l = (decide (0 ≤ l.getD 0 0 ∧ l.getD 0 0 ≤ 4) && decide (0 ≤ l.getD 1 0 ∧ l.getD 1 0 ≤ 4294967295)) := by
        have hw : (l.drop 2).all wordB = true := by
          refine List.all_eq_true.2 fun x hx => ?_
          obtain ⟨j, hj⟩ := List.mem_iff_getElem?.1 hx
          have hj2 : 2 + j < l.length := by
            have := (List.getElem?_eq_some_iff.1 hj).1
            simp at this; omega
          have e : l.getD (2 + j) 0 = x := by
            rw [List.getElem?_drop] at hj
            simp [List.getD, hj]
          have := HALL.out j (by have := HL.out; omega)
          rw [e] at this
          unfold wordB
          simpa using this
        unfold rightB
        rw [hw, Bool.and_true]
      obtain ⟨k, hk⟩ : ∃ k, k = l.getD 0 0 := ⟨_, rfl⟩
      obtain ⟨s, hs⟩ : ∃ s, s = l.getD 1 0 := ⟨_, rfl⟩
      rw [← hk] at hc0 hfin
      rw [← hs] at hc1 hfin
      have HF := Lib.hid hfin
      clear hfin hk hs
      by_cases h1 : k ≥ 0
      · by_cases h2 : k ≤ 4
        · by_cases h3 : s ≥ 0
          · by_cases h4 : s ≤ 4294967295
            · go_wp2_with fail
              go_ret
              rw [HF.out]
              exact ⟨by simp; omega, K0.out⟩
            · go_wp2_with fail
              go_ret
              rw [HF.out]
              exact ⟨by simp; omega, K0.out⟩
          · go_wp2_with fail
            go_ret
            rw [HF.out]
            exact ⟨by simp; omega, K0.out⟩
        · go_wp2_with fail
          go_ret
          rw [HF.out]
          exact ⟨by simp; omega, K0.out⟩
      · go_wp2_with fail
        go_ret
        rw [HF.out]
        exact ⟨by simp; omega, K0.out⟩


/-- s / 65536 and s % 65536 of a number that is none below 0. -/
theorem quo_pos {s : Int} (h : 0 ≤ s) : s.tdiv 65536 = s / 65536 ∧ s.tmod 65536 = s % 65536 := ⟨Int.tdiv_eq_ediv_of_nonneg h, Int.tmod_eq_emod_of_nonneg h⟩

set_option maxHeartbeats 2000000 in
theorem refWords_any (l : List Int) (w : World) (hl : l.length = 13) (h64 : ∀ x ∈ l, I64 x) :
    Calls Tryd.prog 35 #[.agg (ints l)] w fun e w' => Out w w' (wordsR l) e := by
  obtain ⟨i0, hi, hz0, hz1, hz2⟩ := info_parts Tryd.info3
  have h0 : RecAt (w.alloc (.cells (ints l) 46)) w.heap.size l := heap_alloc_new w _
  have k0 : Keeps [] w (w.alloc (.cells (ints l) 46)) := (Keeps.refl _ _).alloc _
  go_enter Tryd.func35, Tryd.ntmps35
  go_upto_region 1 with fail
  generalize w.alloc (.cells (ints l) 46) = w0 at *
  have H64 := Lib.hid h64
  have HL := Lib.hid hl
  obtain ⟨b, hb⟩ : ∃ b, b = rightB l := ⟨_, rfl⟩
  have HB := Lib.hid hb
  clear h64 hl hb
  cases b
  · have hfin : wordsR l = (2, []) := by
      unfold wordsR
      rw [if_neg (by rw [← HB.out]; simp)]
    have HF := Lib.hid hfin
    have K0 := Lib.hid k0
    clear hfin k0
    go_wp2_with (first
      | (refine ld_rec _ h0 HL.out rfl rfl rfl ?_; simp only [Act.put])
      | (go_at_call 52; refine (right_any l _ HL.out H64.out).mono ?_; rintro e w1 ⟨he, k1⟩; rw [← HB.out] at he; subst he; have K1 := Lib.hid (K0.out.trans0 k1); clear k1))
    go_ret2
    rw [HF.out]
    exact Out.of_nil K1.out
  · have hfin : wordsR l = (0, wordsL l) := by
      unfold wordsR
      rw [if_pos HB.out.symm]
    have HF := Lib.hid hfin
    obtain ⟨hr1, hr2, hr3⟩ := right_out HB.out.symm
    have hc0 := h0.cell 0 (by have := HL.out; omega)
    have hc1 := h0.cell 1 (by have := HL.out; omega)
    obtain ⟨k, hk⟩ : ∃ k, k = l.getD 0 0 := ⟨_, rfl⟩
    obtain ⟨s, hs⟩ : ∃ s, s = l.getD 1 0 := ⟨_, rfl⟩
    rw [← hk] at hc0 hr1
    rw [← hs] at hc1 hr2
    obtain ⟨q1, q2⟩ := quo_pos hr2.1
    obtain ⟨S1, hS1⟩ : ∃ x, x = s / 65536 := ⟨_, rfl⟩
    obtain ⟨S2, hS2⟩ : ∃ x, x = s % 65536 := ⟨_, rfl⟩
    rw [← hS1] at q1
    rw [← hS2] at q2
    have hb1 : 0 ≤ S1 ∧ S1 ≤ 65535 := by omega
    have hb2 : 0 ≤ S2 ∧ S2 ≤ 65535 := by omega
    have hhead : headL l = (23040 + k) :: S1 :: S2 :: l.drop 2 := by rw [hk, hS1, hS2, hs]; rfl
    have HH := Lib.hid hhead
    have H0 := Lib.hid h0
    have K0 := Lib.hid k0
    clear hfin hk hs hS1 hS2 hhead hr3 k0
    go_wp2_with (first
      | (refine ld_rec _ h0 HL.out rfl rfl rfl ?_; simp only [Act.put]; clear h0)
      | (go_at_call 52; refine (right_any l _ HL.out H64.out).mono ?_; rintro e w1 ⟨he, k1⟩; rw [← HB.out] at he; subst he; have K1 := Lib.hid (K0.out.trans0 k1); have h1 := H0.out.keep k1 (by simp); have g0 := (k1.cell (World.block_lt_of_cell? _ _ hc0) (by simp)).trans hc0; have g1 := (k1.cell (World.block_lt_of_cell? _ _ hc1) (by simp)).trans hc1; have H1 := Lib.hid h1; clear k1 hc0 hc1 h1))
    have hA0 : Arr (w1.alloc (.cells #[.int .i64 (23040 + k), .int .i64 S1, .int .i64 S2] 3)) w1.heap.size 3 [23040 + k, S1, S2] := arr_made w1 [23040 + k, S1, S2] (by simp)
    have HA0 := Lib.hid hA0
    clear hA0
    go_loopw [4, 5] (fun v4 vi wr => ∃ (i g c : Nat), i ≤ 11 ∧ vi = .int .i64 i ∧ v4 = .slice (some ⟨g, 0, none⟩) (3 + i) c ∧ Arr wr g c ([23040 + k, S1, S2] ++ (l.drop 2).take i) ∧ w1.heap.size ≤ g ∧ Keeps [] w1 wr) (fun _ vi _ => 11 - (intOf vi).toNat)
    case atStart => exact ⟨0, w1.heap.size, 3, by omega, rfl, rfl, by simpa using HA0.out, Nat.le_refl _, (Keeps.refl _ _).alloc _⟩
    case round =>
      obtain ⟨i, g, c, hi11, rfl, rfl, hA, hg, hkk⟩ := hrel
      obtain ⟨Y, hY⟩ : ∃ Y, Y = [23040 + k, S1, S2] ++ (l.drop 2).take i := ⟨_, rfl⟩
      rw [← hY] at hA
      have hyl : Y.length = 3 + i := by rw [hY]; have := HL.out; simp; omega
      have HY := Lib.hid hY
      have HYL := Lib.hid hyl
      have HA := Lib.hid hA
      have HK := Lib.hid hkk
      have hks := hkk.size
      have hr := H1.out.keep hkk (by simp)
      clear hY hyl hA hkk
      by_cases hlt : i < 11
      · have hc := RecAt.cell hr (2 + i) (by have := HL.out; omega)
        obtain ⟨x, hx⟩ : ∃ x, x = l.getD (2 + i) 0 := ⟨_, rfl⟩
        rw [← hx] at hc
        have HX := Lib.hid hx
        have hown := ownsRow_keep (F := []) (HA.out.own hg (3 + i) HYL.out.symm) ((Keeps.refl _ _).alloc (.cells #[.int .i64 x] 3)) (by simp)
        have HO := Lib.hid hown
        clear hx hr hown
        go_wp2_with (at_builtin; refine wpList_append_new _ rfl (.tmp 23) (.tmp 28) 22 rfl w1.heap.size 3 i0 (.int .i64 0) 1 8 Tryd.underlying22 hi hz0 hz1 hz2 rfl (by decide) (.slice (some ⟨g, 0, none⟩) (3 + i) c) (3 + i) _ rfl HO.out ⟨wr.heap.size, 0, none⟩ 1 1 [.int .i64 x] rfl rfl (cell_one_new _ _ _) (by simp [Value.oneCell']) (by unfold maxLen; omega) (by omega) (by simp; omega) ?_; intro v' w' q1 q2 q3 q4)
        have hv : v' ≠ .slice none 0 0 := fun e => absurd (q3.1 e).1 (by simp)
        have hst : [23040 + k, S1, S2] ++ (l.drop 2).take (i + 1) = Y ++ [x] := by
          have hl2 : i < (l.drop 2).length := by have := HL.out; simp; omega
          rw [List.take_succ_eq_append_getElem hl2, ← List.append_assoc, ← HY.out]
          congr 2
          rw [HX.out]
          have := HL.out
          simp [List.getD, show 2 + i < l.length by omega]
        have q1' : w'.ownsRow w1.heap.size 3 1 v' (3 + i + 1) (([23040 + k, S1, S2] ++ (l.drop 2).take (i + 1)).map (.int .i64)) := by rw [hst, List.map_append]; exact q1
        obtain ⟨g', c', rfl, hg', hA'⟩ := Arr.of_own q1' hv
        have hl1 : ([23040 + k, S1, S2] ++ (l.drop 2).take (i + 1)).length = 3 + (i + 1) := by rw [hst, List.length_append, HYL.out]; rfl
        have hku : Keeps [] w1 w' := (HK.out.alloc _).grown q2 (by intro k e; injection e with e; right; rw [← e]; exact hg)
        have HA' := Lib.hid hA'
        have HKU := Lib.hid hku
        rw [hl1]
        clear q1 q1' q2 q3 q4 hv hA' hku hst hl1
        go_wp2_with fail
        go_roundw
        case rel => exact ⟨i + 1, g', c', by omega, by go_num, rfl, HA'.out, hg', HKU.out⟩
        case measure => simp [intOf]; omega
      · have hi2 : i = 11 := by omega
        have hfin : Y = headL l := by rw [HY.out, HH.out, hi2, List.take_of_length_le (by have := HL.out; simp; omega)]; rfl
        have hyl14 : 3 + i = 14 := by omega
        rw [hyl14]
        have hyl2 : Y.length = 14 := by rw [HYL.out]; exact hyl14
        have hx64 : ∀ x ∈ Y, I64 x := by
          rw [hfin]
          intro x hx
          have := headL_words HB.out.symm x hx
          unfold I64
          exact ⟨by omega, by have := HB.out; have h := right_out HB.out.symm; omega⟩
        have HFY := Lib.hid hfin
        have HYL2 := Lib.hid hyl2
        have HX := Lib.hid hx64
        obtain ⟨S, hS⟩ : ∃ S, S = (crcI 65535 Y : Int) := ⟨_, rfl⟩
        have HS := Lib.hid hS
        clear hi2 hfin hyl14 hyl2 hx64 hS hr
        go_wp2_with fail
        refine (refOf_any _ 14 _ Y _ (by have := HA.out.ints; rw [HYL2.out] at this; exact this) HX.out (by unfold maxLen; omega)).mono ?_
        rintro e w4 ⟨he, rfl⟩
        rw [← HS.out] at he
        subst he
        have hown := ownsRow_keep (F := []) (HA.out.own hg 14 HYL2.out.symm) ((Keeps.refl _ _).alloc (.cells #[.int .i64 S, .int .i64 21930] 3)) (by simp)
        have HO := Lib.hid hown
        have hno : ∀ (j : Nat) (u : Value), ([Value.int .i64 S, .int .i64 21930] : List Value)[j]? = some u → (wr.alloc (.cells #[.int .i64 S, .int .i64 21930] 3)).cell? ((⟨wr.heap.size, 0, none⟩ : Addr).add j) = some u :=
          (ints_new wr [S, 21930] #[.int .i64 S, .int .i64 21930] rfl 3).news
        have HNO := Lib.hid hno
        clear hown hno
        go_wp2_with (at_builtin; refine wpList_append_new _ rfl (.tmp 30) (.tmp 33) 22 rfl w1.heap.size 3 i0 (.int .i64 0) 1 8 Tryd.underlying22 hi hz0 hz1 hz2 rfl (by decide) (.slice (some ⟨g, 0, none⟩) 14 c) 14 _ rfl HO.out ⟨wr.heap.size, 0, none⟩ 2 2 [.int .i64 S, .int .i64 21930] rfl rfl HNO.out (by simp [Value.oneCell']) (by unfold maxLen; omega) (by omega) (by simp; omega) ?_; intro v' w' q1 q2 q3 q4)
        have hv : v' ≠ .slice none 0 0 := fun e => absurd (q3.1 e).1 (by simp)
        have q1' : w'.ownsRow w1.heap.size 3 1 v' (14 + 2) ((wordsL l).map (.int .i64)) := by
          have e : (wordsL l).map (Value.int .i64) = Y.map (Value.int .i64) ++ [.int .i64 S, .int .i64 21930] := by rw [HS.out, HFY.out]; simp [wordsL]
          rw [e]
          exact q1
        obtain ⟨g', c', rfl, hg', hA'⟩ := Arr.of_own q1' hv
        have hku : Keeps [] w1 w' := (HK.out.alloc _).grown q2 (by intro k e; injection e with e; right; rw [← e]; exact hg)
        go_ret2
        rw [HF.out]
        exact ⟨_, c', rfl, hA'.ints, K1.out.trans0 hku, hA'.le, hA'.cm⟩

end Go.Proofs.YtnmblemplkdmaaaDoor
