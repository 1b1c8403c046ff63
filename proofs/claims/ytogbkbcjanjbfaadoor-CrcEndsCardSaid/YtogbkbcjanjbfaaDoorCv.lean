/- CrcTells and CrcEnds walked. -/
import Derived.Test.YtogbkbcjanjbfaaDoorCu
import Derived.Test.YtogbkbcjanjbfaaDoorMk
namespace Go.Proofs.YtogbkbcjanjbfaaDoor
open Go.RowKit
set_option linter.unusedVariables false
variable {w w' : World} {F : List Nat}

theorem ints_any (a : Option Addr) (n c : Nat) (xs : List Int) (w : World) (h : IntsAt w a n xs) (hn : n * 8 ≤ 140737488355328) :
    Calls Tryd.prog 10 #[.slice a n c] w fun e w' => ∃ v, e = .returned v ∧ ∃ g c', v = .slice (some ⟨g, 0, none⟩) xs.length c' ∧ w.heap.size ≤ g ∧ Arr w' g c' xs ∧ Keeps [] w w' := by
  rcases a with _ | ad
  · have h1 := h.2.1 rfl
    subst h1
    exact ints_none n c w h.1
  · exact ints_some ad n c xs w h hn

theorem few_in {xs : List Int} (hx : ∀ x ∈ xs, I64 x) : ∀ x ∈ xs.take 300, I64 x := fun x h => hx x (List.mem_of_mem_take h)

set_option maxRecDepth 100000 in
set_option maxHeartbeats 1000000 in
theorem tells_any (sum : Int) (a : Option Addr) (n c : Nat) (xs : List Int) (w : World) (ht : Turns w) (h64 : I64 sum) (hi : IntsAt w a n xs) (hx64 : ∀ x ∈ xs, I64 x) (hn : n ≤ c) (hc : c ≤ maxLen) :
    Calls Tryd.prog 3 #[.int .i64 sum, .slice a n c] w fun e w' => e = .returned (.bool true) ∧ Keeps [] w w' := by
  have hi2 := hi.take (k := min n 300) (by omega)
  have htk : xs.take (min n 300) = xs.take 300 := by
    rw [hi.1]
    by_cases h : xs.length ≤ 300
    · rw [List.take_of_length_le (by omega), List.take_of_length_le (by omega)]
    · rw [show min xs.length 300 = 300 by omega]
  rw [htk] at hi2
  have hl2 := few_in hx64
  obtain ⟨ys, hys⟩ : ∃ ys, ys = xs.take 300 := ⟨_, rfl⟩
  rw [← hys] at hi2 hl2
  obtain ⟨k, hk⟩ : ∃ k, k = min n 300 := ⟨_, rfl⟩
  rw [← hk] at hi2
  have hk3 : k ≤ 300 := by omega
  have hkl := hi2.1
  have hyl : ys.length ≤ 300 := by omega
  have HK := Lib.hid hk
  have HI := Lib.hid hi2
  have HL := Lib.hid hl2
  have HT := Lib.hid ht
  have H64 := Lib.hid h64
  have HKL := Lib.hid hkl
  clear hi hi2 hl2 hx64 ht h64 htk hys hk hkl
  go_enter Tryd.func3, Tryd.ntmps3
  go_wp2_with fail
  refine (few_any a n c _ hn hc).mono ?_
  rintro e w' ⟨rfl, rfl⟩
  rw [← HK.out]
  go_wp2_with fail
  refine (ints_any a k c ys _ HI.out (by omega)).mono ?_
  rintro e w1 ⟨v, rfl, g, c1, rfl, hg, hA, k1⟩
  have HA := Lib.hid hA
  clear hA
  go_wp2_with fail
  refine (on_any sum _ _ _ ys _ (HT.out.keep k1) HA.out.ints (by unfold maxLen; omega)).mono ?_
  rintro e w' ⟨rfl, rfl⟩
  go_wp2_with fail
  refine (refOn_any sum _ _ _ ys _ H64.out (HI.out.keep0 k1) HL.out (by unfold maxLen; omega)).mono ?_
  rintro e w' ⟨rfl, rfl⟩
  go_wp2_with fail
  refine (of_any _ _ _ ys _ (HT.out.keep k1) HA.out.ints (by unfold maxLen; omega)).mono ?_
  rintro e w' ⟨rfl, rfl⟩
  go_wp2_with fail
  refine (refOf_any _ _ _ ys _ (HI.out.keep0 k1) HL.out (by unfold maxLen; omega)).mono ?_
  rintro e w' ⟨rfl, rfl⟩
  go_wp2_with fail
  refine (sameInts_any _ _ _ _ _ _ ys ys _ HA.out.ints (HI.out.keep0 k1) (by unfold maxLen; omega) (by unfold maxLen; omega)).mono ?_
  rintro e w2 ⟨he, m, rfl⟩
  rw [decide_eq_true rfl] at he
  subst he
  go_wp2_with fail
  refine (works_any _ ((HT.out.keep k1).drewN _)).mono ?_
  rintro e w3 ⟨rfl, k3⟩
  go_wp2_with fail
  go_ret
  exact ⟨rfl, (k1.drewN _).trans0 k3⟩
theorem crcI_lt (s : Int) (xs : List Int) : crcI s xs < 65536 := crc_le
theorem crcI_snoc (s : Int) (xs : List Int) (x : Int) : crcI s (xs ++ [x]) = CM.crc (crcI s xs) [lo x] := by
  unfold crcI; rw [List.map_append, CM.crc_append]; rfl
theorem crcI_end (s : Int) (xs : List Int) : crcI s (xs ++ [(crcI s xs : Int)]) = 0 := by
  rw [crcI_snoc, lo_nat crc_le, CM.crc_end]
theorem crcI_end_iff (s : Int) (xs : List Int) (x : Int) (h1 : 0 ≤ x) (h2 : x < 65536) : crcI s (xs ++ [x]) = 0 ↔ x = crcI s xs := by
  rw [crcI_snoc, CM.crc_end_iff crc_le (lo_lt x)]
  unfold lo
  omega

/-- A word behind a copy: the copy's row, and the word in its box. -/
theorem snoc_own {w' : World} {n : Nat} {ys : List Int} {x : Int} {v' : Value} {base : Nat} (hn : ys.length = n) (q1 : w'.ownsRow base 3 1 v' (n + 1) (ys.map (.int .i64) ++ [.int .i64 x])) (hv : ¬ (v' = .slice none 0 0)) :
    ∃ g' c', v' = .slice (some ⟨g', 0, none⟩) (n + 1) c' ∧ base ≤ g' ∧ Arr w' g' c' (ys ++ [x]) := by
  have q : w'.ownsRow base 3 1 v' (n + 1) ((ys ++ [x]).map (.int .i64)) := by rw [List.map_append]; exact q1
  obtain ⟨g', c', rfl, hg, hA⟩ := Arr.of_own q hv
  exact ⟨g', c', by simp [hn], hg, hA⟩

set_option maxRecDepth 100000 in
set_option maxHeartbeats 2000000 in
theorem ends_any (a : Option Addr) (n c : Nat) (xs : List Int) (x : Int) (w : World) (ht : Turns w) (hi : IntsAt w a n xs) (hn : n ≤ maxLen) :
    Calls Tryd.prog 8 #[.slice a n c, .int .i64 x] w fun e w' => e = .returned (.bool true) ∧ Keeps [] w w' := by
  have HI := Lib.hid hi
  have HT := Lib.hid ht
  clear hi ht
  obtain ⟨ys, hys⟩ : ∃ ys, ys = wordsL xs := ⟨_, rfl⟩
  obtain ⟨S, hS⟩ : ∃ S : Int, S = crcI 65535 ys := ⟨_, rfl⟩
  obtain ⟨X, hX⟩ : ∃ X : Int, X = amongI x 65536 := ⟨_, rfl⟩
  obtain ⟨V, hV⟩ : ∃ V : Int, V = crcI 65535 (ys ++ [X]) := ⟨_, rfl⟩
  obtain ⟨b, hb⟩ : ∃ b : Bool, (X == S) = b := ⟨_, rfl⟩
  have hx1 := amongI_lt x 65536 (by omega) (by omega)
  have hb2 : (V == 0) = b := by
    rw [← hb, Bool.eq_iff_iff, beq_iff_eq, beq_iff_eq, hV, hS]
    rw [← hX] at hx1
    rw [← crcI_end_iff 65535 ys X hx1.1 hx1.2]
    omega
  have hyl : ys.length ≤ 300 := by rw [hys]; simp [wordsL]; omega
  obtain ⟨n1, hn1⟩ : ∃ n1, n1 = ys.length := ⟨_, rfl⟩
  have hn3 : n1 ≤ 300 := by omega
  have e0 : crcI 65535 (ys ++ [S]) = 0 := by rw [hS]; exact crcI_end _ _
  have E0 := Lib.hid e0
  have HYS := Lib.hid hys
  have HS := Lib.hid hS
  have HX := Lib.hid hX
  have HV := Lib.hid hV
  have HN1 := Lib.hid hn1
  clear hys hS hX hV e0 hn1 hx1
  obtain ⟨i0, hi, hz0, hz1, hz2⟩ := info_parts Tryd.info3
  go_enter Tryd.func8, Tryd.ntmps8
  go_wp2_with fail
  refine (works_any _ HT.out).mono ?_
  rintro e w0 ⟨rfl, k0⟩
  go_wp2_with fail
  refine (words_any a n c xs _ (HI.out.keep0 k0) hn).mono ?_
  rintro e w1 ⟨v, rfl, g, c1, rfl, hg, hA, k1⟩
  rw [← HYS.out] at hA ⊢
  rw [← HN1.out]
  have k01 := k0.trans0 k1
  have HA := Lib.hid hA
  clear hA
  go_wp2_with fail
  refine (of_any _ n1 _ ys _ (HT.out.keep k01) (by rw [HN1.out]; exact HA.out.ints) (by unfold maxLen; omega)).mono ?_
  rintro e w' ⟨he, rfl⟩
  rw [← HS.out] at he
  subst he
  go_wp2_with fail
  refine (among_any x 65536 _ (by omega) (by omega)).mono ?_
  rintro e w' ⟨he, rfl⟩
  rw [← HX.out] at he
  subst he
  go_wp2_with fail
  refine (ints_any _ n1 _ ys _ (by rw [HN1.out]; exact HA.out.ints) (by omega)).mono ?_
  rintro e w2 ⟨v, rfl, g2, c2, rfl, hg2, hA2, k2⟩
  rw [← HN1.out]
  have hs1 := k01.size
  have hs2 := k2.size
  have hO2 := Lib.hid (ownsRow_keep (F := []) (hA2.own (base := w.heap.size) (by omega) n1 HN1.out) ((Keeps.refl _ _).alloc (.cells #[.int .i64 S] 3)) (by simp))
  go_wp2_with (at_builtin; refine wpList_append_new _ rfl (.tmp 15) (.tmp 17) 22 rfl w.heap.size 3 i0 (.int .i64 0) 1 8 Tryd.underlying22 hi hz0 hz1 hz2 rfl (by decide) (.slice (some ⟨g2, 0, none⟩) n1 c2) n1 _ rfl hO2.out ⟨w2.heap.size, 0, none⟩ 1 1 [.int .i64 S] rfl rfl (cell_one_new _ _ _) (by simp [Value.oneCell']) (by unfold maxLen; omega) (by omega) (by simp; omega) ?_; intro v' w3 q1 q2 q3 q4)
  obtain ⟨g3, c3, rfl, hg3, hA3⟩ := snoc_own HN1.out.symm q1 (fun e => absurd (q3.1 e).2 (by omega))
  have k13 : Keeps [] w1 w3 := (k2.alloc _).grown q2 (by intro k e; injection e with e; right; rw [← e]; exact hg2)
  clear q1 q2 q3 q4 hO2 k2 hA2 hs2
  have k03 := k01.trans0 k13
  have hA := HA.out.keep k13 (by simp)
  have HA1 := Lib.hid hA
  have HA3 := Lib.hid hA3
  have hl3 : n1 + 1 = (ys ++ [S]).length := by rw [HN1.out]; simp
  have HL3 := Lib.hid hl3
  clear hA3 hl3 hA HA
  go_wp2_with fail
  refine (of_any _ (n1 + 1) _ (ys ++ [S]) _ (HT.out.keep k03) (by rw [HL3.out]; exact HA3.out.ints) (by unfold maxLen; omega)).mono ?_
  rintro e w' ⟨he, rfl⟩
  rw [E0.out] at he
  subst he
  go_wp2_with fail
  refine (ints_any _ n1 _ ys _ (by rw [HN1.out]; exact HA1.out.ints) (by omega)).mono ?_
  rintro e w4 ⟨v, rfl, g4, c4, rfl, hg4, hA4, k4⟩
  rw [← HN1.out]
  have hs3 := k03.size
  have hs4 := k4.size
  have hO4 := Lib.hid (ownsRow_keep (F := []) (hA4.own (base := w.heap.size) (by omega) n1 HN1.out) ((Keeps.refl _ _).alloc (.cells #[.int .i64 X] 3)) (by simp))
  go_wp2_with (at_builtin; refine wpList_append_guarded _ rfl (.tmp 23) (.tmp 25) 22 rfl w.heap.size 3 i0 (.int .i64 0) 1 8 Tryd.underlying22 hi hz0 hz1 hz2 rfl (by decide) (.slice (some ⟨g4, 0, none⟩) n1 c4) n1 _ rfl hO4.out ⟨w4.heap.size, 0, none⟩ 1 1 [.int .i64 X] rfl rfl (cell_one_new _ _ _) (by simp [Value.oneCell']) (by unfold maxLen; omega) (by omega) (by simp; omega) ?_; intro v' w5 q1 q2 q3 q4)
  obtain ⟨g5, c5, rfl, hg5, hA5⟩ := snoc_own HN1.out.symm q1 (fun e => absurd (q3.1 e).2 (by omega))
  have k35 : Keeps [] w3 w5 := (k4.alloc _).grown q2 (by intro k e; injection e with e; right; rw [← e]; exact hg4)
  clear q1 q2 q3 q4 hO4 k4 hA4 hs4
  have k05 := k03.trans0 k35
  have HA5 := Lib.hid hA5
  have hl5 : n1 + 1 = (ys ++ [X]).length := by rw [HN1.out]; simp
  have HL5 := Lib.hid hl5
  clear hA5 hl5
  go_wp2_with fail
  refine (of_any _ (n1 + 1) _ (ys ++ [X]) _ (HT.out.keep k05) (by rw [HL5.out]; exact HA5.out.ints) (by unfold maxLen; omega)).mono ?_
  rintro e w' ⟨he, rfl⟩
  rw [← HV.out] at he
  subst he
  go_wp2_with fail
  go_ret
  exact ⟨rfl, k05⟩
end Go.Proofs.YtogbkbcjanjbfaaDoor
