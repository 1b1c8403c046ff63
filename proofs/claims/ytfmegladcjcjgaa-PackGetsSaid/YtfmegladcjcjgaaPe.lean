/- The document's own words of numbers: full, fits, Put, Get: contracts. -/
import Derived.Test.YtfmegladcjcjgaaPd
namespace Go.Proofs.Ytfmegladcjcjgaa
open Go.RowKit
set_option linter.unusedVariables false

theorem full_any (k : Nat) (h : k ≤ 3) (w : World) : Calls Try.prog 31 #[.int .i64 k] w fun e w' => e = .returned (.int .i64 (fullN k)) ∧ w = w' := by
  go_enter Try.func31, Try.ntmps31
  go_wp2
  go_loop [3, 4] (fun vn vi => ∃ i : Nat, i ≤ k ∧ vi = .int .i64 i ∧ vn = .int .i64 (fullN i)) (fun _ vi => k - (intOf vi).toNat)
  case atStart => exact ⟨0, Nat.zero_le _, rfl, rfl⟩
  case round =>
    obtain ⟨i, hi, rfl, rfl⟩ := hrel
    have hb : i < k → fullN i ≤ 4294967296 := by
      intro _
      obtain rfl | rfl | rfl : i = 0 ∨ i = 1 ∨ i = 2 := by omega
      all_goals decide
    have hb0 := full_pos i
    obtain ⟨F, hF⟩ : ∃ F, F = fullN i := ⟨_, rfl⟩
    rw [← hF] at hb hb0 ⊢
    have HF := Lib.hid hF
    clear hF
    by_cases hlt : i < k
    · have hb2 := hb hlt
      clear hb
      go_wp2
      go_round
      case rel => exact ⟨i + 1, by omega, by go_num, by rw [HF.out]; simp only [fullN, Int.mul_comm]⟩
      case measure => simp [intOf]; omega
    · have hik : i = k := by omega
      have HIK := Lib.hid hik
      clear hik hb
      go_wp2
      go_ret
      exact ⟨by rw [HF.out, HIK.out]; rfl, rfl⟩

theorem fits_any (k : Nat) (n : Int) (s : Bool) (h1 : 1 ≤ k) (h4 : k ≤ 4) (w : World) (h64 : I64 n) : Calls Try.prog 27 #[.int .i64 k, .int .i64 n, .bool s] w fun e w' => e = .returned (.bool (fitB k s n)) ∧ w = w' := by
  unfold I64 at h64
  obtain rfl | rfl | rfl | rfl : k = 1 ∨ k = 2 ∨ k = 3 ∨ k = 4 := by omega
  · cases s
    · by_cases ha : 0 ≤ n
      · by_cases hb : n < 65536
        · have e : fitB 1 false n = true := by unfold fitB; rw [full1, if_neg (by decide), decide_eq_true_iff]; omega
          rw [e]
          clear e
          go_enter Try.func27, Try.ntmps27
          go_wp2_with (go_at_call 31; refine (full_any 1 (by omega) _).mono ?_; rintro e w' ⟨he, rfl⟩; rw [full1] at he; subst he)
          go_ret
          exact ⟨rfl, rfl⟩
        · have e : fitB 1 false n = false := by unfold fitB; rw [full1, if_neg (by decide), decide_eq_false_iff_not]; omega
          rw [e]
          have hb2 : decide (n < 65536) = false := by simpa using hb
          clear e hb
          go_enter Try.func27, Try.ntmps27
          go_wp2_with (go_at_call 31; refine (full_any 1 (by omega) _).mono ?_; rintro e w' ⟨he, rfl⟩; rw [full1] at he; subst he)
          go_ret
          exact ⟨rfl, rfl⟩
      · have e : fitB 1 false n = false := by unfold fitB; rw [full1, if_neg (by decide), decide_eq_false_iff_not]; omega
        rw [e]
        have ha2 : decide (0 ≤ n) = false := by simpa using ha
        clear e ha
        go_enter Try.func27, Try.ntmps27
        go_wp2_with (go_at_call 31; refine (full_any 1 (by omega) _).mono ?_; rintro e w' ⟨he, rfl⟩; rw [full1] at he; subst he)
        go_ret
        exact ⟨rfl, rfl⟩
    · by_cases ha : -32768 ≤ n
      · by_cases hb : n < 32768
        · have e : fitB 1 true n = true := by unfold fitB; rw [full1, if_pos rfl, decide_eq_true_iff]; omega
          rw [e]
          clear e
          go_enter Try.func27, Try.ntmps27
          go_wp2_with (go_at_call 31; refine (full_any 1 (by omega) _).mono ?_; rintro e w' ⟨he, rfl⟩; rw [full1] at he; subst he)
          go_ret
          exact ⟨rfl, rfl⟩
        · have e : fitB 1 true n = false := by unfold fitB; rw [full1, if_pos rfl, decide_eq_false_iff_not]; omega
          rw [e]
          have hb2 : decide (n < 32768) = false := by simpa using hb
          clear e hb
          go_enter Try.func27, Try.ntmps27
          go_wp2_with (go_at_call 31; refine (full_any 1 (by omega) _).mono ?_; rintro e w' ⟨he, rfl⟩; rw [full1] at he; subst he)
          go_ret
          exact ⟨rfl, rfl⟩
      · have e : fitB 1 true n = false := by unfold fitB; rw [full1, if_pos rfl, decide_eq_false_iff_not]; omega
        rw [e]
        have ha2 : decide (-32768 ≤ n) = false := by simpa using ha
        clear e ha
        go_enter Try.func27, Try.ntmps27
        go_wp2_with (go_at_call 31; refine (full_any 1 (by omega) _).mono ?_; rintro e w' ⟨he, rfl⟩; rw [full1] at he; subst he)
        go_ret
        exact ⟨rfl, rfl⟩
  · cases s
    · by_cases ha : 0 ≤ n
      · by_cases hb : n < 4294967296
        · have e : fitB 2 false n = true := by unfold fitB; rw [full2, if_neg (by decide), decide_eq_true_iff]; omega
          rw [e]
          clear e
          go_enter Try.func27, Try.ntmps27
          go_wp2_with (go_at_call 31; refine (full_any 2 (by omega) _).mono ?_; rintro e w' ⟨he, rfl⟩; rw [full2] at he; subst he)
          go_ret
          exact ⟨rfl, rfl⟩
        · have e : fitB 2 false n = false := by unfold fitB; rw [full2, if_neg (by decide), decide_eq_false_iff_not]; omega
          rw [e]
          have hb2 : decide (n < 4294967296) = false := by simpa using hb
          clear e hb
          go_enter Try.func27, Try.ntmps27
          go_wp2_with (go_at_call 31; refine (full_any 2 (by omega) _).mono ?_; rintro e w' ⟨he, rfl⟩; rw [full2] at he; subst he)
          go_ret
          exact ⟨rfl, rfl⟩
      · have e : fitB 2 false n = false := by unfold fitB; rw [full2, if_neg (by decide), decide_eq_false_iff_not]; omega
        rw [e]
        have ha2 : decide (0 ≤ n) = false := by simpa using ha
        clear e ha
        go_enter Try.func27, Try.ntmps27
        go_wp2_with (go_at_call 31; refine (full_any 2 (by omega) _).mono ?_; rintro e w' ⟨he, rfl⟩; rw [full2] at he; subst he)
        go_ret
        exact ⟨rfl, rfl⟩
    · by_cases ha : -2147483648 ≤ n
      · by_cases hb : n < 2147483648
        · have e : fitB 2 true n = true := by unfold fitB; rw [full2, if_pos rfl, decide_eq_true_iff]; omega
          rw [e]
          clear e
          go_enter Try.func27, Try.ntmps27
          go_wp2_with (go_at_call 31; refine (full_any 2 (by omega) _).mono ?_; rintro e w' ⟨he, rfl⟩; rw [full2] at he; subst he)
          go_ret
          exact ⟨rfl, rfl⟩
        · have e : fitB 2 true n = false := by unfold fitB; rw [full2, if_pos rfl, decide_eq_false_iff_not]; omega
          rw [e]
          have hb2 : decide (n < 2147483648) = false := by simpa using hb
          clear e hb
          go_enter Try.func27, Try.ntmps27
          go_wp2_with (go_at_call 31; refine (full_any 2 (by omega) _).mono ?_; rintro e w' ⟨he, rfl⟩; rw [full2] at he; subst he)
          go_ret
          exact ⟨rfl, rfl⟩
      · have e : fitB 2 true n = false := by unfold fitB; rw [full2, if_pos rfl, decide_eq_false_iff_not]; omega
        rw [e]
        have ha2 : decide (-2147483648 ≤ n) = false := by simpa using ha
        clear e ha
        go_enter Try.func27, Try.ntmps27
        go_wp2_with (go_at_call 31; refine (full_any 2 (by omega) _).mono ?_; rintro e w' ⟨he, rfl⟩; rw [full2] at he; subst he)
        go_ret
        exact ⟨rfl, rfl⟩
  · cases s
    · by_cases ha : 0 ≤ n
      · by_cases hb : n < 281474976710656
        · have e : fitB 3 false n = true := by unfold fitB; rw [full3, if_neg (by decide), decide_eq_true_iff]; omega
          rw [e]
          clear e
          go_enter Try.func27, Try.ntmps27
          go_wp2_with (go_at_call 31; refine (full_any 3 (by omega) _).mono ?_; rintro e w' ⟨he, rfl⟩; rw [full3] at he; subst he)
          go_ret
          exact ⟨rfl, rfl⟩
        · have e : fitB 3 false n = false := by unfold fitB; rw [full3, if_neg (by decide), decide_eq_false_iff_not]; omega
          rw [e]
          have hb2 : decide (n < 281474976710656) = false := by simpa using hb
          clear e hb
          go_enter Try.func27, Try.ntmps27
          go_wp2_with (go_at_call 31; refine (full_any 3 (by omega) _).mono ?_; rintro e w' ⟨he, rfl⟩; rw [full3] at he; subst he)
          go_ret
          exact ⟨rfl, rfl⟩
      · have e : fitB 3 false n = false := by unfold fitB; rw [full3, if_neg (by decide), decide_eq_false_iff_not]; omega
        rw [e]
        have ha2 : decide (0 ≤ n) = false := by simpa using ha
        clear e ha
        go_enter Try.func27, Try.ntmps27
        go_wp2_with (go_at_call 31; refine (full_any 3 (by omega) _).mono ?_; rintro e w' ⟨he, rfl⟩; rw [full3] at he; subst he)
        go_ret
        exact ⟨rfl, rfl⟩
    · by_cases ha : -140737488355328 ≤ n
      · by_cases hb : n < 140737488355328
        · have e : fitB 3 true n = true := by unfold fitB; rw [full3, if_pos rfl, decide_eq_true_iff]; omega
          rw [e]
          clear e
          go_enter Try.func27, Try.ntmps27
          go_wp2_with (go_at_call 31; refine (full_any 3 (by omega) _).mono ?_; rintro e w' ⟨he, rfl⟩; rw [full3] at he; subst he)
          go_ret
          exact ⟨rfl, rfl⟩
        · have e : fitB 3 true n = false := by unfold fitB; rw [full3, if_pos rfl, decide_eq_false_iff_not]; omega
          rw [e]
          have hb2 : decide (n < 140737488355328) = false := by simpa using hb
          clear e hb
          go_enter Try.func27, Try.ntmps27
          go_wp2_with (go_at_call 31; refine (full_any 3 (by omega) _).mono ?_; rintro e w' ⟨he, rfl⟩; rw [full3] at he; subst he)
          go_ret
          exact ⟨rfl, rfl⟩
      · have e : fitB 3 true n = false := by unfold fitB; rw [full3, if_pos rfl, decide_eq_false_iff_not]; omega
        rw [e]
        have ha2 : decide (-140737488355328 ≤ n) = false := by simpa using ha
        clear e ha
        go_enter Try.func27, Try.ntmps27
        go_wp2_with (go_at_call 31; refine (full_any 3 (by omega) _).mono ?_; rintro e w' ⟨he, rfl⟩; rw [full3] at he; subst he)
        go_ret
        exact ⟨rfl, rfl⟩
  · cases s
    · by_cases ha : 0 ≤ n
      · have e : fitB 4 false n = true := by unfold fitB; rw [full4, if_neg (by decide), decide_eq_true_iff]; omega
        rw [e]
        clear e
        go_enter Try.func27, Try.ntmps27
        go_wp2_with fail
        go_ret
        exact ⟨rfl, rfl⟩
      · have e : fitB 4 false n = false := by unfold fitB; rw [full4, if_neg (by decide), decide_eq_false_iff_not]; omega
        rw [e]
        have ha2 : decide (0 ≤ n) = false := by simpa using ha
        clear e ha
        go_enter Try.func27, Try.ntmps27
        go_wp2_with fail
        go_ret
        exact ⟨rfl, rfl⟩
    · have e : fitB 4 true n = true := by unfold fitB; rw [full4, if_pos rfl, decide_eq_true_iff]; omega
      rw [e]
      clear e
      go_enter Try.func27, Try.ntmps27
      go_wp2_with fail
      go_ret
      exact ⟨rfl, rfl⟩

theorem wd_wrap (k : Nat) (x : Int) (h4 : k ≤ 4) : wd k (IntKind.u64.wrap x) = wd k x := by
  have e : IntKind.u64.wrap x = x % 18446744073709551616 := by simp [IntKind.wrap, IntKind.bits, IntKind.signed]
  rw [e]
  obtain rfl | rfl | rfl | rfl | rfl : k = 0 ∨ k = 1 ∨ k = 2 ∨ k = 3 ∨ k = 4 := by omega
  all_goals
    simp only [wd, List.nil_append, List.cons_append, List.cons.injEq, and_true]
    try omega
theorem rows_snoc {w' : World} {v' : Value} {l m L : Nat} {base : Nat} {ys : List Int} {zs : List Int} (hL : L = l + m) (hl : (ys ++ zs).length = L)
    (ho : w'.ownsRow base 3 1 v' (l + m) (ys.map (Value.int .i64) ++ zs.map (Value.int .i64))) (hne : v' ≠ .slice none 0 0) : ∃ g c, v' = .slice (some ⟨g, 0, none⟩) L c ∧ base ≤ g ∧ Arr w' g c (ys ++ zs) := by
  subst hL
  rw [← List.map_append] at ho
  obtain ⟨g, c, rfl, h1, h2⟩ := Arr.of_own ho hne
  exact ⟨g, c, by rw [hl], h1, h2⟩

set_option maxHeartbeats 4000000 in
set_option maxRecDepth 100000 in
theorem refPut_yes (k : Nat) (s : Bool) (a : Option Addr) (n c : Nat) (xs : List Int) (w : World) (h1 : 1 ≤ k) (h4 : k ≤ 4) (hi : IntsAt w a n xs) (hx64 : ∀ x ∈ xs, I64 x) (hn : n ≤ 1000) :
    Calls Try.prog 11 #[.int .i64 k, .slice a n c, .bool s] w fun e w' => Out w w' (putR k s xs) e := by
  have HI := Lib.hid hi
  have HX := Lib.hid hx64
  have HLEN := Lib.hid (show n = xs.length from hi.1)
  have hmk := run_make_ints 22 Try.underlying22 k (by omega)
  have hk4 : decide (4 < (k : Int)) = false := by simp; omega
  obtain ⟨i0, hii, hz0, hz1, hz2⟩ := info_parts Try.info3
  clear hi hx64
  go_enter Try.func11, Try.ntmps11
  go_wp2_with fail
  go_loopw [8, 9] (fun vo vi wr => ∃ (i g c L : Nat), i ≤ n ∧ vi = .int .i64 i ∧ L = (flatW k (xs.take i)).length ∧ vo = .slice (some ⟨g, 0, none⟩) L c ∧ (∀ x ∈ xs.take i, fitB k s x = true) ∧ Arr wr g c (flatW k (xs.take i)) ∧ w.heap.size ≤ g ∧ Keeps [] w wr) (fun _ vi _ => n - (intOf vi).toNat)
  case atStart =>
    refine ⟨0, w.heap.size, 0, 0, Nat.zero_le _, rfl, rfl, rfl, by simp, ?_, Nat.le_refl _, (Keeps.refl _ _).alloc _⟩
    exact ⟨⟨#[], heap_alloc_new w _, by simp [flatW], rfl⟩, by simp [flatW], by unfold maxLen; omega⟩
  case round =>
    obtain ⟨i, g, c1, L, hi, rfl, hL, rfl, hall, hA, hg, hk⟩ := hrel
    obtain ⟨W1, rfl⟩ : ∃ z, z = wr := ⟨_, rfl⟩
    have HALL := Lib.hid hall
    have HA := Lib.hid hA
    have HK := Lib.hid hk
    have HL := Lib.hid hL
    have hLle : L ≤ 4000 := by
      rw [hL, flatW_len]
      exact Nat.le_trans (Nat.mul_le_mul h4 (show (xs.take i).length ≤ 1000 by rw [List.length_take]; omega)) (by decide)
    clear hall hA hL
    by_cases hlt : i < n
    · have hix : i < xs.length := by rw [← HLEN.out]; exact hlt
      rcases a with _ | ⟨lb, lo', ls⟩
      · have := HI.out.2.1 rfl; rw [this] at hix; simp at hix
      have hli := HI.out.keep0 hk
      obtain ⟨rfl, hlc⟩ := hli.2.2 lb lo' ls rfl (List.ne_nil_of_length_pos (by omega))
      have hx := hlc i hix
      obtain ⟨x, ex⟩ : ∃ x, x = xs.getD i 0 := ⟨_, rfl⟩
      rw [← ex] at hx
      have hxm : x ∈ xs := by rw [ex]; simp [List.getD, hix]
      have EX := Lib.hid ex
      have HXM := Lib.hid hxm
      have HX6 := Lib.hid (HX.out x hxm)
      obtain ⟨b, hb⟩ : ∃ b, b = fitB k s x := ⟨_, rfl⟩
      have HB := Lib.hid hb
      clear hlc ex hxm hli hb hk
      go_wp2_with fail
      refine (fits_any k x s h1 h4 _ HX6.out).mono ?_
      rintro e w' ⟨he, rfl⟩
      rw [← HB.out] at he
      subst he
      cases b
      · have hbad : putR k s xs = (2, []) := putR_bad HXM.out (by rw [Int.toNat_natCast, ← HB.out])
        have HBAD := Lib.hid hbad
        clear hbad
        go_wp2_with fail
        go_ret2
        rw [HBAD.out]
        exact Out.of_nil HK.out
      · obtain ⟨u, hu⟩ : ∃ u, IntKind.u64.wrap x = u := ⟨_, rfl⟩
        have hu0 := u64_in x
        rw [hu] at hu0
        have HU := Lib.hid hu
        have HS := Lib.hid HK.out.size
        go_wp2_with fail
        go_loopw [10, 12] (fun vx vj wq => ∃ j : Nat, j ≤ k ∧ vj = .int .i64 ((j : Int) - 1) ∧ vx = .int .u64 (u / fullN (k - j)) ∧ Arr wq W1.heap.size k (layL (List.replicate k 0) 0 j k u) ∧ Keeps [] W1 wq) (fun _ vj _ => (intOf vj + 1).toNat)
        case atStart =>
          refine ⟨k, Nat.le_refl _, rfl, ?_, ?_, (Keeps.refl _ _).alloc _⟩
          · rw [Nat.sub_self]; simp [fullN]
          · have e : layL (List.replicate k 0) 0 k k u = List.replicate k 0 := by
              unfold layL
              rw [List.drop_eq_nil_of_le (by rw [wd_len]; exact Nat.le_refl _), List.append_nil, List.take_append_drop]
            rw [e]
            have := arr_made W1 (List.replicate k 0) (by simp; omega)
            rwa [List.length_replicate] at this
        case round =>
          obtain ⟨j, hj, rfl, rfl, hA1, hkq⟩ := hrel
          have hl : 0 + k ≤ (List.replicate k (0 : Int)).length := by simp
          have HLK := Lib.hid hl
          clear hl
          rcases j with _ | j
          · have hA2 : Arr wr W1.heap.size k (wd k x) := by
              have := hA1
              unfold layL at this
              rw [List.drop_zero, List.drop_eq_nil_of_le (by simp), List.append_nil, ← HU.out, wd_wrap _ _ h4] at this
              simpa using this
            have hown := (HA.out.keep hkq (by simp)).own hg L HL.out
            have hno : ∀ j u, ((wd k x).map (Value.int .i64))[j]? = some u → wr.cell? ((⟨W1.heap.size, 0, none⟩ : Addr).add j) = some u := by
              have := hA2.ints.news
              exact this
            have HO := Lib.hid hown
            have HNO := Lib.hid hno
            have HKQ := Lib.hid hkq
            have HWS := Lib.hid hkq.size
            have hwl := wd_len k x
            have HWL := Lib.hid hwl
            clear hA1 hA2 hown hno hkq hwl
            go_wp2_with (at_builtin; refine wpList_append_new _ rfl (.tmp 55) (.tmp 56) 22 rfl w.heap.size 3 i0 (.int .i64 0) 1 8 Try.underlying22 hii hz0 hz1 hz2 rfl (by decide) (.slice (some ⟨g, 0, none⟩) L c1) L _ rfl HO.out ⟨W1.heap.size, 0, none⟩ k k ((wd k x).map (Value.int .i64)) rfl (by rw [List.length_map, HWL.out, Nat.mul_one]) HNO.out (by simp [Value.oneCell']) (by unfold maxLen; omega) (by omega) (by have := HS.out; have := HWS.out; omega) ?_; intro v' w2 q1 q2 q3 q4)
            have hix2 : i < xs.length := by rw [← HLEN.out]; exact hlt
            have htk : xs.take (i + 1) = xs.take i ++ [x] := by
              rw [List.take_succ_eq_append_getElem hix2, EX.out]
              simp [List.getD, hix2]
            have hfl : flatW k (xs.take (i + 1)) = flatW k (xs.take i) ++ wd k x := by rw [htk, flatW_snoc]
            obtain ⟨g2, c2, rfl, hg2, hA2⟩ := rows_snoc (ys := flatW k (xs.take i)) (zs := wd k x) rfl (by rw [List.length_append, HWL.out, ← HL.out]) q1 (fun e => absurd (q3.1 e).2 (by omega))
            have k2 : Keeps [] w w2 := (HK.out.trans0 HKQ.out).grown q2 (by intro k e; injection e with e; right; rw [← e]; exact hg)
            have HA2 := Lib.hid hA2
            have K2 := Lib.hid k2
            have HFL := Lib.hid hfl
            have HTK := Lib.hid htk
            clear q1 q2 q3 q4 hA2 k2 hfl htk
            go_wp2_with fail
            go_roundw
            case rel =>
              refine ⟨i + 1, g2, c2, L + k, by omega, by go_num, ?_, rfl, ?_, ?_, hg2, K2.out⟩
              · rw [HFL.out, List.length_append, HWL.out, ← HL.out]
              · intro y hy
                rw [HTK.out, List.mem_append, List.mem_singleton] at hy
                rcases hy with hy | hy
                · exact HALL.out y hy
                · rw [hy]; exact HB.out.symm
              · rw [HFL.out]; exact HA2.out
            case measure => simp [intOf]; omega
          · obtain ⟨m, hm⟩ : ∃ m : Int, m = u / fullN (k - (j + 1)) := ⟨_, rfl⟩
            rw [← hm]
            have hm0 : 0 ≤ m := by rw [hm]; exact Int.ediv_nonneg hu0.1 (by have := full_pos (k - (j + 1)); omega)
            have hm1 : m < 18446744073709551616 := by
              rw [hm]
              exact Int.lt_of_le_of_lt (Int.ediv_le_self _ hu0.1) hu0.2
            have HM := Lib.hid hm
            have hll := layL_len (List.replicate k (0 : Int)) 0 (j + 1) k u hj HLK.out
            have hfz := hA1.frozen j
            have hcl := hA1.cell (i := j) (by rw [hll]; simp; omega)
            obtain ⟨y, hy⟩ : ∃ y, y = (layL (List.replicate k 0) 0 (j + 1) k u).getD j 0 := ⟨_, rfl⟩
            rw [← hy] at hcl
            have HA1 := Lib.hid hA1
            have HLL := Lib.hid hll
            have HKQ := Lib.hid hkq
            clear hy hm hA1 hll hkq
            go_wp2_with fail
            go_roundw
            case measure => simp [intOf]
            refine ⟨j, by omega, rfl, ?_, ?_, HKQ.out.setCell (by right; exact Nat.le_refl _) _⟩
            · rw [HM.out, show k - j = (k - (j + 1)) + 1 by omega]
              simp only [fullN]
              rw [Int.ediv_ediv_of_nonneg (by have := full_pos (k - (j + 1)); omega), Int.mul_comm]
            · have h1 := HA1.out.set (i := j) (by rw [HLL.out]; simp; omega) (m % 65536)
              have h2 := layL_step (List.replicate k 0) 0 j k u hj HLK.out
              rw [show k - 1 - j = k - (j + 1) by omega, ← HM.out, Nat.zero_add] at h2
              rwa [h2] at h1
    · have hin : i = n := by omega
      have hfin : putR k s xs = (0, flatW k xs) := by
        refine putR_ok h1 h4 ?_
        have := HALL.out
        rwa [List.take_of_length_le (by have := HLEN.out; omega)] at this
      have hA3 := HA.out
      have hL3 := HL.out
      rw [List.take_of_length_le (by have := HLEN.out; omega)] at hA3 hL3
      have HA3 := Lib.hid hA3
      have HL3 := Lib.hid hL3
      have HF := Lib.hid hfin
      clear hfin hA3 hin hL3
      go_wp2_with fail
      go_ret2
      rw [HF.out]
      exact Out.of_arr HL3.out HA3.out HK.out
end Go.Proofs.Ytfmegladcjcjgaa
