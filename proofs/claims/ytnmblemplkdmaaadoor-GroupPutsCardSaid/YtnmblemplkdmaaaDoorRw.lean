
/- GroupPuts walked. No condition but lengths, that all are numbers of 64 bits, and the table of the sums. -/
import Derived.Test.YtnmblemplkdmaaaDoorWa
import Derived.Test.YtnmblemplkdmaaaDoorSi
import Derived.Test.YtnmblemplkdmaaaDoorRp
import Derived.Laws.AppendOwnNone
namespace Go.Proofs.YtnmblemplkdmaaaDoor
open Go.RowKit Go.Shelf
set_option linter.unusedVariables false
set_option linter.unusedSimpArgs false
set_option maxRecDepth 100000

theorem RecsAt.take {w : World} {a : Option Addr} {n k : Nat} {rs : List (List Int)} (h : RecsAt w a n rs) (hk : k ≤ n) : RecsAt w a k (rs.take k) := by
  have h13 := h.2.1
  have hn := h.1
  have hlt : (rs.take k).length = k := by rw [List.length_take]; omega
  refine ⟨hlt.symm, take_13 h13, ?_⟩
  have e : (rs.take k).flatten = rs.flatten.take (13 * k) := by
    have h1 : rs.flatten = (rs.take k).flatten ++ (rs.drop k).flatten := by rw [← List.flatten_append, List.take_append_drop]
    have h2 : (rs.take k).flatten.length = 13 * k := by rw [flat13 (take_13 h13), hlt]
    conv => rhs; rw [h1]
    rw [List.take_append_of_le_length (by omega)]
    exact (List.take_of_length_le (by omega)).symm
  rw [e]
  exact h.2.2.take (by omega)
theorem take_64w {xs : List Int} {k : Nat} (h : ∀ x ∈ xs, I64 x) : ∀ x ∈ xs.take k, I64 x := fun x hx => h x (List.mem_of_mem_take hx)
theorem take_64R {rs : List (List Int)} {k : Nat} (h : ∀ r ∈ rs, ∀ x ∈ r, I64 x) : ∀ r ∈ rs.take k, ∀ x ∈ r, I64 x := fun r hr => h r (List.mem_of_mem_take hr)

set_option maxHeartbeats 4000000 in
theorem gputs_some (a : Option Addr) (n c : Nat) (xs : List Int) (q : Int) (first : Bool) (ad : Addr) (NR : Nat) (cr : Nat) (rr0 : List (List Int)) (w : World) (ht : Turns w) (hi : IntsAt w a n xs) (hn : n ≤ c) (hc : c ≤ maxLen) (h64 : ∀ x ∈ xs, I64 x) (hq : I64 q)
    (hrr0 : RecsAt w (some ad) NR rr0) (hnr : NR ≤ cr) (hcr : cr ≤ maxLen) (hr640 : ∀ r ∈ rr0, ∀ x ∈ r, I64 x) :
    Calls Tryd.prog 4 #[.slice a n c, .int .i64 q, .bool first, .slice (some ad) NR cr] w fun e w' => e = .returned (.bool true) ∧ Keeps [] w w' := by
  obtain ⟨i0, hi0, hz0, hz1, hz2⟩ := info_parts infoRec3
  have hfn := fewN_le n
  have hit := hi.take (k := fewN n) hfn.1
  have h64t := take_64w (k := fewN n) h64
  obtain ⟨ys, hys⟩ : ∃ ys, ys = xs.take (fewN n) := ⟨_, rfl⟩
  rw [← hys] at hit h64t
  obtain ⟨M, hM⟩ : ∃ M, M = fewN n := ⟨_, rfl⟩
  have hMb : M ≤ n ∧ M ≤ 480 := by rw [hM]; exact hfn
  rw [← hM] at hit
  obtain ⟨R, hR⟩ : ∃ R, R = if NR ≤ 9 then NR else 9 := ⟨_, rfl⟩
  have hR9 : R ≤ NR ∧ R ≤ 9 := by rw [hR]; split <;> omega
  obtain ⟨rr, hrrr⟩ : ∃ rr, rr = rr0.take R := ⟨_, rfl⟩
  have hrr := hrr0.take hR9.1
  have hr64 := take_64R (k := R) hr640
  rw [← hrrr] at hrr hr64
  have HR := Lib.hid hR
  have HR9 := hR9.2
  have HRC : R ≤ cr := by omega
  clear hrrr hR hR9 hrr0 hr640
  obtain ⟨gc, gl, ga, hG⟩ : ∃ gc gl ga, (gc, gl, ga) = gputR ys q first rr := ⟨_, _, _, rfl⟩
  have HT := Lib.hid ht
  have HI := Lib.hid hit
  have H64 := Lib.hid h64t
  have HMB := Lib.hid hMb
  have HM := Lib.hid hM
  have HN := Lib.hid hn
  have HC := Lib.hid hc
  have HG := Lib.hid hG
  have HQ := Lib.hid hq
  have HRR := Lib.hid hrr
  have HR64 := Lib.hid hr64
  have HYL := Lib.hid hit.1
  have hcrx := hcr
  unfold maxLen at hcrx
  clear ht hi hit h64 h64t hys hfn hMb hM hn hc hG hq hrr hr64 hcr
  go_enter Tryd.func4, Tryd.ntmps4
  go_upto_region 1 with fail
  go_cut [0, 3] from 16 to 23 (fun s0 s3 wx => s0 = .slice a M c ∧ s3 = .slice (some ad) R cr ∧ Keeps [] w wx)
  case first =>
    rcases Nat.lt_trichotomy NR 9 with h | h | h
    · have e : R = NR := by rw [HR.out, if_pos (by omega)]
      have E := Lib.hid e
      clear e
      go_region_with (go_at_call 9; refine (few_any _ _ _ _ HN.out HC.out).mono ?_; rw [← HM.out]; rintro e w' ⟨rfl, rfl⟩)
      all_goals (try (exfalso; omega))
      all_goals (go_wp2_with fail; go_meet; exact ⟨rfl, (by rw [E.out]), (Keeps.refl _ _).drewN 1⟩)
    · subst h
      have e : R = 9 := by rw [HR.out, if_pos (by omega)]
      have E := Lib.hid e
      clear e
      go_region_with (go_at_call 9; refine (few_any _ _ _ _ HN.out HC.out).mono ?_; rw [← HM.out]; rintro e w' ⟨rfl, rfl⟩)
      all_goals (try (exfalso; omega))
      all_goals (go_wp2_with fail; go_meet; exact ⟨rfl, (by rw [E.out]), (Keeps.refl _ _).drewN 1⟩)
    · have e : R = 9 := by rw [HR.out, if_neg (by omega)]
      have E := Lib.hid e
      clear e
      go_region_with (go_at_call 9; refine (few_any _ _ _ _ HN.out HC.out).mono ?_; rw [← HM.out]; rintro e w' ⟨rfl, rfl⟩)
      all_goals (try (exfalso; omega))
      all_goals (go_wp2_with fail; go_meet; exact ⟨rfl, (by rw [E.out]), (Keeps.refl _ _).drewN 1⟩)
  case rest =>
  obtain ⟨rfl, rfl, k0⟩ := hcut
  have HT := Lib.hid (HT.out.keep k0)
  have HI := Lib.hid (HI.out.keep0 k0)
  have HRR := Lib.hid (HRR.out.keep0 k0)
  have K0 := Lib.hid k0
  clear k0
  trace_state
  go_wp2_with (first
    | (go_at_call 10; refine (ints_any _ _ _ ys _ HI.out (by have := HMB.out; omega)).mono ?_; rw [← HYL.out]; rintro e w1 ⟨v, rfl, g, c', rfl, hg, hA, k1⟩; have HA := Lib.hid hA; have K1 := Lib.hid k1; have HO := Lib.hid (own_emptyR w1); have KO := Lib.hid ((Keeps.refl [] w1).alloc (.cells #[] 46)); have hwo : w1.heap.size ≤ (w1.alloc (.cells #[] 46)).heap.size := KO.out.size; clear hg hA k1)
    | (at_builtin; refine wpList_append_new _ rfl (.tmp 29) (.tmp 30) 36 rfl w1.heap.size 46 i0 _ 13 104 Tryd.underlying36 hi0 hz0 hz1 hz2 (by decide) (by decide) (.slice (some ⟨w1.heap.size, 0, none⟩) 0 0) 0 _ rfl HO.out ad R cr (rr.flatten.map (.int .i64)) rfl (by rw [List.length_map, flat13 HRR.out.2.1, ← HRR.out.1]; omega) (IntsAt.news ((HRR.out.keep0 (K1.out.trans0 KO.out)).2.2)) (map_one _) (by unfold maxLen; omega) (by omega) hwo ?_; intro v' u2 q1 q2 q3 q4; obtain ⟨a2, c2, rfl, r2, l2, m2, -⟩ := recs_of_own HRR.out.2.1 (by rw [← HRR.out.1]; omega) (show u2.ownsRow w1.heap.size 46 13 v' (0 + R) (rr.flatten.map (.int .i64)) from q1); have R2 := Lib.hid (show RecsAt u2 a2 R rr by have h := r2; rw [Nat.zero_add] at h; exact h); have KU := Lib.hid (KO.out.grown q2 (fun j e => .inr (own_block HO.out j e))); clear q1 q2 q3 q4 r2 l2 m2)
    | (go_at_call 18; refine (put_any _ M c' ys q first a2 R c2 rr _ (HT.out.keep (K1.out.trans0 KU.out)) (by have h := (HA.out.keep KU.out (by simp)).ints; rw [← HYL.out] at h; exact h) (by rw [HYL.out]; exact HA.out.le) HA.out.cm R2.out (by omega) HQ.out HR64.out).mono ?_; rw [← HG.out]; rintro e w3 ⟨A3, c3, rfl, i3, k3, l3, m3⟩; have I3 := Lib.hid (show IntsAt w3 A3 gl.length gl from i3); have L3 := Lib.hid (show gl.length ≤ maxLen from Nat.le_trans l3 m3); have HA3 := Lib.hid ((HA.out.keep KU.out (by simp)).keep k3 (by simp)); have K3 := Lib.hid ((K1.out.trans0 KU.out).trans0 k3); clear i3 k3 l3 m3)
    | (go_at_call 19; refine (refPut_any _ M c ys q first (some ad) R cr rr _ (HI.out.keep0 K3.out) (by have := HMB.out; have := HN.out; omega) HC.out H64.out (HRR.out.keep0 K3.out) (by omega) HQ.out HR64.out).mono ?_; rw [← HG.out]; rintro e w4 ⟨A4, c4, rfl, i4, k4, l4, m4⟩; have I4 := Lib.hid (show IntsAt w4 A4 gl.length gl from i4); have L4 := Lib.hid (show gl.length ≤ maxLen from Nat.le_trans l4 m4); have I3' := Lib.hid (I3.out.keep0 k4); have HA4 := Lib.hid (HA3.out.keep k4 (by simp)); have K4 := Lib.hid (K3.out.trans0 k4); clear i4 k4 l4 m4)
    | (go_at_call 16; have hk5 := K5; clear hk5; refine (sameInts_any _ _ M M _ _ ys ys _ (by have h := HA5.out.ints; rw [← HYL.out] at h; exact h) (HI.out.keep0 K5.out) (by have := HMB.out; unfold maxLen; omega) (by have := HMB.out; unfold maxLen; omega)).mono ?_; rintro e w6 ⟨he, nq6, hw6⟩; rw [decide_eq_true rfl] at he; subst he; have K6 := Lib.hid (show Keeps [] _ w6 by rw [hw6]; exact K5.out.drewN nq6); clear hw6)
    | (go_at_call 16; refine (sameInts_any A3 A4 gl.length gl.length c3 c4 gl gl w4 I3'.out I4.out L3.out L4.out).mono ?_; rintro e w5 ⟨he, nq, hw⟩; rw [decide_eq_true rfl] at he; subst he; have k5 : Keeps [] w4 w5 := (by rw [hw]; exact (Keeps.refl _ _).drewN nq); have K5 := Lib.hid (K4.out.trans0 k5); have HA5 := Lib.hid (HA4.out.keep k5 (by simp)); clear hw k5)
    | (go_at_call 17; refine (works_any _ (HT.out.keep K6.out)).mono ?_; rintro e w7 ⟨rfl, k7⟩; have K7 := Lib.hid (K6.out.trans0 k7); clear k7))
  go_ret
  exact ⟨rfl, K0.out.trans0 K7.out⟩

set_option maxHeartbeats 4000000 in
theorem gputs_none (a : Option Addr) (n c : Nat) (xs : List Int) (q : Int) (first : Bool)  (rr0 : List (List Int)) (w : World) (ht : Turns w) (hi : IntsAt w a n xs) (hn : n ≤ c) (hc : c ≤ maxLen) (h64 : ∀ x ∈ xs, I64 x) (hq : I64 q)
    (hrr0 : RecsAt w none 0 rr0) (hr640 : ∀ r ∈ rr0, ∀ x ∈ r, I64 x) :
    Calls Tryd.prog 4 #[.slice a n c, .int .i64 q, .bool first, .slice none 0 0] w fun e w' => e = .returned (.bool true) ∧ Keeps [] w w' := by
  obtain ⟨i0, hi0, hz0, hz1, hz2⟩ := info_parts infoRec3
  have hfn := fewN_le n
  have hit := hi.take (k := fewN n) hfn.1
  have h64t := take_64w (k := fewN n) h64
  obtain ⟨ys, hys⟩ : ∃ ys, ys = xs.take (fewN n) := ⟨_, rfl⟩
  rw [← hys] at hit h64t
  obtain ⟨M, hM⟩ : ∃ M, M = fewN n := ⟨_, rfl⟩
  have hMb : M ≤ n ∧ M ≤ 480 := by rw [hM]; exact hfn
  rw [← hM] at hit
  obtain ⟨rr, hrrr⟩ : ∃ rr, rr = rr0 := ⟨_, rfl⟩
  have hrr := hrr0
  have hr64 := hr640
  rw [← hrrr] at hrr hr64
  obtain rfl : rr = [] := List.eq_nil_of_length_eq_zero hrr.1.symm
  clear hrrr hrr0 hr640
  obtain ⟨gc, gl, ga, hG⟩ : ∃ gc gl ga, (gc, gl, ga) = gputR ys q first ([] : List (List Int)) := ⟨_, _, _, rfl⟩
  have HT := Lib.hid ht
  have HI := Lib.hid hit
  have H64 := Lib.hid h64t
  have HMB := Lib.hid hMb
  have HM := Lib.hid hM
  have HN := Lib.hid hn
  have HC := Lib.hid hc
  have HG := Lib.hid hG
  have HQ := Lib.hid hq
  have HRR := Lib.hid hrr
  have HR64 := Lib.hid hr64
  have HYL := Lib.hid hit.1
  clear ht hi hit h64 h64t hys hfn hMb hM hn hc hG hq hrr hr64
  go_enter Tryd.func4, Tryd.ntmps4
  go_upto_region 1 with fail
  go_cut [0, 3] from 16 to 23 (fun s0 s3 wx => s0 = .slice a M c ∧ s3 = .slice none 0 0 ∧ Keeps [] w wx)
  case first =>
    go_region_with (go_at_call 9; refine (few_any _ _ _ _ HN.out HC.out).mono ?_; rw [← HM.out]; rintro e w' ⟨rfl, rfl⟩)
    all_goals (try (exfalso; omega))
    all_goals (go_wp2_with fail; go_meet; exact ⟨rfl, rfl, (Keeps.refl _ _).drewN 1⟩)
  case rest =>
  obtain ⟨rfl, rfl, k0⟩ := hcut
  have HT := Lib.hid (HT.out.keep k0)
  have HI := Lib.hid (HI.out.keep0 k0)
  have HRR := Lib.hid (HRR.out.keep0 k0)
  have K0 := Lib.hid k0
  clear k0
  trace_state
  go_wp2_with (first
    | (go_at_call 10; refine (ints_any _ _ _ ys _ HI.out (by have := HMB.out; omega)).mono ?_; rw [← HYL.out]; rintro e w1 ⟨v, rfl, g, c', rfl, hg, hA, k1⟩; have HA := Lib.hid hA; have K1 := Lib.hid k1; have HO := Lib.hid (own_emptyR w1); have KO := Lib.hid ((Keeps.refl [] w1).alloc (.cells #[] 46)); have hwo : w1.heap.size ≤ (w1.alloc (.cells #[] 46)).heap.size := KO.out.size; clear hg hA k1)
    | (at_builtin; refine wpList_append_own_none rfl (.tmp 29) (.tmp 30) 36 rfl w1.heap.size 46 i0 13 Tryd.underlying36 hi0 (.slice (some ⟨w1.heap.size, 0, none⟩) 0 0) 0 [] rfl HO.out rfl ?_)
    | (go_at_call 18; refine (put_any _ M c' ys q first _ 0 0 [] _ (HT.out.keep (K1.out.trans0 KO.out)) (by have h := (HA.out.keep KO.out (by simp)).ints; rw [← HYL.out] at h; exact h) (by rw [HYL.out]; exact HA.out.le) HA.out.cm (show RecsAt _ _ 0 [] from ⟨rfl, by simp, ⟨rfl, by simp, fun _ _ _ _ h => absurd rfl h⟩⟩) (by omega) HQ.out HR64.out).mono ?_; rw [← HG.out]; rintro e w3 ⟨A3, c3, rfl, i3, k3, l3, m3⟩; have I3 := Lib.hid (show IntsAt w3 A3 gl.length gl from i3); have L3 := Lib.hid (show gl.length ≤ maxLen from Nat.le_trans l3 m3); have HA3 := Lib.hid ((HA.out.keep KO.out (by simp)).keep k3 (by simp)); have K3 := Lib.hid ((K1.out.trans0 KO.out).trans0 k3); clear i3 k3 l3 m3)
    | (go_at_call 19; refine (refPut_any _ M c ys q first none 0 0 ([] : List (List Int)) _ (HI.out.keep0 K3.out) (by have := HMB.out; have := HN.out; omega) HC.out H64.out (HRR.out.keep0 K3.out) (by omega) HQ.out HR64.out).mono ?_; rw [← HG.out]; rintro e w4 ⟨A4, c4, rfl, i4, k4, l4, m4⟩; have I4 := Lib.hid (show IntsAt w4 A4 gl.length gl from i4); have L4 := Lib.hid (show gl.length ≤ maxLen from Nat.le_trans l4 m4); have I3' := Lib.hid (I3.out.keep0 k4); have HA4 := Lib.hid (HA3.out.keep k4 (by simp)); have K4 := Lib.hid (K3.out.trans0 k4); clear i4 k4 l4 m4)
    | (go_at_call 16; have hk5 := K5; clear hk5; refine (sameInts_any _ _ M M _ _ ys ys _ (by have h := HA5.out.ints; rw [← HYL.out] at h; exact h) (HI.out.keep0 K5.out) (by have := HMB.out; unfold maxLen; omega) (by have := HMB.out; unfold maxLen; omega)).mono ?_; rintro e w6 ⟨he, nq6, hw6⟩; rw [decide_eq_true rfl] at he; subst he; have K6 := Lib.hid (show Keeps [] _ w6 by rw [hw6]; exact K5.out.drewN nq6); clear hw6)
    | (go_at_call 16; refine (sameInts_any A3 A4 gl.length gl.length c3 c4 gl gl w4 I3'.out I4.out L3.out L4.out).mono ?_; rintro e w5 ⟨he, nq, hw⟩; rw [decide_eq_true rfl] at he; subst he; have k5 : Keeps [] w4 w5 := (by rw [hw]; exact (Keeps.refl _ _).drewN nq); have K5 := Lib.hid (K4.out.trans0 k5); have HA5 := Lib.hid (HA4.out.keep k5 (by simp)); clear hw k5)
    | (go_at_call 17; refine (works_any _ (HT.out.keep K6.out)).mono ?_; rintro e w7 ⟨rfl, k7⟩; have K7 := Lib.hid (K6.out.trans0 k7); clear k7))
  go_ret
  exact ⟨rfl, K0.out.trans0 K7.out⟩

theorem gputs_any (a : Option Addr) (n c : Nat) (xs : List Int) (q : Int) (first : Bool) (ar : Option Addr) (nr cr : Nat) (rr : List (List Int)) (w : World) (ht : Turns w) (hi : IntsAt w a n xs) (hn : n ≤ c) (hc : c ≤ maxLen) (h64 : ∀ x ∈ xs, I64 x) (hq : I64 q)
    (hrr : RecsAt w ar nr rr) (hnr : nr ≤ cr) (hcr : cr ≤ maxLen) (hr64 : ∀ r ∈ rr, ∀ x ∈ r, I64 x) (hz : ar = none → nr = 0 ∧ cr = 0) :
    Calls Tryd.prog 4 #[.slice a n c, .int .i64 q, .bool first, .slice ar nr cr] w fun e w' => e = .returned (.bool true) ∧ Keeps [] w w' := by
  rcases ar with _ | ad
  · obtain ⟨rfl, rfl⟩ := hz rfl
    exact gputs_none a n c xs q first rr w ht hi hn hc h64 hq hrr hr64
  · exact gputs_some a n c xs q first ad nr cr rr w ht hi hn hc h64 hq hrr hnr hcr hr64

end Go.Proofs.YtnmblemplkdmaaaDoor
