/- The document's own Fields: its contract. -/
import Derived.Test.YtfmegladcjcjgaaPk
import Derived.StillTailTactics
namespace Go.Proofs.Ytfmegladcjcjgaa
open Go.RowKit
set_option linter.unusedVariables false

theorem fitW_bad {ws vs : List Int} {i : Nat} (hi : i < vs.length) (h : ¬ (0 ≤ vs.getD i 0 ∧ vs.getD i 0 < P2 (ws.getD i 0).toNat)) : ¬ fitW ws vs := fun hf => h (hf.2 i hi)
theorem same_flip {f : FuncId} {args : Array Value} {w : World} {v : Value} (h : Calls Try.prog f args w fun e w' => e = .returned v ∧ w = w') : Calls Try.prog f args w fun e w' => e = .returned v ∧ w' = w := h.mono fun _ _ h => ⟨h.1, h.2.symm⟩

/-- One bit more, as the document puts it. -/
theorem ref_bit (N : Nat) (bs : List Int) (hb : IsBits bs) (h : bs.length < 16 * N) : 0 ≤ (wordsOf N bs).getD (bs.length / 16) 0 ∧ (wordsOf N bs).getD (bs.length / 16) 0 ≤ 65535 ∧
    (wordsOf N bs).set (bs.length / 16) ((wordsOf N bs).getD (bs.length / 16) 0 + P2 (15 - bs.length % 16)) = wordsOf N (bs ++ [1]) ∧ wordsOf N bs = wordsOf N (bs ++ [0]) := by
  obtain ⟨Q, h1, h2, h3⟩ := wordsOf_at N bs h
  obtain ⟨q0, q1⟩ := h1 hb
  have e : P2 (bs.length % 16) * P2 (16 - bs.length % 16) = 65536 := by rw [← P2_add, show bs.length % 16 + (16 - bs.length % 16) = 16 by omega]; rfl
  have e2 : P2 (16 - bs.length % 16) = 2 * P2 (15 - bs.length % 16) := by rw [show 16 - bs.length % 16 = (15 - bs.length % 16) + 1 by omega]; rfl
  have hp := P2_pos (16 - bs.length % 16)
  have h4 := Int.mul_le_mul_of_nonneg_right (show Q + 1 ≤ P2 (bs.length % 16) by omega) (show 0 ≤ P2 (16 - bs.length % 16) by omega)
  have h5 := Int.mul_nonneg q0 (show 0 ≤ P2 (16 - bs.length % 16) by omega)
  rw [Int.add_mul, Int.one_mul] at h4
  have e3 : (2 * Q + 0) * P2 (15 - bs.length % 16) = Q * P2 (16 - bs.length % 16) := by rw [e2, Int.add_zero, Int.mul_comm 2 Q, Int.mul_assoc]
  refine ⟨by rw [h2]; exact h5, by rw [h2]; omega, ?_, ?_⟩
  · rw [h2, h3, Int.add_mul, Int.one_mul]
    congr 1
    rw [← e3, Int.add_zero]
  · rw [h3, e3, ← h2]
    have hlt : bs.length / 16 < (wordsOf N bs).length := by rw [wordsOf_len]; omega
    simp only [List.getD, List.getElem?_eq_getElem hlt, Option.getD_some, List.set_getElem_self]

set_option maxHeartbeats 4000000 in
theorem refFields_any (a a' : Option Addr) (n c n' c' : Nat) (ws vs : List Int) (w : World) (hi : IntsAt w a n ws) (hi' : IntsAt w a' n' vs) (hn : n ≤ 1000000) (hn' : n' ≤ 1000000) (hv64 : ∀ x ∈ vs, I64 x) :
    Calls Try.prog 19 #[.slice a n c, .slice a' n' c'] w fun e w' => Out w w' (fieldsR ws vs) e := by
  have HI := Lib.hid hi
  have HI' := Lib.hid hi'
  have HLEN := Lib.hid (show n = ws.length from hi.1)
  have HLEN' := Lib.hid (show n' = vs.length from hi'.1)
  have HV := Lib.hid hv64
  clear hi hi' hv64
  rcases mayC_cases ws with hC | hC | ⟨hC, hok, hl, hrn, hsz⟩
  · have hR : fieldsR ws vs = (3, []) := by unfold fieldsR; rw [hC, if_pos (by decide)]
    rw [hR]
    have HFC := Lib.hid hC
    clear hR hC
    go_enter Try.func19, Try.ntmps19
    go_wp2_with fail
    refine (May_any a n c ws _ HI.out hn).mono ?_
    rintro e w' ⟨he, rfl⟩
    rw [HFC.out] at he
    subst he
    go_wp2_with fail
    go_ret2
    exact Out.of_nil (Keeps.refl _ _)
  · have hR : fieldsR ws vs = (2, []) := by unfold fieldsR; rw [hC, if_pos (by decide)]
    rw [hR]
    have HFC := Lib.hid hC
    clear hR hC
    go_enter Try.func19, Try.ntmps19
    go_wp2_with fail
    refine (May_any a n c ws _ HI.out hn).mono ?_
    rintro e w' ⟨he, rfl⟩
    rw [HFC.out] at he
    subst he
    go_wp2_with fail
    go_ret2
    exact Out.of_nil (Keeps.refl _ _)
  · have HFC := Lib.hid hC
    by_cases hll : n = n'
    · subst hll
      obtain ⟨N, hN⟩ : ∃ N, N = sizeR ws := ⟨_, rfl⟩
      have hNs : N ≤ 257 := by have := totL_le ws hok; omega
      have hmk := run_make_ints 22 Try.underlying22 N (by omega)
      have HN := Lib.hid hN
      have HOK := Lib.hid hok
      have HTL := Lib.hid (show totL ws ≤ 16 * N by omega)
      have HLL := Lib.hid (show ws.length = vs.length by rw [← HLEN.out, ← HLEN'.out])
      have hn256 : n ≤ 256 := by rw [HLEN.out]; exact hl
      clear hN hC hok hl hrn hsz
      go_enter Try.func19, Try.ntmps19
      go_wp2_with fail
      refine (May_any a n c ws _ HI.out hn).mono ?_
      rintro e w' ⟨he, rfl⟩
      rw [HFC.out] at he
      subst he
      go_wp2_with fail
      refine (refSize_any a n c ws _ HI.out hn).mono ?_
      rintro e w' ⟨he, rfl⟩
      rw [← HN.out] at he
      subst he
      go_wp2_with fail
      go_loopw [8, 9] (fun vt vi wr => ∃ i : Nat, i ≤ n ∧ vi = .int .i64 i ∧ vt = .int .i64 (totL (ws.take i)) ∧ (∀ k, k < i → 0 ≤ vs.getD k 0 ∧ vs.getD k 0 < P2 (ws.getD k 0).toNat) ∧ Arr wr w.heap.size N (wordsOf N (bitsTo ws vs i 0)) ∧ Keeps [] w wr) (fun _ vi _ => n - (intOf vi).toNat)
      case atStart =>
        refine ⟨0, Nat.zero_le _, rfl, rfl, by intro k hk; omega, ?_, (Keeps.refl _ _).alloc _⟩
        have e : wordsOf N (bitsTo ws vs 0 0) = List.replicate N 0 := by unfold bitsTo; simp [allB, bl, wordsOf_nil]
        rw [e]
        have := arr_made w (List.replicate N 0) (by simp; omega)
        rwa [List.length_replicate] at this
      case round =>
        obtain ⟨i, hi, rfl, rfl, hall, hA, hk⟩ := hrel
        obtain ⟨W1, rfl⟩ : ∃ z, z = wr := ⟨_, rfl⟩
        have HALL := Lib.hid hall
        have HA := Lib.hid hA
        have HK := Lib.hid hk
        have htl := totL_le _ (okW_take HOK.out i)
        rw [List.length_take] at htl
        obtain ⟨t, ht⟩ : ∃ t, t = totL (ws.take i) := ⟨_, rfl⟩
        rw [← ht] at htl ⊢
        have htl2 : t ≤ 16000 := by omega
        have HT := Lib.hid ht
        clear ht htl hall hA
        by_cases hlt : i < n
        · have hix : i < ws.length := by rw [← HLEN.out]; exact hlt
          have hix' : i < vs.length := by rw [← HLEN'.out]; exact hlt
          have hli := HI.out.keep0 hk
          have hli' := HI'.out.keep0 hk
          rcases a with _ | ⟨lb, lo', ls⟩
          · have := hli.2.1 rfl; rw [this] at hix; simp at hix
          obtain ⟨rfl, hlc⟩ := hli.2.2 lb lo' ls rfl (List.ne_nil_of_length_pos (by omega))
          rcases a' with _ | ⟨mb, mo, ms⟩
          · have := hli'.2.1 rfl; rw [this] at hix'; simp at hix'
          obtain ⟨rfl, hlc'⟩ := hli'.2.2 mb mo ms rfl (List.ne_nil_of_length_pos (by omega))
          have hy := hlc i hix
          have hx := hlc' i hix'
          obtain ⟨x, ex⟩ : ∃ x, x = vs.getD i 0 := ⟨_, rfl⟩
          have hjm := HOK.out _ (getD_mem hix)
          obtain ⟨wd, ej⟩ := Int.eq_ofNat_of_zero_le (show 0 ≤ ws.getD i 0 by omega)
          rw [← ex] at hx
          rw [ej] at hy hjm
          have hw1 : 1 ≤ wd := by omega
          have hw16 : wd ≤ 16 := by omega
          obtain ⟨Q, hQ⟩ : ∃ Q, Q = P2 wd := ⟨_, rfl⟩
          have hQb := P2_le hw16
          rw [← hQ] at hQb
          have HQ := Lib.hid hQ
          have EX := Lib.hid ex
          have EJ := Lib.hid ej
          have HIX := Lib.hid hix
          have HIX' := Lib.hid hix'
          have HXX := Lib.hid (HV.out x (by rw [ex]; exact getD_mem hix'))
          have hst : totL (ws.take (i + 1)) = t + wd := by rw [take_snoc hix, totL_snoc, ej, ← HT.out, Int.toNat_natCast]
          have HST := Lib.hid hst
          have htw := totL_take_lt hix ej
          have HTW := Lib.hid htw
          clear hlc hlc' ex ej hjm hix hix' hQ hst htw hli hli' hk
          by_cases hx0 : x < 0
          · have hR : fieldsR ws vs = (2, []) := by
              unfold fieldsR
              rw [if_neg (by rw [HFC.out]; decide), if_neg (fitW_bad HIX'.out (by rw [← EX.out]; omega))]
            have HR := Lib.hid hR
            clear hR
            go_wp2_with fail
            go_quiet ((go_at_call 39; refine Calls.quiet_of_same (same_flip (power_any wd Q HQ.out hw16 _))))
            go_wp2_with fail
            go_ret2
            rw [HR.out]
            exact Out.of_nil (HK.out.drewN _)
          · have hx0b : decide (x < 0) = false := by simpa using hx0
            by_cases hxq : Q ≤ x
            · have hR : fieldsR ws vs = (2, []) := by
                unfold fieldsR
                rw [if_neg (by rw [HFC.out]; decide), if_neg (fitW_bad HIX'.out (by rw [← EX.out, EJ.out, Int.toNat_natCast, ← HQ.out]; omega))]
              have HR := Lib.hid hR
              clear hR hx0
              go_wp2_with fail
              go_quiet ((go_at_call 39; refine Calls.quiet_of_same (same_flip (power_any wd Q HQ.out hw16 _))))
              go_wp2_with fail
              go_ret2
              rw [HR.out]
              exact Out.of_nil (HK.out.drewN _)
            · have hxqb : decide (Q ≤ x) = false := by simpa using hxq
              have hxl : 0 ≤ x := by omega
              have hxu : x < Q := by omega
              have hxu2 : x ≤ 65535 := by omega
              clear hx0 hxq
              go_wp2_with fail
              go_quiet ((go_at_call 39; refine Calls.quiet_of_same (same_flip (power_any wd Q HQ.out hw16 _))))
              go_wp2_with fail
              have HXL := Lib.hid (show x = vs.getD i 0 ∧ 0 ≤ x ∧ x < Q from ⟨EX.out, hxl, hxu⟩)
              go_loopw [8, 10] (fun vt vb wq => ∃ b : Nat, b ≤ wd ∧ vb = .int .i64 ((b : Int) - 1) ∧ vt = .int .i64 ((t + (wd - b) : Nat) : Int) ∧ Arr wq w.heap.size N (wordsOf N (bitsTo ws vs i (wd - b))) ∧ Keeps [] w wq ∧ Keeps [w.heap.size] W1 wq) (fun _ vb _ => (intOf vb + 1).toNat)
              case atStart => exact ⟨wd, Nat.le_refl _, rfl, by rw [Nat.sub_self, Nat.add_zero], by rw [Nat.sub_self]; exact HA.out.keep (F := []) ((Keeps.refl _ _).drewN _) (by simp), HK.out.drewN _, (Keeps.refl _ _).drewN _⟩
              case round =>
                obtain ⟨b, hb, rfl, rfl, hA, hk, hkw⟩ := hrel
                have HA2 := Lib.hid hA
                have HK2 := Lib.hid hk
                have HKW := Lib.hid hkw
                clear hA hkw
                obtain ⟨p, hp⟩ : ∃ p, p = t + (wd - b) := ⟨_, rfl⟩
                rw [← hp]
                have hpl : p ≤ 16016 := by omega
                have HP := Lib.hid hp
                clear hp
                rcases b with _ | b
                · have hA3 := HA2.out
                  rw [Nat.sub_zero, ← bitsTo_field HLL.out HIX.out EJ.out] at hA3
                  have HA3 := Lib.hid hA3
                  clear hA3
                  go_wp2_with fail
                  go_roundw
                  case rel =>
                    refine ⟨i + 1, by omega, by go_num, by rw [HST.out, HP.out, Nat.sub_zero], ?_, HA3.out, HK2.out⟩
                    intro k hk
                    by_cases hki : k < i
                    · exact HALL.out k hki
                    · obtain rfl : k = i := by omega
                      have h2 := HXL.out
                      rw [← EX.out, EJ.out, Int.toNat_natCast, ← HQ.out]
                      omega
                  case measure => simp [intOf]; omega
                · have hlen : (bitsTo ws vs i (wd - (b + 1))).length = p := by rw [bitsTo_len HLL.out, ← HT.out, HP.out]
                  have hpN : p < 16 * N := by have h1 := HTW.out; have h2 := HTL.out; rw [← HT.out] at h1; have h3 := HP.out; omega
                  have hrb := ref_bit N (bitsTo ws vs i (wd - (b + 1))) (bitsTo_bits _ _ _ _) (by rw [hlen]; exact hpN)
                  rw [hlen] at hrb
                  obtain ⟨y0, y1, hb1, hb0⟩ := hrb
                  have hnext := bitsTo_next (vs := vs) EJ.out (show b < wd by omega)
                  have hli' := HI'.out.keep0 hk
                  have hx2 := (hli'.2.2 mb mo none rfl (List.ne_nil_of_length_pos (by have := HIX'.out; omega))).2 i HIX'.out
                  rw [← EX.out] at hx2 hnext
                  have hqN : p / 16 < N := by omega
                  obtain ⟨q, hq⟩ : ∃ q, q = p / 16 := ⟨_, rfl⟩
                  rw [← hq] at y0 y1 hb1 hqN
                  have hcl := HA2.out.cell (i := q) (by rw [wordsOf_len]; exact hqN)
                  have hfz := HA2.out.frozen q
                  obtain ⟨y, hy⟩ : ∃ y, y = (wordsOf N (bitsTo ws vs i (wd - (b + 1)))).getD q 0 := ⟨_, rfl⟩
                  rw [← hy] at y0 y1 hb1 hcl
                  obtain ⟨m, hm⟩ : ∃ m, m = p % 16 := ⟨_, rfl⟩
                  obtain ⟨r, hr⟩ : ∃ r, r = 15 - m := ⟨_, rfl⟩
                  have hmr : m ≤ 15 := by omega
                  have hr16 : r ≤ 15 := by omega
                  rw [← hm, ← hr] at hb1
                  have hPb := P2_le (j := r) (by omega)
                  have hPp := P2_pos r
                  obtain ⟨R, hR⟩ : ∃ R, R = P2 r := ⟨_, rfl⟩
                  rw [← hR] at hPb hPp hb1
                  have hBp := P2_pos b
                  have hBl := P2_le (j := b) (by omega)
                  obtain ⟨B, hB⟩ : ∃ B, B = P2 b := ⟨_, rfl⟩
                  rw [← hB] at hnext hBp hBl
                  have hwq : IntKind.i64.wrap ((p : Int) / 16) = (q : Int) := by rw [IntKind.wrap_i64]; omega
                  have hwm : (p : Int).tmod 16 = (m : Int) := by rw [Int.tmod_eq_emod_of_nonneg (by omega)]; omega
                  have hwr : IntKind.i64.wrap (15 - (m : Int)) = (r : Int) := by rw [IntKind.wrap_i64]; omega
                  have hwy : IntKind.i64.wrap (y + R) = y + R := by rw [IntKind.wrap_i64]; omega
                  obtain ⟨D, hD⟩ : ∃ D, x / B = D := ⟨_, rfl⟩
                  have hD0 : 0 ≤ D := by rw [← hD]; exact Int.ediv_nonneg hxl (by omega)
                  have hD1 : D ≤ 65535 := by rw [← hD]; exact Int.le_trans (Int.ediv_le_self _ hxl) hxu2
                  rw [hD] at hnext
                  have HB := Lib.hid hB
                  have HRR := Lib.hid hR
                  have HB1 := Lib.hid hb1
                  have HB0 := Lib.hid hb0
                  have HNX := Lib.hid hnext
                  have HYL := Lib.hid (show q < (wordsOf N (bitsTo ws vs i (wd - (b + 1)))).length by rw [wordsOf_len]; exact hqN)
                  clear hlen hb1 hb0 hnext hli' hq hy hm hr hR hB hpN hk
                  obtain ⟨W2, rfl⟩ : ∃ z, z = wr := ⟨_, rfl⟩
                  by_cases hd : D % 2 = 1
                  · have HD := Lib.hid hd
                    go_wp2_with fail
                    go_quiet ((go_at_call 39; refine Calls.quiet_of_same (same_flip (power_any b B HB.out (by omega) _))))
                    go_wp2_with fail
                    generalize hW3 : W2.drewN _ = W3
                    have hk3 : Keeps [] W2 W3 := by rw [← hW3]; exact (Keeps.refl _ _).drewN _
                    have hcl3 : W3.cell? ⟨w.heap.size, q, none⟩ = some (.int .i64 y) := by rw [← hW3]; exact hcl
                    have hfz3 : W3.frozen? ⟨w.heap.size, q, none⟩ = false := by rw [← hW3]; exact hfz
                    have HK3 := Lib.hid hk3
                    clear hcl hfz hW3 hx2 hk3
                    go_still_tail 11, (by kernel_rfl)
                    still_call (same_flip (power_any r R HRR.out (by omega) _))
                    repeat still_step
                    refine wpStill_nil ?_
                    go_wp2_with fail
                    go_roundw
                    case measure => simp [intOf]
                    have k3 := HK3.out
                    refine ⟨b, by omega, rfl, by rw [HP.out, show ((t + (wd - (b + 1)) : Nat) : Int) + 1 = ((t + (wd - b) : Nat) : Int) by omega], ?_, ((HK2.out.trans0 k3).setCell (.inr (Nat.le_refl _)) _).drew, ((HKW.out.trans0 k3).setCell (.inl (by simp)) _).drew⟩
                    rw [HNX.out, HD.out, ← HB1.out]
                    exact (((HA2.out.keep k3 (by simp)).set HYL.out (y + R)).keep (F := []) (Keeps.refl _ _).drew (by simp))
                  · have hd0 : D % 2 = 0 := by omega
                    have HD := Lib.hid hd0
                    clear hd
                    go_wp2_with fail
                    go_quiet ((go_at_call 39; refine Calls.quiet_of_same (same_flip (power_any b B HB.out (by omega) _))))
                    go_wp2_with fail
                    go_roundw
                    case measure => simp [intOf]
                    refine ⟨b, by omega, rfl, by rw [HP.out, show ((t + (wd - (b + 1)) : Nat) : Int) + 1 = ((t + (wd - b) : Nat) : Int) by omega], ?_, HK2.out.drewN _, HKW.out.drewN _⟩
                    rw [HNX.out, HD.out, ← HB0.out]
                    exact HA2.out.keep (F := []) ((Keeps.refl _ _).drewN _) (by simp)
        · have hin : i = n := by omega
          have hR : fieldsR ws vs = (0, wordsOf N (allB ws vs)) := by
            unfold fieldsR
            rw [if_neg (by rw [HFC.out]; decide), if_pos ⟨HLL.out, fun k hk => HALL.out k (by have := HLEN'.out; omega)⟩, HN.out]
          have hA3 := HA.out
          have e : bitsTo ws vs i 0 = allB ws vs := by
            unfold bitsTo
            rw [List.take_of_length_le (by rw [hin, HLEN.out]; exact Nat.le_refl _), List.take_of_length_le (by rw [hin, HLEN'.out]; exact Nat.le_refl _)]
            simp [bl]
          rw [e] at hA3
          have HR := Lib.hid hR
          have HA3 := Lib.hid hA3
          clear hin hR hA3 e hk
          go_wp2_with fail
          go_ret2
          rw [HR.out]
          exact Out.of_arr (by rw [wordsOf_len]) HA3.out HK.out
    · have hR : fieldsR ws vs = (2, []) := by
        unfold fieldsR
        rw [if_neg (by rw [hC]; decide), if_neg (fun hf => hll (by rw [HLEN.out, HLEN'.out]; exact hf.1))]
      rw [hR]
      have hll2 : ((n : Int) != n') = true := by simp; omega
      clear hR hC hll hok hl hrn hsz
      go_enter Try.func19, Try.ntmps19
      go_wp2_with fail
      refine (May_any a n c ws _ HI.out hn).mono ?_
      rintro e w' ⟨he, rfl⟩
      rw [HFC.out] at he
      subst he
      go_wp2_with fail
      go_ret2
      exact Out.of_nil (Keeps.refl _ _)
end Go.Proofs.Ytfmegladcjcjgaa
