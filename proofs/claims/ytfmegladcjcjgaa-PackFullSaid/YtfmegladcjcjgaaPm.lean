/- The document's own Split: its contract. -/
import Derived.Test.YtfmegladcjcjgaaPj
import Derived.Test.YtfmegladcjcjgaaPl
import Derived.Test.YtfmegladcjcjgaaPf
namespace Go.Proofs.Ytfmegladcjcjgaa
open Go.RowKit
set_option linter.unusedVariables false

theorem firstC_word {k : Nat} {xs : List Int} {i : Nat} (hi : i < k) (hx : i < xs.length) (h : ¬ (0 ≤ xs.getD i 0 ∧ xs.getD i 0 ≤ 65535)) : firstC k xs = 2 := by
  unfold firstC
  rw [if_pos]
  intro hh
  refine h (hh _ ?_)
  have h1 : (xs.take k)[i]? = some (xs.getD i 0) := by
    rw [List.getElem?_take, if_pos hi]
    simp [List.getD, hx]
  exact List.mem_of_getElem? h1
theorem firstC_short {k : Nat} {xs : List Int} (h : ∀ x ∈ xs, 0 ≤ x ∧ x ≤ 65535) (hl : xs.length < k) : firstC k xs = 7 := by
  unfold firstC
  rw [if_neg (fun hn => hn (fun x hx => h x (List.mem_of_mem_take hx))), if_pos hl]
theorem firstC_ok {k : Nat} {xs : List Int} (h : ∀ x ∈ xs.take k, 0 ≤ x ∧ x ≤ 65535) (hl : k ≤ xs.length) : firstC k xs = 0 := by
  unfold firstC
  rw [if_neg (fun hn => hn h), if_neg (by omega)]
theorem splitR_first {ws xs : List Int} {z : Int} (hC : mayC ws = 0) (h : firstC (sizeR ws) xs = z) (hz : z ≠ 0) : splitR ws xs = (z, []) := by
  unfold splitR
  rw [if_neg (by rw [hC]; decide), h, if_pos hz]
theorem splitR_ok {ws xs : List Int} (hC : mayC ws = 0) (h : firstC (sizeR ws) xs = 0) : splitR ws xs = (0, splitL ws (bitsOf (xs.take (sizeR ws)))) := by
  unfold splitR
  rw [if_neg (by rw [hC]; decide), h, if_neg (by decide)]
theorem one_snoc {w' : World} {v' : Value} {l L : Nat} {base : Nat} {ys : List Int} {z : Int} (hL : L = l + 1) (hl : (ys ++ [z]).length = L)
    (ho : w'.ownsRow base 3 1 v' (l + 1) (ys.map (Value.int .i64) ++ [.int .i64 z])) (hne : v' ≠ .slice none 0 0) : ∃ g c, v' = .slice (some ⟨g, 0, none⟩) L c ∧ base ≤ g ∧ Arr w' g c (ys ++ [z]) := by
  subst hL
  have e : ys.map (Value.int .i64) ++ [.int .i64 z] = (ys ++ [z]).map (.int .i64) := by simp
  rw [e] at ho
  obtain ⟨g, c, rfl, h1, h2⟩ := Arr.of_own ho hne
  exact ⟨g, c, by rw [hl], h1, h2⟩

set_option maxHeartbeats 2000000 in
set_option maxRecDepth 100000 in
theorem refSplit_any (a a' : Option Addr) (n c n' c' : Nat) (ws xs : List Int) (w : World) (hi : IntsAt w a n ws) (hi' : IntsAt w a' n' xs) (hn : n ≤ 1000000) (hn' : n' ≤ maxLen) :
    Calls Try.prog 21 #[.slice a n c, .slice a' n' c'] w fun e w' => Out w w' (splitR ws xs) e := by
  unfold maxLen at hn'
  have HI := Lib.hid hi
  have HI' := Lib.hid hi'
  have HLEN := Lib.hid (show n = ws.length from hi.1)
  have HLEN' := Lib.hid (show n' = xs.length from hi'.1)
  clear hi hi'
  rcases mayC_cases ws with hC | hC | ⟨hC, hok, hl, hrn, hsz⟩
  · have hR : splitR ws xs = (3, []) := by unfold splitR; rw [hC, if_pos (by decide)]
    rw [hR]
    have HFC := Lib.hid hC
    clear hR hC
    go_enter Try.func21, Try.ntmps21
    go_wp2_with fail
    refine (May_any a n c ws _ HI.out hn).mono ?_
    rintro e w' ⟨he, rfl⟩
    rw [HFC.out] at he
    subst he
    go_wp2_with fail
    go_ret2
    exact Out.of_nil (Keeps.refl _ _)
  · have hR : splitR ws xs = (2, []) := by unfold splitR; rw [hC, if_pos (by decide)]
    rw [hR]
    have HFC := Lib.hid hC
    clear hR hC
    go_enter Try.func21, Try.ntmps21
    go_wp2_with fail
    refine (May_any a n c ws _ HI.out hn).mono ?_
    rintro e w' ⟨he, rfl⟩
    rw [HFC.out] at he
    subst he
    go_wp2_with fail
    go_ret2
    exact Out.of_nil (Keeps.refl _ _)
  · have HFC := Lib.hid hC
    obtain ⟨m, hN⟩ : ∃ N, N = sizeR ws := ⟨_, rfl⟩
    have hNs : m ≤ 257 := by have := totL_le ws hok; omega
    have HN := Lib.hid hN
    have HOK := Lib.hid hok
    have HTL := Lib.hid (show totL ws ≤ 16 * m by omega)
    have hn256 : n ≤ 256 := by rw [HLEN.out]; exact hl
    obtain ⟨R, hR⟩ : ∃ R, R = splitR ws xs := ⟨_, rfl⟩
    rw [← hR]
    have HR := Lib.hid hR
    obtain ⟨i0, hii, hz0, hz1, hz2⟩ := info_parts Try.info3
    clear hN hC hok hl hrn hsz hR
    go_enter Try.func21, Try.ntmps21
    go_wp2_with fail
    refine (May_any a n c ws _ HI.out hn).mono ?_
    rintro e w' ⟨he, rfl⟩
    rw [HFC.out] at he
    subst he
    go_wp2_with fail
    refine (refSize_any a n c ws _ HI.out hn).mono ?_
    rintro e w' ⟨he, rfl⟩
    rw [← HN.out] at he
    subst he
    go_wp2_with fail
    go_loop [8] (fun vi => ∃ i : Nat, i ≤ n' ∧ i ≤ m ∧ vi = .int .i64 i ∧ ∀ x ∈ xs.take i, 0 ≤ x ∧ x ≤ 65535) (fun vi => m - (intOf vi).toNat)
    case atStart => exact ⟨0, Nat.zero_le _, Nat.zero_le _, rfl, by simp⟩
    case round =>
      obtain ⟨i, hi, hik, rfl, hall⟩ := hrel
      have HALL := Lib.hid hall
      clear hall
      by_cases hlt : i < n'
      · by_cases hltk : i < m
        · have hix : i < xs.length := by rw [← HLEN'.out]; exact hlt
          rcases a' with _ | ⟨lb, lo', ls⟩
          · have := HI'.out.2.1 rfl; rw [this] at hix; simp at hix
          obtain ⟨rfl, hlc⟩ := HI'.out.2.2 lb lo' ls rfl (List.ne_nil_of_length_pos (by omega))
          have hx := hlc i hix
          obtain ⟨x, ex⟩ : ∃ x, x = xs.getD i 0 := ⟨_, rfl⟩
          rw [← ex] at hx
          have EX := Lib.hid ex
          have HIX := Lib.hid hix
          clear hlc ex hix
          by_cases hx0 : x < 0
          · have hR := HR.out
            rw [splitR_first HFC.out (firstC_word (by rw [← HN.out]; exact hltk) HIX.out (by rw [← EX.out]; omega)) (by decide)] at hR
            have HR2 := Lib.hid hR
            clear hR
            go_wp2_with fail
            go_ret2
            rw [HR2.out]
            exact Out.of_nil (Keeps.refl _ _)
          · have hx0b : decide (x < 0) = false := by simpa using hx0
            by_cases hx1 : 65535 < x
            · have hR := HR.out
              rw [splitR_first HFC.out (firstC_word (by rw [← HN.out]; exact hltk) HIX.out (by rw [← EX.out]; omega)) (by decide)] at hR
              have HR2 := Lib.hid hR
              clear hR hx0
              go_wp2_with fail
              go_ret2
              rw [HR2.out]
              exact Out.of_nil (Keeps.refl _ _)
            · have hx1b : decide (65535 < x) = false := by simpa using hx1
              have hxb := Lib.hid (show 0 ≤ x ∧ x ≤ 65535 by omega)
              clear hx0 hx1
              go_wp2_with fail
              go_round
              case rel => exact ⟨i + 1, by omega, by omega, by go_num, take_ok HIX.out HALL.out (by rw [← EX.out]; exact hxb.out)⟩
              case measure => simp [intOf]; omega
        · have hik2 : i = m := by omega
          subst hik2
          clear hltk
          have hR := HR.out
          have hil : i ≤ xs.length := by rw [← HLEN'.out]; exact hi
          rw [splitR_ok HFC.out (by rw [← HN.out]; exact firstC_ok HALL.out hil), ← HN.out] at hR
          have HR2 := Lib.hid hR
          obtain ⟨B, hB⟩ : ∃ B, B = bitsOf (xs.take i) := ⟨_, rfl⟩
          have hBb : IsBits B := by rw [hB]; exact bitsOf_bits _
          have HB := Lib.hid hB
          have HBB := Lib.hid hBb
          have HBL := Lib.hid (show B.length = 16 * i by rw [hB, bitsOf_len, List.length_take, show min i xs.length = i by omega])
          have HIL := Lib.hid hil
          clear hR hil hB hBb
          go_wp2_with fail
          go_loopw [9, 10, 11] (fun vo vt vj wr => ∃ j g c : Nat, j ≤ n ∧ vj = .int .i64 j ∧ vt = .int .i64 (totL (ws.take j)) ∧ vo = .slice (some ⟨g, 0, none⟩) j c ∧ Arr wr g c (splitL (ws.take j) B) ∧ w.heap.size ≤ g ∧ Keeps [] w wr) (fun _ _ vj _ => n - (intOf vj).toNat)
          case atStart =>
            refine ⟨0, w.heap.size, 0, Nat.zero_le _, rfl, rfl, rfl, ?_, Nat.le_refl _, (Keeps.refl _ _).alloc _⟩
            exact ⟨⟨#[], heap_alloc_new w _, by simp [splitL], rfl⟩, by simp [splitL], by unfold maxLen; omega⟩
          case round =>
            obtain ⟨j, g, c1, hj, rfl, rfl, rfl, hA, hg, hk⟩ := hrel
            obtain ⟨W1, rfl⟩ : ∃ z, z = wr := ⟨_, rfl⟩
            have HA := Lib.hid hA
            have HK := Lib.hid hk
            have htl := totL_le _ (okW_take HOK.out j)
            rw [List.length_take] at htl
            obtain ⟨t, ht⟩ : ∃ t, t = totL (ws.take j) := ⟨_, rfl⟩
            rw [← ht] at htl ⊢
            have htl2 : t ≤ 16000 := by omega
            have HT := Lib.hid ht
            clear ht htl hA
            by_cases hjn : j < n
            · have hjx : j < ws.length := by rw [← HLEN.out]; exact hjn
              have hli := HI.out.keep0 hk
              rcases a with _ | ⟨mb, mo, ms⟩
              · have := hli.2.1 rfl; rw [this] at hjx; simp at hjx
              obtain ⟨rfl, hlc⟩ := hli.2.2 mb mo ms rfl (List.ne_nil_of_length_pos (by omega))
              have hy := hlc j hjx
              have hjm := HOK.out _ (getD_mem hjx)
              obtain ⟨wd, ej⟩ := Int.eq_ofNat_of_zero_le (show 0 ≤ ws.getD j 0 by omega)
              rw [ej] at hy hjm
              have hw1 : 1 ≤ wd := by omega
              have hw16 : wd ≤ 16 := by omega
              have hst : totL (ws.take (j + 1)) = t + wd := by rw [take_snoc hjx, totL_snoc, ej, ← HT.out, Int.toNat_natCast]
              have hsp : splitL (ws.take (j + 1)) B = splitL (ws.take j) B ++ [valB ((B.drop t).take wd)] := by rw [take_snoc hjx, splitL_snoc, ej, ← HT.out, Int.toNat_natCast]
              have HST := Lib.hid hst
              have HSP := Lib.hid hsp
              have HTW := Lib.hid (totL_take_lt hjx ej)
              have EJ := Lib.hid ej
              have HJX := Lib.hid hjx
              clear hlc hjm ej hjx hst hsp hli
              go_wp2_with fail
              go_loopw [10, 12, 13] (fun vt vx vb wq => ∃ b : Nat, b ≤ wd ∧ vb = .int .i64 b ∧ vt = .int .i64 ((t + b : Nat) : Int) ∧ vx = .int .i64 (valB ((B.drop t).take b)) ∧ Keeps [] W1 wq) (fun _ _ vb _ => wd - (intOf vb).toNat)
              case atStart => exact ⟨0, Nat.zero_le _, rfl, rfl, by simp [valB], Keeps.refl _ _⟩
              case round =>
                obtain ⟨b, hb, rfl, rfl, rfl, hkq⟩ := hrel
                obtain ⟨W2, rfl⟩ : ∃ z, z = wr := ⟨_, rfl⟩
                have HKQ := Lib.hid hkq
                obtain ⟨p, hp⟩ : ∃ p, p = t + b := ⟨_, rfl⟩
                rw [← hp]
                have hpl : p ≤ 16016 := by omega
                have HP := Lib.hid hp
                obtain ⟨V, hV⟩ : ∃ V, V = valB ((B.drop t).take b) := ⟨_, rfl⟩
                rw [← hV]
                have hVb := valB_bd ((B.drop t).take b) (fun y hy => HBB.out y (List.mem_of_mem_drop (List.mem_of_mem_take hy)))
                rw [← hV] at hVb
                have hV0 := hVb.1
                have hV1 : V ≤ 65536 := by
                  have := P2_le (j := ((B.drop t).take b).length) (by rw [List.length_take]; omega)
                  omega
                have HV := Lib.hid hV
                have hyw : W2.cell? ⟨mb, mo + j, none⟩ = some (.int .i64 (wd : Int)) := by
                  have h1 := ((HI.out.keep0 (HK.out.trans0 hkq)).2.2 mb mo none rfl (List.ne_nil_of_length_pos (by have := HJX.out; omega))).2 j HJX.out
                  rw [EJ.out] at h1
                  exact h1
                clear hp hV hVb
                by_cases hbw : b < wd
                · have hpB : p < 16 * i := by have h1 := HTW.out; have h2 := HTL.out; rw [← HT.out] at h1; have h3 := HP.out; omega
                  obtain ⟨q, hq⟩ : ∃ q, q = p / 16 := ⟨_, rfl⟩
                  have hqi : q < i := by omega
                  have hqx : q < xs.length := Nat.lt_of_lt_of_le hqi HIL.out
                  rcases a' with _ | ⟨lb, lo', ls⟩
                  · have := HI'.out.2.1 rfl; rw [this] at hqx; simp at hqx
                  obtain ⟨rfl, hlc⟩ := (HI'.out.keep0 (HK.out.trans0 hkq)).2.2 lb lo' ls rfl (List.ne_nil_of_length_pos (by omega))
                  have hyx := hlc q hqx
                  have hyb := take_word HALL.out hqi HIL.out
                  obtain ⟨y, ey⟩ : ∃ y, y = xs.getD q 0 := ⟨_, rfl⟩
                  rw [← ey] at hyx hyb
                  obtain ⟨hy0, hy1⟩ := hyb
                  obtain ⟨mm, hm⟩ : ∃ m, m = p % 16 := ⟨_, rfl⟩
                  obtain ⟨r, hr⟩ : ∃ r, r = 15 - mm := ⟨_, rfl⟩
                  have hr16 : r ≤ 15 := by omega
                  have hPp := P2_pos r
                  have hPb := P2_le (j := r) (by omega)
                  have hbit : B.getD p 0 = y / P2 r % 2 := by
                    rw [HB.out, bitsOf_getD _ _ (by rw [List.length_take]; omega), ← hq, hr, hm, ey]
                    congr 2
                    simp only [List.getD, List.getElem?_take, if_pos hqi]
                  have hstep : valB ((B.drop t).take (b + 1)) = 2 * V + y / P2 r % 2 := by
                    rw [take_snoc (by rw [List.length_drop, HBL.out]; have := HP.out; omega), valB_snoc, ← HV.out, ← hbit, HP.out]
                    congr 1
                    simp [List.getD]
                  obtain ⟨Q, hQ⟩ : ∃ Q, Q = P2 r := ⟨_, rfl⟩
                  rw [← hQ] at hPp hPb hstep
                  obtain ⟨D, hD⟩ : ∃ D, y / Q = D := ⟨_, rfl⟩
                  have hD0 : 0 ≤ D := by rw [← hD]; exact Int.ediv_nonneg hy0 (by omega)
                  have hD1 : D ≤ 65535 := by rw [← hD]; exact Int.le_trans (Int.ediv_le_self _ hy0) hy1
                  rw [hD] at hstep
                  obtain ⟨d, hd⟩ : ∃ d, D % 2 = d := ⟨_, rfl⟩
                  have hd0 : 0 ≤ d := by omega
                  have hd1 : d ≤ 1 := by omega
                  rw [hd] at hstep
                  have hwq : IntKind.i64.wrap ((p : Int) / 16) = (q : Int) := by rw [IntKind.wrap_i64]; omega
                  have hwm : (p : Int).tmod 16 = (mm : Int) := by rw [Int.tmod_eq_emod_of_nonneg (by omega)]; omega
                  have hwr : IntKind.i64.wrap (15 - (mm : Int)) = (r : Int) := by rw [IntKind.wrap_i64]; omega
                  have hwd : D.tmod 2 = d := by rw [Int.tmod_eq_emod_of_nonneg hD0]; exact hd
                  have HQ := Lib.hid hQ
                  have HSTEP := Lib.hid hstep
                  clear hlc ey hq hm hr hbit hstep hQ hqx hpB hkq
                  go_wp2_with fail
                  go_quiet ((go_at_call 39; refine Calls.quiet_of_same (same_flip (power_any r Q HQ.out (by omega) _))))
                  go_wp2_with fail
                  go_roundw
                  case rel => exact ⟨b + 1, by omega, by go_num, by rw [HP.out]; go_num, by rw [HSTEP.out], HKQ.out.drewN _⟩
                  case measure => simp [intOf]; omega
                · have hbwd : b = wd := by omega
                  have hpst : p = totL (ws.take (j + 1)) := by rw [HST.out, HP.out, hbwd]
                  have hsp2 : splitL (ws.take (j + 1)) B = splitL (ws.take j) B ++ [V] := by rw [HSP.out, HV.out, hbwd]
                  have hjl : (splitL (ws.take j) B).length = j := by rw [splitL_len, List.length_take]; have := HJX.out; omega
                  have hown := ownsRow_keep (F := []) ((HA.out.keep hkq (by simp)).own hg j hjl.symm) ((Keeps.refl _ _).alloc (.cells #[.int .i64 V] 3)) (by simp)
                  have HO := Lib.hid hown
                  have HPST := Lib.hid hpst
                  have HSP2 := Lib.hid hsp2
                  have HJL := Lib.hid hjl
                  have HWS := Lib.hid (HK.out.trans0 hkq).size
                  clear hbwd hpst hsp2 hjl hown hkq
                  go_wp2_with (at_builtin; refine wpList_append_new _ rfl (.tmp 79) (.tmp 81) 22 rfl w.heap.size 3 i0 (.int .i64 0) 1 8 Try.underlying22 hii hz0 hz1 hz2 rfl (by decide) (.slice (some ⟨g, 0, none⟩) j c1) j _ rfl HO.out ⟨W2.heap.size, 0, none⟩ 1 1 [.int .i64 V] rfl rfl (cell_one_new _ _ _) (by simp [Value.oneCell']) (by unfold maxLen; omega) (by omega) (by simp; have := HWS.out; omega) ?_; intro v' w2 q1 q2 q3 q4)
                  obtain ⟨g2, c2, rfl, hg2, hA2⟩ := one_snoc rfl (by rw [List.length_append, HJL.out]; rfl) q1 (fun e => absurd (q3.1 e).2 (by omega))
                  have k2 : Keeps [] w w2 := ((HK.out.trans0 HKQ.out).alloc _).grown q2 (by intro k e; injection e with e; right; rw [← e]; exact hg)
                  have HA2 := Lib.hid hA2
                  have K2 := Lib.hid k2
                  clear q1 q2 q3 q4 hA2 k2
                  go_wp2_with fail
                  go_roundw
                  case rel => exact ⟨j + 1, g2, c2, by omega, by go_num, by rw [HPST.out], rfl, by rw [HSP2.out]; exact HA2.out, hg2, K2.out⟩
                  case measure => simp [intOf]; omega
            · have hjn2 : j = n := by omega
              have hA3 := HA.out
              have hfl : ws.take j = ws := List.take_of_length_le (by rw [hjn2, HLEN.out]; exact Nat.le_refl _)
              rw [hfl, HB.out] at hA3
              have HA3 := Lib.hid hA3
              have HJL := Lib.hid (show j = (splitL ws (bitsOf (xs.take i))).length by rw [splitL_len, hjn2, HLEN.out])
              clear hA3 hfl hk
              go_wp2_with fail
              go_ret2
              rw [HR2.out]
              exact Out.of_arr HJL.out HA3.out HK.out
      · have hin : i = n' := by omega
        by_cases hnk : n' < m
        · have hR := HR.out
          have hall2 := HALL.out
          rw [List.take_of_length_le (by have := HLEN'.out; omega)] at hall2
          rw [splitR_first HFC.out (firstC_short hall2 (by rw [← HLEN'.out, ← HN.out]; exact hnk)) (by decide)] at hR
          have HR2 := Lib.hid hR
          subst hin
          clear hall2 hR
          go_wp2_with fail
          go_ret2
          rw [HR2.out]
          exact Out.of_nil (Keeps.refl _ _)
        · have hik2 : i = m := by omega
          subst hik2
          clear hin
          have hR := HR.out
          have hil : i ≤ xs.length := by rw [← HLEN'.out]; exact hi
          rw [splitR_ok HFC.out (by rw [← HN.out]; exact firstC_ok HALL.out hil), ← HN.out] at hR
          have HR2 := Lib.hid hR
          obtain ⟨B, hB⟩ : ∃ B, B = bitsOf (xs.take i) := ⟨_, rfl⟩
          have hBb : IsBits B := by rw [hB]; exact bitsOf_bits _
          have HB := Lib.hid hB
          have HBB := Lib.hid hBb
          have HBL := Lib.hid (show B.length = 16 * i by rw [hB, bitsOf_len, List.length_take, show min i xs.length = i by omega])
          have HIL := Lib.hid hil
          clear hR hil hB hBb
          go_wp2_with fail
          go_loopw [9, 10, 11] (fun vo vt vj wr => ∃ j g c : Nat, j ≤ n ∧ vj = .int .i64 j ∧ vt = .int .i64 (totL (ws.take j)) ∧ vo = .slice (some ⟨g, 0, none⟩) j c ∧ Arr wr g c (splitL (ws.take j) B) ∧ w.heap.size ≤ g ∧ Keeps [] w wr) (fun _ _ vj _ => n - (intOf vj).toNat)
          case atStart =>
            refine ⟨0, w.heap.size, 0, Nat.zero_le _, rfl, rfl, rfl, ?_, Nat.le_refl _, (Keeps.refl _ _).alloc _⟩
            exact ⟨⟨#[], heap_alloc_new w _, by simp [splitL], rfl⟩, by simp [splitL], by unfold maxLen; omega⟩
          case round =>
            obtain ⟨j, g, c1, hj, rfl, rfl, rfl, hA, hg, hk⟩ := hrel
            obtain ⟨W1, rfl⟩ : ∃ z, z = wr := ⟨_, rfl⟩
            have HA := Lib.hid hA
            have HK := Lib.hid hk
            have htl := totL_le _ (okW_take HOK.out j)
            rw [List.length_take] at htl
            obtain ⟨t, ht⟩ : ∃ t, t = totL (ws.take j) := ⟨_, rfl⟩
            rw [← ht] at htl ⊢
            have htl2 : t ≤ 16000 := by omega
            have HT := Lib.hid ht
            clear ht htl hA
            by_cases hjn : j < n
            · have hjx : j < ws.length := by rw [← HLEN.out]; exact hjn
              have hli := HI.out.keep0 hk
              rcases a with _ | ⟨mb, mo, ms⟩
              · have := hli.2.1 rfl; rw [this] at hjx; simp at hjx
              obtain ⟨rfl, hlc⟩ := hli.2.2 mb mo ms rfl (List.ne_nil_of_length_pos (by omega))
              have hy := hlc j hjx
              have hjm := HOK.out _ (getD_mem hjx)
              obtain ⟨wd, ej⟩ := Int.eq_ofNat_of_zero_le (show 0 ≤ ws.getD j 0 by omega)
              rw [ej] at hy hjm
              have hw1 : 1 ≤ wd := by omega
              have hw16 : wd ≤ 16 := by omega
              have hst : totL (ws.take (j + 1)) = t + wd := by rw [take_snoc hjx, totL_snoc, ej, ← HT.out, Int.toNat_natCast]
              have hsp : splitL (ws.take (j + 1)) B = splitL (ws.take j) B ++ [valB ((B.drop t).take wd)] := by rw [take_snoc hjx, splitL_snoc, ej, ← HT.out, Int.toNat_natCast]
              have HST := Lib.hid hst
              have HSP := Lib.hid hsp
              have HTW := Lib.hid (totL_take_lt hjx ej)
              have EJ := Lib.hid ej
              have HJX := Lib.hid hjx
              clear hlc hjm ej hjx hst hsp hli
              go_wp2_with fail
              go_loopw [10, 12, 13] (fun vt vx vb wq => ∃ b : Nat, b ≤ wd ∧ vb = .int .i64 b ∧ vt = .int .i64 ((t + b : Nat) : Int) ∧ vx = .int .i64 (valB ((B.drop t).take b)) ∧ Keeps [] W1 wq) (fun _ _ vb _ => wd - (intOf vb).toNat)
              case atStart => exact ⟨0, Nat.zero_le _, rfl, rfl, by simp [valB], Keeps.refl _ _⟩
              case round =>
                obtain ⟨b, hb, rfl, rfl, rfl, hkq⟩ := hrel
                obtain ⟨W2, rfl⟩ : ∃ z, z = wr := ⟨_, rfl⟩
                have HKQ := Lib.hid hkq
                obtain ⟨p, hp⟩ : ∃ p, p = t + b := ⟨_, rfl⟩
                rw [← hp]
                have hpl : p ≤ 16016 := by omega
                have HP := Lib.hid hp
                obtain ⟨V, hV⟩ : ∃ V, V = valB ((B.drop t).take b) := ⟨_, rfl⟩
                rw [← hV]
                have hVb := valB_bd ((B.drop t).take b) (fun y hy => HBB.out y (List.mem_of_mem_drop (List.mem_of_mem_take hy)))
                rw [← hV] at hVb
                have hV0 := hVb.1
                have hV1 : V ≤ 65536 := by
                  have := P2_le (j := ((B.drop t).take b).length) (by rw [List.length_take]; omega)
                  omega
                have HV := Lib.hid hV
                have hyw : W2.cell? ⟨mb, mo + j, none⟩ = some (.int .i64 (wd : Int)) := by
                  have h1 := ((HI.out.keep0 (HK.out.trans0 hkq)).2.2 mb mo none rfl (List.ne_nil_of_length_pos (by have := HJX.out; omega))).2 j HJX.out
                  rw [EJ.out] at h1
                  exact h1
                clear hp hV hVb
                by_cases hbw : b < wd
                · have hpB : p < 16 * i := by have h1 := HTW.out; have h2 := HTL.out; rw [← HT.out] at h1; have h3 := HP.out; omega
                  obtain ⟨q, hq⟩ : ∃ q, q = p / 16 := ⟨_, rfl⟩
                  have hqi : q < i := by omega
                  have hqx : q < xs.length := Nat.lt_of_lt_of_le hqi HIL.out
                  rcases a' with _ | ⟨lb, lo', ls⟩
                  · have := HI'.out.2.1 rfl; rw [this] at hqx; simp at hqx
                  obtain ⟨rfl, hlc⟩ := (HI'.out.keep0 (HK.out.trans0 hkq)).2.2 lb lo' ls rfl (List.ne_nil_of_length_pos (by omega))
                  have hyx := hlc q hqx
                  have hyb := take_word HALL.out hqi HIL.out
                  obtain ⟨y, ey⟩ : ∃ y, y = xs.getD q 0 := ⟨_, rfl⟩
                  rw [← ey] at hyx hyb
                  obtain ⟨hy0, hy1⟩ := hyb
                  obtain ⟨mm, hm⟩ : ∃ m, m = p % 16 := ⟨_, rfl⟩
                  obtain ⟨r, hr⟩ : ∃ r, r = 15 - mm := ⟨_, rfl⟩
                  have hr16 : r ≤ 15 := by omega
                  have hPp := P2_pos r
                  have hPb := P2_le (j := r) (by omega)
                  have hbit : B.getD p 0 = y / P2 r % 2 := by
                    rw [HB.out, bitsOf_getD _ _ (by rw [List.length_take]; omega), ← hq, hr, hm, ey]
                    congr 2
                    simp only [List.getD, List.getElem?_take, if_pos hqi]
                  have hstep : valB ((B.drop t).take (b + 1)) = 2 * V + y / P2 r % 2 := by
                    rw [take_snoc (by rw [List.length_drop, HBL.out]; have := HP.out; omega), valB_snoc, ← HV.out, ← hbit, HP.out]
                    congr 1
                    simp [List.getD]
                  obtain ⟨Q, hQ⟩ : ∃ Q, Q = P2 r := ⟨_, rfl⟩
                  rw [← hQ] at hPp hPb hstep
                  obtain ⟨D, hD⟩ : ∃ D, y / Q = D := ⟨_, rfl⟩
                  have hD0 : 0 ≤ D := by rw [← hD]; exact Int.ediv_nonneg hy0 (by omega)
                  have hD1 : D ≤ 65535 := by rw [← hD]; exact Int.le_trans (Int.ediv_le_self _ hy0) hy1
                  rw [hD] at hstep
                  obtain ⟨d, hd⟩ : ∃ d, D % 2 = d := ⟨_, rfl⟩
                  have hd0 : 0 ≤ d := by omega
                  have hd1 : d ≤ 1 := by omega
                  rw [hd] at hstep
                  have hwq : IntKind.i64.wrap ((p : Int) / 16) = (q : Int) := by rw [IntKind.wrap_i64]; omega
                  have hwm : (p : Int).tmod 16 = (mm : Int) := by rw [Int.tmod_eq_emod_of_nonneg (by omega)]; omega
                  have hwr : IntKind.i64.wrap (15 - (mm : Int)) = (r : Int) := by rw [IntKind.wrap_i64]; omega
                  have hwd : D.tmod 2 = d := by rw [Int.tmod_eq_emod_of_nonneg hD0]; exact hd
                  have HQ := Lib.hid hQ
                  have HSTEP := Lib.hid hstep
                  clear hlc ey hq hm hr hbit hstep hQ hqx hpB hkq
                  go_wp2_with fail
                  go_quiet ((go_at_call 39; refine Calls.quiet_of_same (same_flip (power_any r Q HQ.out (by omega) _))))
                  go_wp2_with fail
                  go_roundw
                  case rel => exact ⟨b + 1, by omega, by go_num, by rw [HP.out]; go_num, by rw [HSTEP.out], HKQ.out.drewN _⟩
                  case measure => simp [intOf]; omega
                · have hbwd : b = wd := by omega
                  have hpst : p = totL (ws.take (j + 1)) := by rw [HST.out, HP.out, hbwd]
                  have hsp2 : splitL (ws.take (j + 1)) B = splitL (ws.take j) B ++ [V] := by rw [HSP.out, HV.out, hbwd]
                  have hjl : (splitL (ws.take j) B).length = j := by rw [splitL_len, List.length_take]; have := HJX.out; omega
                  have hown := ownsRow_keep (F := []) ((HA.out.keep hkq (by simp)).own hg j hjl.symm) ((Keeps.refl _ _).alloc (.cells #[.int .i64 V] 3)) (by simp)
                  have HO := Lib.hid hown
                  have HPST := Lib.hid hpst
                  have HSP2 := Lib.hid hsp2
                  have HJL := Lib.hid hjl
                  have HWS := Lib.hid (HK.out.trans0 hkq).size
                  clear hbwd hpst hsp2 hjl hown hkq
                  go_wp2_with (at_builtin; refine wpList_append_new _ rfl (.tmp 79) (.tmp 81) 22 rfl w.heap.size 3 i0 (.int .i64 0) 1 8 Try.underlying22 hii hz0 hz1 hz2 rfl (by decide) (.slice (some ⟨g, 0, none⟩) j c1) j _ rfl HO.out ⟨W2.heap.size, 0, none⟩ 1 1 [.int .i64 V] rfl rfl (cell_one_new _ _ _) (by simp [Value.oneCell']) (by unfold maxLen; omega) (by omega) (by simp; have := HWS.out; omega) ?_; intro v' w2 q1 q2 q3 q4)
                  obtain ⟨g2, c2, rfl, hg2, hA2⟩ := one_snoc rfl (by rw [List.length_append, HJL.out]; rfl) q1 (fun e => absurd (q3.1 e).2 (by omega))
                  have k2 : Keeps [] w w2 := ((HK.out.trans0 HKQ.out).alloc _).grown q2 (by intro k e; injection e with e; right; rw [← e]; exact hg)
                  have HA2 := Lib.hid hA2
                  have K2 := Lib.hid k2
                  clear q1 q2 q3 q4 hA2 k2
                  go_wp2_with fail
                  go_roundw
                  case rel => exact ⟨j + 1, g2, c2, by omega, by go_num, by rw [HPST.out], rfl, by rw [HSP2.out]; exact HA2.out, hg2, K2.out⟩
                  case measure => simp [intOf]; omega
            · have hjn2 : j = n := by omega
              have hA3 := HA.out
              have hfl : ws.take j = ws := List.take_of_length_le (by rw [hjn2, HLEN.out]; exact Nat.le_refl _)
              rw [hfl, HB.out] at hA3
              have HA3 := Lib.hid hA3
              have HJL := Lib.hid (show j = (splitL ws (bitsOf (xs.take i))).length by rw [splitL_len, hjn2, HLEN.out])
              clear hA3 hfl hk
              go_wp2_with fail
              go_ret2
              rw [HR2.out]
              exact Out.of_arr HJL.out HA3.out HK.out
end Go.Proofs.Ytfmegladcjcjgaa
