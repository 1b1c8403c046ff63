/- PackFull walked. -/
import Derived.Test.YtfmegladcjcjgaaPp
namespace Go.Proofs.Ytfmegladcjcjgaa
open Go.RowKit
set_option linter.unusedVariables false

theorem wordsOf_in (n : Nat) (bs : List Int) (hb : IsBits bs) : ∀ x ∈ wordsOf n bs, 0 ≤ x ∧ x ≤ 65535 := by
  induction n generalizing bs with
  | zero => intro x hx; simp [wordsOf] at hx
  | succ n ih =>
    intro x hx
    rw [wordsOf, List.mem_cons] at hx
    rcases hx with rfl | hx
    · have h1 := valB_bd (pad (bs.take 16)) (pad_bits (fun b hb' => hb b (List.mem_of_mem_take hb')))
      rw [pad_len (by rw [List.length_take]; omega)] at h1
      have e : P2 16 = 65536 := rfl
      omega
    · exact ih (bs.drop 16) (fun b hb' => hb b (List.mem_of_mem_drop hb')) x hx
theorem fieldsR_cases (ws vs : List Int) : (∃ z, z ≠ 0 ∧ fieldsR ws vs = (z, [])) ∨ ∃ l, fieldsR ws vs = (0, l) ∧ splitR ws (l ++ [9]) = (0, vs) := by
  rcases mayC_cases ws with hC | hC | ⟨hC, hok, hl, hrn, hsz⟩
  · left; exact ⟨3, by decide, by unfold fieldsR; rw [hC, if_pos (by decide)]⟩
  · left; exact ⟨2, by decide, by unfold fieldsR; rw [hC, if_pos (by decide)]⟩
  · by_cases hf : fitW ws vs
    · right
      refine ⟨wordsOf (sizeR ws) (allB ws vs), by unfold fieldsR; rw [if_neg (by rw [hC]; decide), if_pos hf], ?_⟩
      have hb := allB_bits ws vs
      have ht : (wordsOf (sizeR ws) (allB ws vs) ++ [9]).take (sizeR ws) = wordsOf (sizeR ws) (allB ws vs) := by
        rw [List.take_append_of_le_length (by rw [wordsOf_len]; exact Nat.le_refl _), List.take_of_length_le (by rw [wordsOf_len]; exact Nat.le_refl _)]
      rw [splitR_ok hC (firstC_ok (by rw [ht]; exact wordsOf_in _ _ hb) (by rw [List.length_append, wordsOf_len]; omega)), ht,
        bitsOf_wordsOf _ _ hb (by rw [allB_len hf.1]; omega), split_all ws vs _ hf.1 hf.2]
    · left; exact ⟨2, by decide, by unfold fieldsR; rw [if_neg (by rw [hC]; decide), if_neg hf]⟩
theorem splitR_cases (ws xs : List Int) : (∃ z, z ≠ 0 ∧ splitR ws xs = (z, [])) ∨ ∃ b aa, splitR ws xs = (0, b) ∧ b.length = ws.length ∧ fieldsR ws b = (0, aa) ∧ okW ws ∧ ws.length ≤ 256 ∧ aa.length = sizeR ws ∧ sizeR ws ≤ xs.length ∧ sizeR ws = (totL ws + 15) / 16 ∧
    ∀ i, i < sizeR ws → (0 ≤ xs.getD i 0 ∧ xs.getD i 0 ≤ 65535) ∧ aa.getD i 0 = if i + 1 = sizeR ws ∧ 0 < totL ws % 16 then xs.getD i 0 / P2 (16 - totL ws % 16) * P2 (16 - totL ws % 16) else xs.getD i 0 := by
  rcases mayC_cases ws with hC | hC | ⟨hC, hok, hl, hrn, hsz⟩
  · left; exact ⟨3, by decide, by unfold splitR; rw [hC, if_pos (by decide)]⟩
  · left; exact ⟨2, by decide, by unfold splitR; rw [hC, if_pos (by decide)]⟩
  · rcases firstC_cases (sizeR ws) xs with h | h | ⟨h, hall, hle⟩
    · left; exact ⟨2, by decide, splitR_first hC h (by decide)⟩
    · left; exact ⟨7, by decide, splitR_first hC h (by decide)⟩
    · right
      obtain ⟨N, hN⟩ : ∃ N, N = sizeR ws := ⟨_, rfl⟩
      rw [← hN] at h hall hle hsz ⊢
      have hbl : (bitsOf (xs.take N)).length = 16 * N := by rw [bitsOf_len, List.length_take]; omega
      have htl : totL ws ≤ (bitsOf (xs.take N)).length := by rw [hbl]; omega
      have hbb := bitsOf_bits (xs.take N)
      have hfit : fitW ws (splitL ws (bitsOf (xs.take N))) := ⟨(splitL_len _ _).symm, fun i hi => splitL_bd ws _ hbb htl i (by rwa [splitL_len] at hi)⟩
      refine ⟨splitL ws (bitsOf (xs.take N)), wordsOf N ((bitsOf (xs.take N)).take (totL ws)), by rw [splitR_ok hC (by rw [← hN]; exact h), ← hN], splitL_len _ _, ?_, hok, hl, wordsOf_len _ _, hle, hsz, ?_⟩
      · unfold fieldsR
        rw [if_neg (by rw [hC]; decide), if_pos hfit, ← hN, all_split ws _ hbb htl]
      · intro i hi
        refine ⟨take_word hall hi hle, ?_⟩
        have hyl : (xs.take N).length = N := by rw [List.length_take]; omega
        have := wordsOf_cut (xs.take N) (totL ws) hall (by rw [hyl]; omega) (by rw [hyl]; omega) i (by rw [hyl]; exact hi)
        rw [hyl] at this
        have e : (xs.take N).getD i 0 = xs.getD i 0 := by simp only [List.getD, List.getElem?_take, if_pos hi]
        rw [e] at this
        exact this

set_option maxRecDepth 100000 in
set_option maxHeartbeats 1000000 in
theorem full_law (a : Option Addr) (n c : Nat) (ws : List Int) (a' : Option Addr) (n' c' : Nat) (vs : List Int) (b : Option Addr) (m d : Nat) (xs : List Int) (w : World)
    (hi : IntsAt w a n ws) (hi' : IntsAt w a' n' vs) (hj : IntsAt w b m xs) (hn : n ≤ c) (hc : c ≤ maxLen) (hn' : n' ≤ c') (hc' : c' ≤ maxLen) (hm : m ≤ d) (hd : d ≤ maxLen) :
    Calls Try.prog 7 #[.slice a n c, .slice a' n' c', .slice b m d] w fun e w' => e = .returned (.bool true) ∧ Keeps [] w w' := by
  have I'L := Lib.hid hn'
  have I'M := Lib.hid hc'
  have JL := Lib.hid hm
  have JM := Lib.hid hd
  unfold maxLen at hc hc' hd
  by_cases h0 : 300 < n
  · clear hi hi' hj
    go_enter Try.func7, Try.ntmps7
    go_wp2_with fail
    refine (works_any _).mono ?_
    rintro e w1 ⟨rfl, q⟩
    go_wp2_with fail
    go_ret
    exact ⟨rfl, q⟩
  have h0b : decide (300 < (n : Int)) = false := by simp; omega
  by_cases h1 : 300 < n'
  · clear hi hi' hj h0
    go_enter Try.func7, Try.ntmps7
    go_wp2_with fail
    refine (works_any _).mono ?_
    rintro e w1 ⟨rfl, q⟩
    go_wp2_with fail
    go_ret
    exact ⟨rfl, q⟩
  have h1b : decide (300 < (n' : Int)) = false := by simp; omega
  by_cases h2 : 300 < m
  · clear hi hi' hj h0 h1
    go_enter Try.func7, Try.ntmps7
    go_wp2_with fail
    refine (works_any _).mono ?_
    rintro e w1 ⟨rfl, q⟩
    go_wp2_with fail
    go_ret
    exact ⟨rfl, q⟩
  have h2b : decide (300 < (m : Int)) = false := by simp; omega
  have hnl : n ≤ 300 := by omega
  have hnl' : n' ≤ 300 := by omega
  have hml : m ≤ 300 := by omega
  obtain ⟨i0, hii, hz0, hz1, hz2⟩ := info_parts Try.info3
  have I := Lib.hid hi
  have I' := Lib.hid hi'
  have J := Lib.hid hj
  have LN := Lib.hid (show ws.length = n from hi.1.symm)
  have LN' := Lib.hid (show vs.length = n' from hi'.1.symm)
  have LM := Lib.hid (show xs.length = m from hj.1.symm)
  have KK := Lib.hid (Keeps.refl [] w)
  clear hi hi' hj h0 h1 h2
  rcases fieldsR_cases ws vs with ⟨zf, hzf, hfR⟩ | ⟨lf, hfR, hsR⟩
  · obtain ⟨NF, hNF⟩ : ∃ N, N = ([] : List Int).length := ⟨_, rfl⟩
    have NFH := Lib.hid hNF
    have RF := Lib.hid hfR.symm
    have hzn : (zf == 0) = false := by simpa using hzf
    clear hzf hfR hNF
    go_enter Try.func7, Try.ntmps7
    go_wp2_with fail
    refine (works_any _).mono ?_
    rintro e w1 ⟨rfl, q⟩
    have I := Lib.hid (I.out.keep0 q)
    have I' := Lib.hid (I'.out.keep0 q)
    have J := Lib.hid (J.out.keep0 q)
    have KK := Lib.hid (KK.out.trans0 q)
    clear q
    go_wp2_with fail
    refine (Fields_any a a' n c n' c' ws vs _ I.out I'.out (by omega) (by omega)).mono ?_
    rintro e w2 ho
    rw [← RF.out] at ho
    obtain ⟨aF0, cF0, he, hj, q, hl, hm⟩ := ho
    have he : e = .returned (.tuple #[.slice aF0 NF cF0, .int .i64 zf]) := by rw [he, NFH.out]
    subst he
    have hj : IntsAt w2 aF0 NF [] := by rw [NFH.out]; exact hj
    have hl : NF ≤ cF0 := by rw [NFH.out]; exact hl
    have I := Lib.hid (I.out.keep0 q)
    have I' := Lib.hid (I'.out.keep0 q)
    have J := Lib.hid (J.out.keep0 q)
    have KK := Lib.hid (KK.out.trans0 q)
    have F0 := Lib.hid hj
    have F0L := Lib.hid hl
    have F0M := Lib.hid hm
    clear q hl hm hj
    go_wp2_with fail
    rcases splitR_cases ws xs with ⟨zt, hzt, hR⟩ | ⟨bb, aa, hS, hbl, hF, hok, -, hal, hle, hsz, hev⟩
    · obtain ⟨NS, hNS⟩ : ∃ N, N = ([] : List Int).length := ⟨_, rfl⟩
      have NSH := Lib.hid hNS
      have RT := Lib.hid hR.symm
      have hzt : (zt != 0) = true := by simpa using hzt
      have hNS0 : (NS : Int) = 0 := by rw [hNS]; rfl
      clear hR hNS
      refine (Split_any a b n c m d ws xs _ I.out J.out (by omega) JL.out JM.out).mono ?_
      rintro e w3 ho
      rw [← RT.out] at ho
      obtain ⟨aS1, cS1, he, hj, q, hl, hm⟩ := ho
      have he : e = .returned (.tuple #[.slice aS1 NS cS1, .int .i64 zt]) := by rw [he, NSH.out]
      subst he
      have hj : IntsAt w3 aS1 NS [] := by rw [NSH.out]; exact hj
      have hl : NS ≤ cS1 := by rw [NSH.out]; exact hl
      have I := Lib.hid (I.out.keep0 q)
      have I' := Lib.hid (I'.out.keep0 q)
      have J := Lib.hid (J.out.keep0 q)
      have KK := Lib.hid (KK.out.trans0 q)
      have S1 := Lib.hid hj
      have S1L := Lib.hid hl
      have S1M := Lib.hid hm
      clear q hl hm hj
      go_wp2_with fail
      go_ret
      exact ⟨rfl, KK.out⟩
    · obtain ⟨NS, hNS⟩ : ∃ N, N = bb.length := ⟨_, rfl⟩
      obtain ⟨N, hN⟩ : ∃ N, N = sizeR ws := ⟨_, rfl⟩
      rw [← hN] at hal hle hsz hev
      have hNS3 : NS ≤ 300 := by rw [hNS, hbl, LN.out]; exact hnl
      have hNl : N ≤ 300 := by have := totL_le ws hok; have := LN.out; omega
      have hNm : N ≤ m := by rw [← LM.out]; exact hle
      have hNmb : decide ((m : Int) < (N : Int)) = false := by simp; omega
      have NSH := Lib.hid hNS
      have SZ := Lib.hid hN
      have NH := Lib.hid hal.symm
      have RT := Lib.hid hS.symm
      have RV := Lib.hid hF.symm
      have OK := Lib.hid hok
      have EV := Lib.hid hev
      have XL := Lib.hid hle
      clear hNS hN hS hF hok hev hal hle hsz hbl
      refine (Split_any a b n c m d ws xs _ I.out J.out (by omega) JL.out JM.out).mono ?_
      rintro e w3 ho
      rw [← RT.out] at ho
      obtain ⟨aS1, cS1, he, hj, q, hl, hm⟩ := ho
      have he : e = .returned (.tuple #[.slice aS1 NS cS1, .int .i64 0]) := by rw [he, NSH.out]
      subst he
      have hj : IntsAt w3 aS1 NS bb := by rw [NSH.out]; exact hj
      have hl : NS ≤ cS1 := by rw [NSH.out]; exact hl
      have I := Lib.hid (I.out.keep0 q)
      have I' := Lib.hid (I'.out.keep0 q)
      have J := Lib.hid (J.out.keep0 q)
      have KK := Lib.hid (KK.out.trans0 q)
      have S1 := Lib.hid hj
      have S1L := Lib.hid hl
      have S1M := Lib.hid hm
      clear q hl hm hj
      go_wp2_with fail
      refine (Fields_any a aS1 n c NS cS1 ws bb _ I.out S1.out (by omega) (by omega)).mono ?_
      rintro e w4 ho
      rw [← RV.out] at ho
      obtain ⟨aF1, cF1, he, hj, q, hl, hm⟩ := ho
      have he : e = .returned (.tuple #[.slice aF1 N cF1, .int .i64 0]) := by rw [he, NH.out]
      subst he
      have hj : IntsAt w4 aF1 N aa := by rw [NH.out]; exact hj
      have hl : N ≤ cF1 := by rw [NH.out]; exact hl
      have I := Lib.hid (I.out.keep0 q)
      have I' := Lib.hid (I'.out.keep0 q)
      have J := Lib.hid (J.out.keep0 q)
      have S1 := Lib.hid (S1.out.keep0 q)
      have KK := Lib.hid (KK.out.trans0 q)
      have F1 := Lib.hid hj
      have F1L := Lib.hid hl
      have F1M := Lib.hid hm
      clear q hl hm hj
      go_wp2_with fail
      refine (Size_any a n c ws _ I.out (by omega)).mono ?_
      rintro e w' ⟨he, rfl⟩
      rw [← SZ.out] at he
      have he : e = .returned (.int .i64 (N : Int)) := he
      subst he
      go_wp2_with fail
      go_loop [16, 17] (fun vt vi => ∃ i : Nat, i ≤ n ∧ vi = .int .i64 i ∧ vt = .int .i64 (totL (ws.take i))) (fun _ vi => n - (intOf vi).toNat)
      case atStart => exact ⟨0, Nat.zero_le _, rfl, rfl⟩
      case round =>
        obtain ⟨i, hi, rfl, rfl⟩ := hrel
        have htl := totL_le _ (okW_take OK.out i)
        rw [List.length_take] at htl
        obtain ⟨t, ht⟩ : ∃ t, t = totL (ws.take i) := ⟨_, rfl⟩
        rw [← ht] at htl ⊢
        have htl2 : t ≤ 4800 := by omega
        have HT := Lib.hid ht
        clear ht htl
        by_cases hlt : i < n
        · have hix : i < ws.length := by rw [LN.out]; exact hlt
          rcases a with _ | ⟨lb, lo', ls⟩
          · have := I.out.2.1 rfl; rw [this] at hix; simp at hix
          obtain ⟨rfl, hlc⟩ := I.out.2.2 lb lo' ls rfl (List.ne_nil_of_length_pos (by omega))
          have hx := hlc i hix
          obtain ⟨x, ex⟩ : ∃ x, x = ws.getD i 0 := ⟨_, rfl⟩
          have hxb := OK.out _ (getD_mem hix)
          have hst : ((totL (ws.take (i + 1)) : Nat) : Int) = (t : Int) + x := by rw [take_snoc hix, totL_snoc, ← HT.out, ex]; omega
          rw [← ex] at hx hxb
          have HST := Lib.hid hst
          obtain ⟨hx1, hx2⟩ := hxb
          clear hlc ex hst hix
          go_wp2_with fail
          go_round
          case rel => exact ⟨i + 1, by omega, by go_num, by rw [HST.out]⟩
          case measure => simp [intOf]; omega
        · have htw : ws.take i = ws := List.take_of_length_le (by rw [LN.out]; omega)
          obtain ⟨q, hq⟩ : ∃ q, q = t % 16 := ⟨_, rfl⟩
          have hq16 : q ≤ 15 := by omega
          have hqm : (t : Int).tmod 16 = (q : Int) := by rw [Int.tmod_eq_emod_of_nonneg (by omega)]; omega
          have hqe : (t : Int) % 16 = (q : Int) := by omega
          have HQ := Lib.hid (show totL ws % 16 = q by rw [hq, HT.out, htw])
          clear htw hq
          go_wp2_with fail
          go_loop [18] (fun vi => ∃ j : Nat, j ≤ N ∧ vi = .int .i64 j) (fun vi => N - (intOf vi).toNat)
          case atStart => exact ⟨0, Nat.zero_le _, rfl⟩
          case round =>
            obtain ⟨j, hj, rfl⟩ := hrel
            by_cases hjn : j < N
            · have hjx : j < xs.length := Nat.lt_of_lt_of_le hjn XL.out
              have hja : j < aa.length := by rw [← NH.out]; exact hjn
              rcases b with _ | ⟨mb, mo, ms⟩
              · have := J.out.2.1 rfl; rw [this] at hjx; simp at hjx
              obtain ⟨rfl, hlc⟩ := J.out.2.2 mb mo ms rfl (List.ne_nil_of_length_pos (by omega))
              rcases aF1 with _ | ⟨fb, fo, fs⟩
              · have := F1.out.2.1 rfl; rw [this] at hja; simp at hja
              obtain ⟨rfl, hlc'⟩ := F1.out.2.2 fb fo fs rfl (List.ne_nil_of_length_pos (by omega))
              have hx := hlc j hjx
              have hy := hlc' j hja
              obtain ⟨⟨hx0, hx1⟩, hev⟩ := EV.out j hjn
              rw [HQ.out] at hev
              obtain ⟨x, ex⟩ : ∃ x, x = xs.getD j 0 := ⟨_, rfl⟩
              obtain ⟨y, ey⟩ : ∃ y, y = aa.getD j 0 := ⟨_, rfl⟩
              rw [← ex] at hx hx0 hx1 hev
              rw [← ey] at hy hev
              clear hlc hlc' ex ey hjx hja
              by_cases hlast : j + 1 = N
              · have hl1 : ((j : Int) == (N : Int) - 1) = true := by simp; omega
                by_cases hq0 : 0 < q
                · rw [if_pos ⟨hlast, hq0⟩] at hev
                  obtain ⟨r, hr⟩ : ∃ r, r = 16 - q := ⟨_, rfl⟩
                  have hr16 : r ≤ 15 := by omega
                  have hrq : 16 - (q : Int) = (r : Int) := by omega
                  rw [← hr, P2_eq] at hev
                  obtain ⟨D, hD⟩ : ∃ D, x / 2 ^ r = D := ⟨_, rfl⟩
                  rw [hD] at hev
                  have hy0 : 0 ≤ y ∧ y ≤ 65535 := by
                    have hp := P2_pos r
                    rw [P2_eq] at hp
                    rw [hev, ← hD]
                    have h1 := Int.mul_nonneg (Int.ediv_nonneg hx0 (show (0 : Int) ≤ 2 ^ r by omega)) (show (0 : Int) ≤ 2 ^ r by omega)
                    have h2 := Int.ediv_mul_le x (show (2 : Int) ^ r ≠ 0 by omega)
                    omega
                  obtain ⟨hy1, hy2⟩ := hy0
                  have hE : D * 2 ^ r = y := hev.symm
                  clear hev hr
                  go_wp2_with fail
                  go_round
                  case rel => exact ⟨j + 1, by omega, by go_num⟩
                  case measure => simp [intOf]; omega
                · rw [if_neg (fun hh => hq0 hh.2)] at hev
                  subst hev
                  have hq1 : decide ((0 : Int) < (q : Int)) = false := by simp; omega
                  go_wp2_with fail
                  go_round
                  case rel => exact ⟨j + 1, by omega, by go_num⟩
                  case measure => simp [intOf]; omega
              · rw [if_neg (fun hh => hlast hh.1)] at hev
                subst hev
                have hl1 : ((j : Int) == (N : Int) - 1) = false := by simp; omega
                go_wp2_with fail
                go_round
                case rel => exact ⟨j + 1, by omega, by go_num⟩
                case measure => simp [intOf]; omega
            · go_wp2_with fail
              go_ret
              exact ⟨rfl, KK.out⟩
  · obtain ⟨NF, hNF⟩ : ∃ N, N = lf.length := ⟨_, rfl⟩
    have NFH := Lib.hid hNF
    have LF := Lib.hid hNF.symm
    have RF := Lib.hid hfR.symm
    have RS := Lib.hid hsR.symm
    clear hfR hNF hsR
    have n'H := Lib.hid (show n' = vs.length from LN'.out.symm)
    go_enter Try.func7, Try.ntmps7
    go_wp2_with fail
    refine (works_any _).mono ?_
    rintro e w1 ⟨rfl, q⟩
    have I := Lib.hid (I.out.keep0 q)
    have I' := Lib.hid (I'.out.keep0 q)
    have J := Lib.hid (J.out.keep0 q)
    have KK := Lib.hid (KK.out.trans0 q)
    clear q
    go_wp2_with fail
    refine (Fields_any a a' n c n' c' ws vs _ I.out I'.out (by omega) (by omega)).mono ?_
    rintro e w2 ho
    rw [← RF.out] at ho
    obtain ⟨aF0, cF0, he, hj, q, hl, hm⟩ := ho
    have he : e = .returned (.tuple #[.slice aF0 NF cF0, .int .i64 0]) := by rw [he, NFH.out]
    subst he
    have hj : IntsAt w2 aF0 NF lf := by rw [NFH.out]; exact hj
    have hl : NF ≤ cF0 := by rw [NFH.out]; exact hl
    have I := Lib.hid (I.out.keep0 q)
    have I' := Lib.hid (I'.out.keep0 q)
    have J := Lib.hid (J.out.keep0 q)
    have KK := Lib.hid (KK.out.trans0 q)
    have F0 := Lib.hid hj
    have F0L := Lib.hid hl
    have F0M := Lib.hid hm
    clear q hl hm hj
    go_wp2_with fail
    have hNFl : NF ≤ 300 := by
      have h1 := RF.out
      have h2 : lf = (fieldsR ws vs).2 := by rw [← h1]
      rw [NFH.out, h2]
      rcases mayC_cases ws with hC | hC | ⟨hC, hok, hl, hrn, hsz⟩
      · unfold fieldsR; rw [hC, if_pos (by decide)]; simp
      · unfold fieldsR; rw [hC, if_pos (by decide)]; simp
      · unfold fieldsR
        rw [if_neg (by rw [hC]; decide)]
        split
        · rw [wordsOf_len, hsz]; have := totL_le ws hok; have := LN.out; omega
        · simp
    refine (ints_any aF0 NF _ lf _ F0.out (by omega)).mono ?_
    rintro e wa ⟨x, rfl, gA, dA, rfl, hgA, hA, q⟩
    rw [LF.out]
    have hown := ownsRow_keep (F := []) (hA.own hgA NF LF.out.symm) ((Keeps.refl _ _).alloc (.cells #[.int .i64 9] 3)) (by simp)
    have HO := Lib.hid hown
    have HWS := Lib.hid q.size
    have HQI := Lib.hid q
    have HGA := Lib.hid hgA
    clear hA q hown hgA
    go_wp2_with (at_builtin; refine wpList_append_new _ rfl (.tmp 47) (.tmp 48) 22 rfl w2.heap.size 3 i0 (.int .i64 0) 1 8 Try.underlying22 hii hz0 hz1 hz2 rfl (by decide) (.slice (some ⟨gA, 0, none⟩) NF dA) NF _ rfl HO.out ⟨wa.heap.size, 0, none⟩ 1 1 [.int .i64 9] rfl rfl (cell_one_new _ _ _) (by simp [Value.oneCell']) (by unfold maxLen; omega) (by omega) (by simp; have := HWS.out; omega) ?_; intro v' wb q1 q2 q3 q4)
    obtain ⟨gB, dB, rfl, hgB, hB⟩ := one_snoc rfl (by rw [List.length_append, LF.out]; rfl) q1 (fun e => absurd (q3.1 e).2 (by omega))
    have q : Keeps [] w2 wb := (HQI.out.alloc _).grown q2 (by intro k e; injection e with e; right; rw [← e]; exact HGA.out)
    have hl9 : (lf ++ [9]).length = NF + 1 := by rw [List.length_append, LF.out]; rfl
    have hiB := hB.ints
    have hlB := hB.le
    have hmB := hB.cm
    rw [hl9] at hiB hlB
    have B9 := Lib.hid hiB
    have B9L := Lib.hid hlB
    have B9M := Lib.hid hmB
    have I := Lib.hid (I.out.keep0 q)
    have I' := Lib.hid (I'.out.keep0 q)
    have J := Lib.hid (J.out.keep0 q)
    have F0 := Lib.hid (F0.out.keep0 q)
    have KK := Lib.hid (KK.out.trans0 q)
    clear q q1 q2 q3 q4 hB hgB hl9 hiB hlB hmB
    go_wp2_with fail
    refine (Split_any a _ n c (NF + 1) dB ws (lf ++ [9]) _ I.out B9.out (by omega) B9L.out B9M.out).mono ?_
    rintro e w3 ho
    rw [← RS.out] at ho
    obtain ⟨aS0, cS0, he, hj, q, hl, hm⟩ := ho
    have he : e = .returned (.tuple #[.slice aS0 n' cS0, .int .i64 0]) := by rw [he, n'H.out]
    subst he
    have hj : IntsAt w3 aS0 n' vs := by rw [n'H.out]; exact hj
    have hl : n' ≤ cS0 := by rw [n'H.out]; exact hl
    have I := Lib.hid (I.out.keep0 q)
    have I' := Lib.hid (I'.out.keep0 q)
    have J := Lib.hid (J.out.keep0 q)
    have F0 := Lib.hid (F0.out.keep0 q)
    have B9 := Lib.hid (B9.out.keep0 q)
    have KK := Lib.hid (KK.out.trans0 q)
    have S0 := Lib.hid hj
    have S0L := Lib.hid hl
    have S0M := Lib.hid hm
    clear q hl hm hj
    go_wp2_with fail
    refine (sameInts_any aS0 a' n' n' cS0 c' vs vs _ S0.out I'.out (S0.out.max S0L.out S0M.out) (I'.out.max I'L.out I'M.out)).mono ?_
    rintro e w4 ⟨he, mw4, hw⟩
    rw [same_self] at he
    have he : e = .returned (.bool true) := he
    subst he
    have q := keeps_drewN hw
    clear hw
    have I := Lib.hid (I.out.keep0 q)
    have I' := Lib.hid (I'.out.keep0 q)
    have J := Lib.hid (J.out.keep0 q)
    have F0 := Lib.hid (F0.out.keep0 q)
    have B9 := Lib.hid (B9.out.keep0 q)
    have S0 := Lib.hid (S0.out.keep0 q)
    have KK := Lib.hid (KK.out.trans0 q)
    clear q
    go_wp2_with fail
    rcases splitR_cases ws xs with ⟨zt, hzt, hR⟩ | ⟨bb, aa, hS, hbl, hF, hok, -, hal, hle, hsz, hev⟩
    · obtain ⟨NS, hNS⟩ : ∃ N, N = ([] : List Int).length := ⟨_, rfl⟩
      have NSH := Lib.hid hNS
      have RT := Lib.hid hR.symm
      have hzt : (zt != 0) = true := by simpa using hzt
      have hNS0 : (NS : Int) = 0 := by rw [hNS]; rfl
      clear hR hNS
      refine (Split_any a b n c m d ws xs _ I.out J.out (by omega) JL.out JM.out).mono ?_
      rintro e w5 ho
      rw [← RT.out] at ho
      obtain ⟨aS1, cS1, he, hj, q, hl, hm⟩ := ho
      have he : e = .returned (.tuple #[.slice aS1 NS cS1, .int .i64 zt]) := by rw [he, NSH.out]
      subst he
      have hj : IntsAt w5 aS1 NS [] := by rw [NSH.out]; exact hj
      have hl : NS ≤ cS1 := by rw [NSH.out]; exact hl
      have I := Lib.hid (I.out.keep0 q)
      have I' := Lib.hid (I'.out.keep0 q)
      have J := Lib.hid (J.out.keep0 q)
      have KK := Lib.hid (KK.out.trans0 q)
      have S1 := Lib.hid hj
      have S1L := Lib.hid hl
      have S1M := Lib.hid hm
      clear q hl hm hj
      go_wp2_with fail
      go_ret
      exact ⟨rfl, KK.out⟩
    · obtain ⟨NS, hNS⟩ : ∃ N, N = bb.length := ⟨_, rfl⟩
      obtain ⟨N, hN⟩ : ∃ N, N = sizeR ws := ⟨_, rfl⟩
      rw [← hN] at hal hle hsz hev
      have hNS3 : NS ≤ 300 := by rw [hNS, hbl, LN.out]; exact hnl
      have hNl : N ≤ 300 := by have := totL_le ws hok; have := LN.out; omega
      have hNm : N ≤ m := by rw [← LM.out]; exact hle
      have hNmb : decide ((m : Int) < (N : Int)) = false := by simp; omega
      have NSH := Lib.hid hNS
      have SZ := Lib.hid hN
      have NH := Lib.hid hal.symm
      have RT := Lib.hid hS.symm
      have RV := Lib.hid hF.symm
      have OK := Lib.hid hok
      have EV := Lib.hid hev
      have XL := Lib.hid hle
      clear hNS hN hS hF hok hev hal hle hsz hbl
      refine (Split_any a b n c m d ws xs _ I.out J.out (by omega) JL.out JM.out).mono ?_
      rintro e w5 ho
      rw [← RT.out] at ho
      obtain ⟨aS1, cS1, he, hj, q, hl, hm⟩ := ho
      have he : e = .returned (.tuple #[.slice aS1 NS cS1, .int .i64 0]) := by rw [he, NSH.out]
      subst he
      have hj : IntsAt w5 aS1 NS bb := by rw [NSH.out]; exact hj
      have hl : NS ≤ cS1 := by rw [NSH.out]; exact hl
      have I := Lib.hid (I.out.keep0 q)
      have I' := Lib.hid (I'.out.keep0 q)
      have J := Lib.hid (J.out.keep0 q)
      have KK := Lib.hid (KK.out.trans0 q)
      have S1 := Lib.hid hj
      have S1L := Lib.hid hl
      have S1M := Lib.hid hm
      clear q hl hm hj
      go_wp2_with fail
      refine (Fields_any a aS1 n c NS cS1 ws bb _ I.out S1.out (by omega) (by omega)).mono ?_
      rintro e w6 ho
      rw [← RV.out] at ho
      obtain ⟨aF1, cF1, he, hj, q, hl, hm⟩ := ho
      have he : e = .returned (.tuple #[.slice aF1 N cF1, .int .i64 0]) := by rw [he, NH.out]
      subst he
      have hj : IntsAt w6 aF1 N aa := by rw [NH.out]; exact hj
      have hl : N ≤ cF1 := by rw [NH.out]; exact hl
      have I := Lib.hid (I.out.keep0 q)
      have I' := Lib.hid (I'.out.keep0 q)
      have J := Lib.hid (J.out.keep0 q)
      have S1 := Lib.hid (S1.out.keep0 q)
      have KK := Lib.hid (KK.out.trans0 q)
      have F1 := Lib.hid hj
      have F1L := Lib.hid hl
      have F1M := Lib.hid hm
      clear q hl hm hj
      go_wp2_with fail
      refine (Size_any a n c ws _ I.out (by omega)).mono ?_
      rintro e w' ⟨he, rfl⟩
      rw [← SZ.out] at he
      have he : e = .returned (.int .i64 (N : Int)) := he
      subst he
      go_wp2_with fail
      go_loop [16, 17] (fun vt vi => ∃ i : Nat, i ≤ n ∧ vi = .int .i64 i ∧ vt = .int .i64 (totL (ws.take i))) (fun _ vi => n - (intOf vi).toNat)
      case atStart => exact ⟨0, Nat.zero_le _, rfl, rfl⟩
      case round =>
        obtain ⟨i, hi, rfl, rfl⟩ := hrel
        have htl := totL_le _ (okW_take OK.out i)
        rw [List.length_take] at htl
        obtain ⟨t, ht⟩ : ∃ t, t = totL (ws.take i) := ⟨_, rfl⟩
        rw [← ht] at htl ⊢
        have htl2 : t ≤ 4800 := by omega
        have HT := Lib.hid ht
        clear ht htl
        by_cases hlt : i < n
        · have hix : i < ws.length := by rw [LN.out]; exact hlt
          rcases a with _ | ⟨lb, lo', ls⟩
          · have := I.out.2.1 rfl; rw [this] at hix; simp at hix
          obtain ⟨rfl, hlc⟩ := I.out.2.2 lb lo' ls rfl (List.ne_nil_of_length_pos (by omega))
          have hx := hlc i hix
          obtain ⟨x, ex⟩ : ∃ x, x = ws.getD i 0 := ⟨_, rfl⟩
          have hxb := OK.out _ (getD_mem hix)
          have hst : ((totL (ws.take (i + 1)) : Nat) : Int) = (t : Int) + x := by rw [take_snoc hix, totL_snoc, ← HT.out, ex]; omega
          rw [← ex] at hx hxb
          have HST := Lib.hid hst
          obtain ⟨hx1, hx2⟩ := hxb
          clear hlc ex hst hix
          go_wp2_with fail
          go_round
          case rel => exact ⟨i + 1, by omega, by go_num, by rw [HST.out]⟩
          case measure => simp [intOf]; omega
        · have htw : ws.take i = ws := List.take_of_length_le (by rw [LN.out]; omega)
          obtain ⟨q, hq⟩ : ∃ q, q = t % 16 := ⟨_, rfl⟩
          have hq16 : q ≤ 15 := by omega
          have hqm : (t : Int).tmod 16 = (q : Int) := by rw [Int.tmod_eq_emod_of_nonneg (by omega)]; omega
          have hqe : (t : Int) % 16 = (q : Int) := by omega
          have HQ := Lib.hid (show totL ws % 16 = q by rw [hq, HT.out, htw])
          clear htw hq
          go_wp2_with fail
          go_loop [18] (fun vi => ∃ j : Nat, j ≤ N ∧ vi = .int .i64 j) (fun vi => N - (intOf vi).toNat)
          case atStart => exact ⟨0, Nat.zero_le _, rfl⟩
          case round =>
            obtain ⟨j, hj, rfl⟩ := hrel
            by_cases hjn : j < N
            · have hjx : j < xs.length := Nat.lt_of_lt_of_le hjn XL.out
              have hja : j < aa.length := by rw [← NH.out]; exact hjn
              rcases b with _ | ⟨mb, mo, ms⟩
              · have := J.out.2.1 rfl; rw [this] at hjx; simp at hjx
              obtain ⟨rfl, hlc⟩ := J.out.2.2 mb mo ms rfl (List.ne_nil_of_length_pos (by omega))
              rcases aF1 with _ | ⟨fb, fo, fs⟩
              · have := F1.out.2.1 rfl; rw [this] at hja; simp at hja
              obtain ⟨rfl, hlc'⟩ := F1.out.2.2 fb fo fs rfl (List.ne_nil_of_length_pos (by omega))
              have hx := hlc j hjx
              have hy := hlc' j hja
              obtain ⟨⟨hx0, hx1⟩, hev⟩ := EV.out j hjn
              rw [HQ.out] at hev
              obtain ⟨x, ex⟩ : ∃ x, x = xs.getD j 0 := ⟨_, rfl⟩
              obtain ⟨y, ey⟩ : ∃ y, y = aa.getD j 0 := ⟨_, rfl⟩
              rw [← ex] at hx hx0 hx1 hev
              rw [← ey] at hy hev
              clear hlc hlc' ex ey hjx hja
              by_cases hlast : j + 1 = N
              · have hl1 : ((j : Int) == (N : Int) - 1) = true := by simp; omega
                by_cases hq0 : 0 < q
                · rw [if_pos ⟨hlast, hq0⟩] at hev
                  obtain ⟨r, hr⟩ : ∃ r, r = 16 - q := ⟨_, rfl⟩
                  have hr16 : r ≤ 15 := by omega
                  have hrq : 16 - (q : Int) = (r : Int) := by omega
                  rw [← hr, P2_eq] at hev
                  obtain ⟨D, hD⟩ : ∃ D, x / 2 ^ r = D := ⟨_, rfl⟩
                  rw [hD] at hev
                  have hy0 : 0 ≤ y ∧ y ≤ 65535 := by
                    have hp := P2_pos r
                    rw [P2_eq] at hp
                    rw [hev, ← hD]
                    have h1 := Int.mul_nonneg (Int.ediv_nonneg hx0 (show (0 : Int) ≤ 2 ^ r by omega)) (show (0 : Int) ≤ 2 ^ r by omega)
                    have h2 := Int.ediv_mul_le x (show (2 : Int) ^ r ≠ 0 by omega)
                    omega
                  obtain ⟨hy1, hy2⟩ := hy0
                  have hE : D * 2 ^ r = y := hev.symm
                  clear hev hr
                  go_wp2_with fail
                  go_round
                  case rel => exact ⟨j + 1, by omega, by go_num⟩
                  case measure => simp [intOf]; omega
                · rw [if_neg (fun hh => hq0 hh.2)] at hev
                  subst hev
                  have hq1 : decide ((0 : Int) < (q : Int)) = false := by simp; omega
                  go_wp2_with fail
                  go_round
                  case rel => exact ⟨j + 1, by omega, by go_num⟩
                  case measure => simp [intOf]; omega
              · rw [if_neg (fun hh => hlast hh.1)] at hev
                subst hev
                have hl1 : ((j : Int) == (N : Int) - 1) = false := by simp; omega
                go_wp2_with fail
                go_round
                case rel => exact ⟨j + 1, by omega, by go_num⟩
                case measure => simp [intOf]; omega
            · go_wp2_with fail
              go_ret
              exact ⟨rfl, KK.out⟩
end Go.Proofs.Ytfmegladcjcjgaa
