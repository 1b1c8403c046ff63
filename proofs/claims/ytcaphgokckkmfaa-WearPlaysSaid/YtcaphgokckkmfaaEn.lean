
/- Wear: the document's Words and Clean on its own flash: their contracts. -/
import Derived.Test.YtcaphgokckkmfaaEm
namespace Go.Proofs.Ytcaphgokckkmfaa
open Go.RowKit
set_option maxRecDepth 100000
set_option linter.unusedVariables false
set_option linter.unusedSimpArgs false
variable {w w' : World} {b gw cw be : Nat} {lv : Value} {s : FS} {N G P : Nat}

set_option maxHeartbeats 1000000 in
theorem refWords_any (hF : Rf w b gw cw be lv s) (hgd : s.Good N) (hg : s.Geo G P) (x : Int) :
    Calls Try.prog 22 #[.pointer (some ⟨b, 0, none⟩), .int .i64 x] w fun e w' => LCOut w w' e (wordsR s G P x).1 (wordsR s G P x).2 := by
  obtain ⟨i0, hi0, hz0, hz1, hz2⟩ := info_parts Try.info3
  have c0 := hF.c0
  rw [hg.g] at c0
  have c7 := hF.c7
  have lb := hF.lb
  by_cases h1 : x < 0
  · have HR := Lib.hid (show wordsR s G P x = (2, []) by unfold wordsR; rw [if_neg (fun h => by have := (inB_iff.1 h).1; omega)])
    rw [HR.out]
    clear HR hF hg hgd
    go_enter Try.func22, Try.ntmps22
    go_wp2_with fail
    go_ret2
    exact ⟨_, rfl, LOut.nil (Keeps.refl _ _)⟩
  by_cases h2 : (G : Int) ≤ x
  · have HR := Lib.hid (show wordsR s G P x = (2, []) by unfold wordsR; rw [if_neg (fun h => by have := (inB_iff.1 h).2; omega)])
    rw [HR.out]
    clear HR hF hg hgd
    go_enter Try.func22, Try.ntmps22
    go_wp2_with fail
    go_ret2
    exact ⟨_, rfl, LOut.nil (Keeps.refl _ _)⟩
  obtain ⟨a, rfl⟩ := Int.eq_ofNat_of_zero_le (show 0 ≤ x by omega)
  have ha : a < G := by omega
  have hr0 : wordsR s G P (a : Int) = if s.off then (10, []) else (0, partL s.w (a * P * s.n.toNat) (P * s.n.toNat)) := by unfold wordsR; rw [if_pos (inB_iff.2 ⟨by omega, by omega⟩)]; rfl
  by_cases ho : s.off = true
  · have HR := Lib.hid (show wordsR s G P (a : Int) = (10, []) by rw [hr0, ho]; rfl)
    rw [HR.out]
    rw [ho] at c7
    clear HR hF hg hgd ho hr0
    go_enter Try.func22, Try.ntmps22
    go_wp2_with fail
    go_ret2
    exact ⟨_, rfl, LOut.nil (Keeps.refl _ _)⟩
  have ho2 : s.off = false := by simpa using ho
  rw [ho2] at c7
  obtain ⟨nn, hnn⟩ := Int.eq_ofNat_of_zero_le (show 0 ≤ s.n by have := hg.nb; omega)
  have htn : s.n.toNat = nn := by rw [hnn]; rfl
  have hnb : 16 ≤ nn ∧ nn ≤ 1024 := by have := hg.nb; omega
  have hpb := hg.pb
  have hgb := hg.gb
  obtain ⟨T, hT⟩ : ∃ T, T = P * nn := ⟨_, rfl⟩
  obtain ⟨B, hB⟩ : ∃ B, B = a * T := ⟨_, rfl⟩
  have hT1 : 16 ≤ T ∧ T ≤ 8192 := by
    have h1 : 1 * 16 ≤ P * nn := Nat.mul_le_mul hpb.1 hnb.1
    have h2 : P * nn ≤ 8 * 1024 := Nat.mul_le_mul hpb.2 hnb.2
    omega
  have hin : B + T ≤ s.w.length := by
    rw [hgd.size, htn, hg.er, hB, hT]
    have : (a + 1) * (P * nn) ≤ G * (P * nn) := Nat.mul_le_mul_right _ ha
    rw [Nat.add_mul, Nat.one_mul, ← Nat.mul_assoc] at this
    rw [← Nat.mul_assoc] at this ⊢
    exact this
  have hwl := hgd.hwl
  have HR := Lib.hid (show wordsR s G P (a : Int) = (0, partL s.w B T) by rw [hr0, ho2, htn, hB, hT, Nat.mul_assoc]; rfl)
  rw [HR.out]
  have c1 := hF.c1
  rw [hg.p] at c1
  have c2 := hF.c2
  rw [hnn] at c2
  have c3 := hF.c3
  have m1 : IntKind.i64.wrap ((P : Int) * (nn : Int)) = (T : Int) := by
    have e : (P : Int) * (nn : Int) = (T : Int) := by rw [hT]; exact (Int.natCast_mul P nn).symm
    rw [e]; exact IntWalk.i64_in _ (by omega)
  have m2 : IntKind.i64.wrap ((a : Int) * (T : Int)) = (B : Int) := by
    have e : (a : Int) * (T : Int) = (B : Int) := by rw [hB]; exact (Int.natCast_mul a T).symm
    rw [e]; exact IntWalk.i64_in _ (by omega)
  obtain ⟨E, hE⟩ : ∃ E, E = B + T := ⟨_, rfl⟩
  have m3 : IntKind.i64.wrap (((a : Int) + 1) * (T : Int)) = (E : Int) := by
    have e : ((a : Int) + 1) * (T : Int) = (E : Int) := by
      rw [hE, hB, Int.add_mul, Int.one_mul]; simp
    rw [e]; exact IntWalk.i64_in _ (by omega)
  have hcw := hF.hw.le
  have hcm := hF.hw.cm
  unfold maxLen at hcm
  have HW := Lib.hid (show IntsAt w (some ⟨gw, B, none⟩) T (partL s.w B T) by
    have h := (hF.hw.ints.drop (k := B) (by omega)).take (k := T) (by omega)
    rwa [Nat.zero_add] at h)
  have HPL := Lib.hid (partL_len hin)
  have HF := Lib.hid hF
  have lw := hF.hw.lt
  obtain ⟨wl, hwlE⟩ : ∃ wl, wl = s.w.length := ⟨_, rfl⟩
  rw [← hwlE] at c3 hin hwl hcw
  have HWLE := Lib.hid hwlE
  clear HR hF hg hgd ho ho2 hr0 htn hnn hB hT hwlE hnb
  have hBE : (B : Int) ≤ (E : Int) := by omega
  have hEW : (E : Int) ≤ (cw : Int) := by omega
  go_enter Try.func22, Try.ntmps22
  go_upto_region 5 with fail
  go_quiet (fail)
  have K1 : Keeps [] w (w.drewN nq) := (Keeps.refl _ _).drewN nq
  have HFn := Lib.hid (HF.out.keep0 K1)
  have HWn := Lib.hid (HW.out.keep0 K1)
  have k1 := Lib.hid K1
  clear K1 c0 c1 c2 c3 c7 lb lw
  generalize w.drewN nq = w1 at *
  have c3 := HFn.out.c3
  rw [← HWLE.out] at c3
  have lb := HFn.out.lb
  have lw := HFn.out.hw.lt
  have O1 := Lib.hid (own_empty w1)
  have N1 := Lib.hid ((HWn.out.keep0 ((Keeps.refl [] w1).alloc (.cells #[] 3))).news)
  have hTl := hT1
  go_wp2_with (at_builtin; refine wpList_append_new _ rfl (.tmp 33) (.tmp 45) 38 rfl w1.heap.size 3 i0 (.int .i64 0) 1 8 Try.underlying38 hi0 hz0 hz1 hz2 rfl (by decide) (.slice (some ⟨w1.heap.size, 0, none⟩) 0 0) 0 [] rfl O1.out ⟨gw, B, none⟩ (B + T - B) (cw - B) ((partL s.w B T).map (.int .i64)) rfl (by rw [List.length_map, HPL.out]; omega) N1.out (by simp [Value.oneCell']) (by unfold maxLen; omega) (by omega) (by simp) ?_; intro v' u5 q1 q2 q3 q4; have q5 : u5.ownsRow w1.heap.size 3 1 v' T ((partL s.w B T).map (.int .i64)) := (by have h := q1; rw [show 0 + (B + T - B) = T by omega, List.nil_append] at h; exact h); obtain ⟨va', vc', rfl⟩ := own_slice q5; have H1 := Lib.hid q5; have H2 := Lib.hid (((Keeps.refl [] w1).alloc (.cells #[] 3)).grown q2 (fun k e => .inr (by simp [Value.ownBlock] at e; omega))); clear q1 q2 q3 q4 q5)
  obtain ⟨a', c', e, q1, q2, q3, q4⟩ := ints_of_own H1.out
  have HE := Lib.hid e
  clear e
  go_ret2
  refine ⟨_, rfl, ?_⟩
  rw [HPL.out]
  have hs := k1.out.size
  exact ⟨a', c', HE.out, q1, q2, q3, fun b o s e => ⟨by have := (q4 b o s e).1; omega, (q4 b o s e).2⟩, k1.out.trans0 H2.out⟩

/-- At the head of a round of the document's cleaning. -/
structure CLR (w2 wr : World) (b gw cw be : Nat) (lv lv' : Value) (s s' : FS) (f m i k N : Nat) : Prop where
  fl : Rf wr b gw cw be lv' s'
  good : s'.Good (N + 1024 * i)
  n : s'.n = s.n
  el : s'.er.length = s.er.length
  h16 : W16 s'.w
  eq : s'.cleanL k ((pagesN f m).drop i) = s.cleanL 0 (pagesN f m)
  kb : k ≤ i
  keep : Keeps (foot b gw be lv) w2 wr
  new : ∀ j, lv'.ownBlock = some j → lv.ownBlock = some j ∨ w2.heap.size ≤ j

theorem refPage_blank (hF : Rf w b gw cw be lv s) (hgd : s.Good N) (hg : s.Geo G P) (q : Nat) (hq : q < s.er.length) :
    Calls Try.prog 18 #[.pointer (some ⟨b, 0, none⟩), .int .i64 (q : Int)] w fun e w' => e = .returned (.tuple #[.bool (!s.off && s.blankP q), .int .i64 (offC s.off)]) ∧ Keeps [] w w' := by
  have h := refBlank_any hF hgd hg (q : Int)
  have e : blankR s (q : Int) = (!s.off && s.blankP q, offC s.off) := by unfold blankR; rw [if_pos (inB_iff.2 ⟨by omega, by omega⟩)]; rfl
  rw [e] at h
  refine h.mono ?_
  rintro e w' ⟨rfl, m, rfl⟩
  exact ⟨rfl, (Keeps.refl _ _).drewN m⟩

theorem geo_same {s' : FS} (hg : s.Geo G P) (h1 : s'.n = s.n) (h2 : s'.g = s.g) (h3 : s'.p = s.p) (h4 : s'.er.length = s.er.length) : s'.Geo G P :=
  ⟨h2.trans hg.g, h3.trans hg.p, hg.gb, hg.pb, by rw [h1]; exact hg.nb, h4.trans hg.er⟩

set_option maxHeartbeats 2000000 in
theorem refClean_any (hF : Rf w b gw cw be lv s) (hgd : s.Good N) (h16 : W16 s.w) (hg : s.Geo G P) (x : Int) (hN : N ≤ 10000000) :
    Calls Try.prog 16 #[.pointer (some ⟨b, 0, none⟩), .int .i64 x] w fun e w' => e = .returned (.tuple #[.int .i64 ((cleanR s G P x).1 : Int), .int .i64 (cleanR s G P x).2.1]) ∧
      ∃ lv', Rf w' b gw cw be lv' (cleanR s G P x).2.2 ∧ Keeps (foot b gw be lv) w w' ∧ ∀ j, lv'.ownBlock = some j → lv.ownBlock = some j ∨ w.heap.size ≤ j := by
  by_cases hx : inB G x = true
  · obtain ⟨a, rfl, ha⟩ := inB_nat hx
    obtain ⟨f, hf⟩ : ∃ f, f = a * P := ⟨_, rfl⟩
    have hfm := hg.pages ha
    have hal := hg.all
    have hpb := hg.pb
    rw [← hf] at hfm
    have hpr : pagesR G P (a : Int) = (0, pagesI (f : Int) P) := by unfold pagesR; rw [if_pos hx, hf]; rfl
    have hP := refPages_any hF hg (a : Int)
    rw [hpr] at hP
    unfold LCOut at hP
    rw [pagesI_len] at hP
    have hr : cleanR s G P (a : Int) = s.cleanL 0 (pagesN f P) := by unfold cleanR; rw [if_pos hx, hf]; rfl
    rw [hr]
    obtain ⟨R, hR⟩ : ∃ R, R = s.cleanL 0 (pagesN f P) := ⟨_, rfl⟩
    rw [← hR]
    have HF := Lib.hid hF
    have HG := Lib.hid hgd
    have H16 := Lib.hid h16
    have HGe := Lib.hid hg
    have HR := Lib.hid hR
    have HP := Lib.hid hP
    have hlt0 := Lib.hid hF.lt
    have hel := hgd.hel
    have hnb := hg.nb.2
    clear hF hgd hR hP hpr hr hx h16 hg hf
    go_enter Try.func16, Try.ntmps16
    go_wp2_with (go_at_call 25; refine HP.out.mono ?_; rintro e w2 ⟨v, rfl, pa, pc, rfl, pi, p2, p3, p4, k2⟩; have PI := Lib.hid pi; have P4 := Lib.hid p4; have K2 := Lib.hid k2; clear pi p2 p3 p4 k2)
    have hpn : ∀ b' o' s', pa = some ⟨b', o', s'⟩ → b' ∉ foot b gw be lv := fun b' o' s' e hx => by have h1 := (P4.out _ _ _ e).1; have h2 := hlt0.out _ hx; omega
    have HPN := Lib.hid hpn
    clear hpn
    go_loopw [8, 9] (fun vk vi wr => ∃ (i k : Nat) (s' : FS) (lv' : Value), i ≤ P ∧ vi = .int .i64 (i : Int) ∧ vk = .int .i64 (k : Int) ∧ s'.Geo G P ∧ CLR w2 wr b gw cw be lv lv' s s' f P i k N) (fun _ vi _ => P - (intOf vi).toNat)
    case atStart => exact ⟨0, 0, s, lv, Nat.zero_le _, rfl, rfl, HGe.out, HF.out.keep K2.out (by simp), HG.out, rfl, rfl, H16.out, rfl, Nat.le_refl _, (Keeps.refl _ _), fun j e => .inl e⟩
    case round =>
      obtain ⟨i, k, s', lv', hi, rfl, rfl, hge, hL⟩ := hrel
      have hkb := hL.kb
      have HL := Lib.hid hL
      have HGs := Lib.hid hge
      clear hL hge
      by_cases hlt : i < P
      · have hlti : (i : Int) < (P : Int) := by omega
        have hpi := PI.out.keep HL.out.keep HPN.out
        obtain ⟨pb, po, rfl, gx⟩ := list_cell hpi (Keeps.refl [] wr) hlt
        rw [pagesI_get hlt] at gx
        obtain ⟨q, hq⟩ : ∃ q, q = f + i := ⟨_, rfl⟩
        rw [show (f : Int) + (i : Int) = (q : Int) by omega] at gx
        have hd : (pagesN f P).drop i = q :: (pagesN f P).drop (i + 1) := by rw [pagesN_drop hlt, hq]
        have hqe : q < s'.er.length := by rw [HL.out.el]; omega
        have HD := Lib.hid hd
        have hpbn := HPN.out pb po none rfl
        have lpb := World.block_lt_of_cell? _ _ gx
        simp only at lpb
        clear hq hd hpi
        by_cases ho : s'.off = true
        · have hfin : R = (0, 10, s') := by rw [HR.out, ← HL.out.eq, HD.out, cleanL_off ho]
          have HFin := Lib.hid hfin
          have HO := Lib.hid ho
          clear hfin ho
          go_wp2_with (go_at_call 18; refine (refPage_blank HL.out.fl HL.out.good HGs.out q hqe).mono ?_; rw [HO.out]; rintro e w4 ⟨rfl, k4⟩; have K4 := Lib.hid k4; clear k4; simp only [offC, Bool.not_true, Bool.false_and, if_true])
          go_ret2
          rw [HFin.out]
          exact ⟨rfl, lv', HL.out.fl.keep0 K4.out, ((K2.out.mono (by simp)).trans HL.out.keep (fun x hx => .inl hx)).trans0 K4.out, fun j e => (HL.out.new j e).imp id (fun h => by have := K2.out.size; omega)⟩
        · have ho2 : s'.off = false := by simpa using ho
          have HO := Lib.hid ho2
          clear ho ho2
          by_cases hbl : s'.blankP q = true
          · have heq : s'.cleanL k ((pagesN f P).drop (i + 1)) = s.cleanL 0 (pagesN f P) := by rw [← HL.out.eq, HD.out, cleanL_blank HO.out hbl]
            have HEq := Lib.hid heq
            have HBl := Lib.hid hbl
            clear heq hbl
            go_wp2_with (go_at_call 18; refine (refPage_blank HL.out.fl HL.out.good HGs.out q hqe).mono ?_; rw [HO.out, HBl.out]; rintro e w4 ⟨rfl, k4⟩; have K4 := Lib.hid k4; clear k4; simp only [offC, Bool.not_false, Bool.true_and, Bool.false_eq_true, if_false])
            go_roundw
            case rel => exact ⟨i + 1, k, s', lv', by omega, by go_num, rfl, HGs.out, HL.out.fl.keep0 K4.out, HL.out.good.mono (by omega), HL.out.n, HL.out.el, HL.out.h16, HEq.out, by omega, HL.out.keep.trans0 K4.out, HL.out.new⟩
            case measure => simp [intOf]; omega
          · have hbl2 : s'.blankP q = false := by simpa using hbl
            have HBl := Lib.hid hbl2
            clear hbl hbl2
            obtain ⟨c, s2, hc⟩ : ∃ c s2, s'.eraseP (q : Int) = (c, s2) := ⟨_, _, rfl⟩
            have HC := Lib.hid hc
            have hsm := eraseP_same s' (q : Int)
            have hgd := HL.out.good.eraseP (q : Int)
            have h16' := HL.out.h16.eraseP (q : Int)
            rw [hc] at hsm hgd h16'
            simp only at hsm hgd h16'
            obtain ⟨hs1, hs2, hs3, hs4, hs5⟩ := hsm
            have hn1 := HL.out.n
            have hnl : s'.n.toNat ≤ 1024 := by rw [hn1]; omega
            have HGD := Lib.hid (hgd.mono (show N + 1024 * i + s'.n.toNat ≤ N + 1024 * (i + 1) by omega))
            have HG2 := Lib.hid (geo_same HGs.out hs1 hs2 hs3 hs5)
            have HS1 := Lib.hid (hs1.trans hn1)
            have HS2 := Lib.hid (hs5.trans HL.out.el)
            have HS3 := Lib.hid h16'
            clear hc hgd hs1 hs2 hs3 hs4 hs5 hn1 h16'
            by_cases hc0 : c = 0
            · subst hc0
              have heq : s2.cleanL (k + 1) ((pagesN f P).drop (i + 1)) = s.cleanL 0 (pagesN f P) := by
                have h := cleanL_yes (k := k) (l := (pagesN f P).drop (i + 1)) HO.out HBl.out (by rw [HC.out])
                rw [HC.out] at h
                rw [← h, ← HD.out]; exact HL.out.eq
              have HEq := Lib.hid heq
              clear heq
              go_wp2_with (first
                | (go_at_call 18; refine (refPage_blank HL.out.fl HL.out.good HGs.out q hqe).mono ?_; rw [HO.out, HBl.out]; rintro e w4 ⟨rfl, k4⟩; have K4 := Lib.hid k4; have g4 : w4.cell? ⟨pb, po + i, none⟩ = some (.int .i64 (q : Int)) := (k4.cell lpb (by simp)).trans gx; clear k4; simp only [offC, Bool.not_false, Bool.true_and, Bool.false_eq_true, if_false])
                | (go_at_call 48; refine (refErase_any (HL.out.fl.keep0 K4.out) HL.out.good HL.out.h16 (q : Int) (by omega)).mono ?_; rw [HC.out]; rintro e w5 ⟨rfl, dv2, f5, k5, n5⟩; have F5 := Lib.hid f5; have K5 := Lib.hid k5; have N5 := Lib.hid n5; clear f5 k5 n5))
              have hsz : w2.heap.size ≤ w4.heap.size := Nat.le_trans HL.out.keep.size K4.out.size
              go_roundw
              case rel => exact ⟨i + 1, k + 1, s2, dv2, by omega, by go_num, by go_num, HG2.out, F5.out, HGD.out, HS1.out, HS2.out, HS3.out, HEq.out, by omega, (HL.out.keep.trans0 K4.out).trans K5.out (foot_sub HL.out.new), fun j e => by
                rcases N5.out j e with h | h
                · exact HL.out.new j h
                · exact .inr (by omega)⟩
              case measure => simp [intOf]; omega
            · have hfin : R = (0, c, s2) := by
                have h := cleanL_no (k := k) (l := (pagesN f P).drop (i + 1)) HO.out HBl.out (by rw [HC.out]; exact hc0)
                rw [HC.out] at h
                rw [HR.out, ← HL.out.eq, HD.out, h]
              have HFin := Lib.hid hfin
              have hcb : (c != 0) = true := by simp [hc0]
              clear hfin hc0
              go_wp2_with (first
                | (go_at_call 18; refine (refPage_blank HL.out.fl HL.out.good HGs.out q hqe).mono ?_; rw [HO.out, HBl.out]; rintro e w4 ⟨rfl, k4⟩; have K4 := Lib.hid k4; have g4 : w4.cell? ⟨pb, po + i, none⟩ = some (.int .i64 (q : Int)) := (k4.cell lpb (by simp)).trans gx; clear k4; simp only [offC, Bool.not_false, Bool.true_and, Bool.false_eq_true, if_false])
                | (go_at_call 48; refine (refErase_any (HL.out.fl.keep0 K4.out) HL.out.good HL.out.h16 (q : Int) (by omega)).mono ?_; rw [HC.out]; rintro e w5 ⟨rfl, dv2, f5, k5, n5⟩; have F5 := Lib.hid f5; have K5 := Lib.hid k5; have N5 := Lib.hid n5; clear f5 k5 n5))
              have hsz : w2.heap.size ≤ w4.heap.size := Nat.le_trans HL.out.keep.size K4.out.size
              have hsz2 := K2.out.size
              go_ret2
              rw [HFin.out]
              exact ⟨rfl, dv2, F5.out, ((K2.out.mono (by simp)).trans (HL.out.keep.trans0 K4.out) (fun x hx => .inl hx)).trans K5.out (fun x hx => by rcases foot_sub (b := b) (bw := gw) (be := be) HL.out.new x hx with h | h; exact .inl h; exact .inr (by omega)), fun j e => by
                rcases N5.out j e with h | h
                · exact (HL.out.new j h).imp id (fun h => by omega)
                · exact .inr (by omega)⟩
      · have hfin : R = (k, 0, s') := by
          rw [HR.out, ← HL.out.eq, List.drop_of_length_le (by rw [pagesN_len]; omega)]
          rfl
        have HFin := Lib.hid hfin
        have hsz2 := K2.out.size
        clear hfin
        go_wp2_with fail
        go_ret2
        rw [HFin.out]
        exact ⟨rfl, lv', HL.out.fl, (K2.out.mono (by simp)).trans HL.out.keep (fun x hx => .inl hx), fun j e => (HL.out.new j e).imp id (fun h => by omega)⟩
  · have hr : cleanR s G P x = (0, 2, s) := by unfold cleanR; rw [if_neg hx]
    have hpr : pagesR G P x = (2, []) := by unfold pagesR; rw [if_neg hx]
    have hP := refPages_any hF hg x
    rw [hpr] at hP
    rw [hr]
    have HF := Lib.hid hF
    have HP := Lib.hid hP
    clear hx hr hpr hP hF hg hgd
    go_enter Try.func16, Try.ntmps16
    go_wp2_with (go_at_call 25; refine HP.out.mono ?_; rintro e w2 ⟨v, rfl, pa, pc, rfl, -, -, -, -, k2⟩; have K2 := Lib.hid k2; clear k2)
    go_ret2
    exact ⟨rfl, lv, HF.out.keep0 K2.out, K2.out.mono (by simp), fun j e => .inl e⟩

end Go.Proofs.Ytcaphgokckkmfaa
