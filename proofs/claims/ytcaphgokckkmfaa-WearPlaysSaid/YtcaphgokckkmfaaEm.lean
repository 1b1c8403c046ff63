
/- Wear: the document's Pages, Words, Blank, Clean on its own flash: their contracts. -/
import Derived.Test.YtcaphgokckkmfaaEf
import Derived.Test.YtcaphgokckkmfaaLT
namespace Go.Proofs.Ytcaphgokckkmfaa
open Go.RowKit
set_option maxRecDepth 100000
set_option linter.unusedVariables false
set_option linter.unusedSimpArgs false
variable {w w' : World} {b gw cw be : Nat} {lv : Value} {s : FS} {N G P : Nat}

set_option maxHeartbeats 1000000 in
theorem refPages_any (hF : Rf w b gw cw be lv s) (hg : s.Geo G P) (x : Int) :
    Calls Try.prog 25 #[.pointer (some ⟨b, 0, none⟩), .int .i64 x] w fun e w' => LCOut w w' e (pagesR G P x).1 (pagesR G P x).2 := by
  obtain ⟨i0, hi0, hz0, hz1, hz2⟩ := info_parts Try.info3
  have c0 := hF.c0
  rw [hg.g] at c0
  have lb := hF.lb
  by_cases h1 : x < 0
  · have HR := Lib.hid (show pagesR G P x = (2, []) by unfold pagesR; rw [if_neg (fun h => by have := (inB_iff.1 h).1; omega)])
    rw [HR.out]
    clear HR hF hg
    go_enter Try.func25, Try.ntmps25
    go_wp2_with fail
    go_ret2
    exact ⟨_, rfl, LOut.nil (Keeps.refl _ _)⟩
  by_cases h2 : (G : Int) ≤ x
  · have HR := Lib.hid (show pagesR G P x = (2, []) by unfold pagesR; rw [if_neg (fun h => by have := (inB_iff.1 h).2; omega)])
    rw [HR.out]
    clear HR hF hg
    go_enter Try.func25, Try.ntmps25
    go_wp2_with fail
    go_ret2
    exact ⟨_, rfl, LOut.nil (Keeps.refl _ _)⟩
  obtain ⟨a, rfl⟩ := Int.eq_ofNat_of_zero_le (show 0 ≤ x by omega)
  have ha : a < G := by omega
  obtain ⟨R, hR⟩ : ∃ R, R = a * P := ⟨_, rfl⟩
  have HR := Lib.hid (show pagesR G P (a : Int) = (0, pagesI (R : Int) P) by unfold pagesR; rw [if_pos (inB_iff.2 ⟨by omega, by omega⟩), hR]; rfl)
  rw [HR.out]
  have hRl := hg.pages ha
  have hal := hg.all
  rw [← hR] at hRl
  have hR64 : R ≤ 64 := by omega
  have hpb := hg.pb
  have hm : IntKind.i64.wrap ((a : Int) * (P : Int)) = (R : Int) := by
    have e : (a : Int) * (P : Int) = (R : Int) := by rw [hR]; exact (Int.natCast_mul a P).symm
    rw [e]; exact IntWalk.i64_in _ (by omega)
  have HF := Lib.hid hF
  have HP := Lib.hid hg.p
  have O0 := Lib.hid (own_empty w)
  have K0 := Lib.hid ((Keeps.refl [] w).alloc (.cells #[] 3))
  clear hRl hal hR hg hF HR
  go_enter Try.func25, Try.ntmps25
  go_wp2_with fail
  go_loopw [6, 7] (fun vl vi wr => ∃ (i : Nat) (va : Option Addr) (vc : Nat), i ≤ P ∧ vi = .int .i64 (i : Int) ∧ vl = .slice va i vc ∧ wr.ownsRow w.heap.size 3 1 (.slice va i vc) i ((pagesI (R : Int) i).map (.int .i64)) ∧ Keeps [] w wr) (fun _ vi _ => P - (intOf vi).toNat)
  case atStart => exact ⟨0, _, _, Nat.zero_le _, rfl, rfl, O0.out, K0.out⟩
  case round =>
    obtain ⟨i, va, vc, hi, rfl, rfl, hown, hk⟩ := hrel
    have c1 := (HF.out.keep0 hk).c1
    rw [HP.out] at c1
    have hs := hk.size
    have HO := Lib.hid hown
    have HK := Lib.hid hk
    clear hown hk
    by_cases hlt : i < P
    · have hlti : (i : Int) < (P : Int) := by omega
      have hx : IntKind.i64.wrap ((R : Int) + (i : Int)) = (R : Int) + (i : Int) := IntWalk.i64_in _ (by omega)
      have HO2 := Lib.hid (ownsRow_keep HO.out ((Keeps.refl [] wr).alloc (.cells #[.int .i64 ((R : Int) + (i : Int))] 3)) (by simp))
      have HN := Lib.hid (cell_one_new wr (.int .i64 ((R : Int) + (i : Int))) 3)
      have hbs : w.heap.size ≤ (wr.alloc (.cells #[.int .i64 ((R : Int) + (i : Int))] 3)).heap.size := by simp; omega
      go_wp2_with (at_builtin; refine wpList_append_new _ rfl (.tmp 29) (.tmp 39) 38 rfl w.heap.size 3 i0 (.int .i64 0) 1 8 Try.underlying38 hi0 hz0 hz1 hz2 rfl (by decide) (.slice va i vc) i _ rfl HO2.out ⟨wr.heap.size, 0, none⟩ 1 1 [.int .i64 ((R : Int) + (i : Int))] rfl rfl HN.out (by simp [Value.oneCell']) (by unfold maxLen; omega) (by omega) hbs ?_; intro v' u5 q1 q2 q3 q4; obtain ⟨va', vc', rfl⟩ := own_slice q1; have H1 := Lib.hid q1; have H2 := Lib.hid (grown_facts HO2.out q2 HK.out (Nat.le_refl _)); clear q1 q2 q3 q4)
      go_roundw
      case rel => exact ⟨i + 1, va', vc', by omega, by go_num, rfl, by rw [pagesI_succ, List.map_append]; exact H1.out, H2.out.1⟩
      case measure => simp [intOf]; omega
    · have hin : i = P := by omega
      subst hin
      obtain ⟨a', c', e, q1, q2, q3, q4⟩ := ints_of_own HO.out
      have HE := Lib.hid e
      clear e
      go_wp2_with fail
      go_ret2
      refine ⟨_, rfl, ?_⟩
      rw [pagesI_len]
      exact ⟨a', c', HE.out, q1, q2, q3, q4, HK.out⟩

set_option maxHeartbeats 1000000 in
theorem refBlank_any (hF : Rf w b gw cw be lv s) (hgd : s.Good N) (hg : s.Geo G P) (x : Int) :
    Calls Try.prog 18 #[.pointer (some ⟨b, 0, none⟩), .int .i64 x] w fun e w' => e = .returned (.tuple #[.bool (blankR s x).1, .int .i64 (blankR s x).2]) ∧ ∃ m, w' = w.drewN m := by
  have c5 := hF.c5
  have c7 := hF.c7
  have lb := hF.lb
  have hal := hg.all
  by_cases h1 : x < 0
  · have HR := Lib.hid (show blankR s x = (false, 2) by unfold blankR; rw [if_neg (fun h => by have := (inB_iff.1 h).1; omega)])
    rw [HR.out]
    clear HR hF hg hgd
    go_enter Try.func18, Try.ntmps18
    go_wp2_with fail
    go_ret2
    exact ⟨rfl, 0, rfl⟩
  by_cases h2 : (s.er.length : Int) ≤ x
  · have HR := Lib.hid (show blankR s x = (false, 2) by unfold blankR; rw [if_neg (fun h => by have := (inB_iff.1 h).2; omega)])
    rw [HR.out]
    clear HR hF hg hgd
    go_enter Try.func18, Try.ntmps18
    go_wp2_with fail
    go_ret2
    exact ⟨rfl, 0, rfl⟩
  obtain ⟨q, rfl⟩ := Int.eq_ofNat_of_zero_le (show 0 ≤ x by omega)
  have hq : q < s.er.length := by omega
  have hr0 : blankR s (q : Int) = (!s.off && s.blankP q, offC s.off) := by unfold blankR; rw [if_pos (inB_iff.2 ⟨by omega, by omega⟩)]; rfl
  have hdq : decide ((s.er.length : Int) ≤ (q : Int)) = false := by simp; omega
  by_cases ho : s.off = true
  · have HR := Lib.hid (show blankR s (q : Int) = (false, 10) by rw [hr0, ho]; rfl)
    rw [HR.out]
    rw [ho] at c7
    clear HR hF hg hgd ho hr0
    go_enter Try.func18, Try.ntmps18
    go_wp2_with fail
    go_ret2
    exact ⟨rfl, 0, rfl⟩
  have ho2 : s.off = false := by simpa using ho
  rw [ho2] at c7
  obtain ⟨nn, hnn⟩ := Int.eq_ofNat_of_zero_le (show 0 ≤ s.n by have := hg.nb; omega)
  have htn : s.n.toNat = nn := by rw [hnn]; rfl
  have hnb : 16 ≤ nn ∧ nn ≤ 1024 := by have := hg.nb; omega
  have hin := hgd.pageIn hq
  rw [htn] at hin
  have hwl := hgd.hwl
  obtain ⟨B, hB⟩ : ∃ B, B = q * nn := ⟨_, rfl⟩
  rw [← hB] at hin
  have hm : IntKind.i64.wrap ((q : Int) * (nn : Int)) = (B : Int) := by
    have e : (q : Int) * (nn : Int) = (B : Int) := by rw [hB]; exact (Int.natCast_mul q nn).symm
    rw [e]; exact IntWalk.i64_in _ (by omega)
  have HR := Lib.hid (show blankR s (q : Int) = (allBlank (partL s.w B nn), 0) by rw [hr0, ho2]; unfold FS.blankP; rw [htn, hB]; rfl)
  rw [HR.out]
  have HF := Lib.hid hF
  have c2 := hF.c2
  rw [hnn] at c2
  have c3 := hF.c3
  have HWA := Lib.hid hF.hw
  have HIN := Lib.hid hin
  obtain ⟨wl, hwlE⟩ : ∃ wl, wl = s.w.length := ⟨_, rfl⟩
  rw [← hwlE] at c3 hin hwl
  have HWL := Lib.hid hwlE
  clear HR hF hg hgd ho ho2 hr0 htn hnn hB hwlE
  go_enter Try.func18, Try.ntmps18
  go_wp2_with fail
  go_loopw [6] (fun vi wr => ∃ i m : Nat, i ≤ nn ∧ vi = .int .i64 (i : Int) ∧ (∀ j, j < i → s.w.getD (B + j) 0 = 65535) ∧ wr = w.drewN m) (fun vi _ => nn - (intOf vi).toNat)
  case atStart => exact ⟨0, 0, Nat.zero_le _, rfl, fun j h => by omega, rfl⟩
  case round =>
    obtain ⟨i, m, hi, rfl, hall, rfl⟩ := hrel
    have HA := Lib.hid hall
    clear hall
    by_cases hlt : i < nn
    · have hlti : (i : Int) < (nn : Int) := by omega
      obtain ⟨k, hk⟩ : ∃ k, k = B + i := ⟨_, rfl⟩
      have hx : IntKind.i64.wrap ((B : Int) + (i : Int)) = (k : Int) := by rw [show (B : Int) + (i : Int) = (k : Int) by omega]; exact IntWalk.i64_in _ (by omega)
      have hkl : k < wl := by omega
      have cc := HWA.out.cell (i := k) (by rw [← HWL.out]; exact hkl)
      obtain ⟨y, hy⟩ : ∃ y, y = s.w.getD k 0 := ⟨_, rfl⟩
      rw [← hy] at cc
      have HY := Lib.hid hy
      have HK := Lib.hid hk
      clear hy hk
      by_cases he : y = 65535
      · have hne : (y != 65535) = false := by simp [he]
        have HE := Lib.hid he
        clear he
        go_upto_region 8 with fail
        go_quiet (fail)
        go_wp2_with fail
        go_roundw
        case rel => exact ⟨i + 1, _, by omega, by go_num, fun j hj => by
          by_cases h : j < i
          · exact HA.out j h
          · obtain rfl : j = i := by omega
            rw [← HK.out, ← HY.out]; exact HE.out, rfl⟩
        case measure => simp [intOf]; omega
      · have hne : (y != 65535) = true := by simp [he]
        have hfin : allBlank (partL s.w B nn) = false := by
          cases h : allBlank (partL s.w B nn)
          · rfl
          · have := (allBlank_part HIN.out).1 h i hlt
            rw [← HK.out, ← HY.out] at this
            exact absurd this he
        have HE := Lib.hid hfin
        clear he hfin
        go_upto_region 8 with fail
        go_quiet (fail)
        go_wp2_with fail
        go_ret2
        exact ⟨by rw [HE.out]; rfl, _, World.drewN_drewN _ _ _⟩
    · have hin2 : i = nn := by omega
      have hfin : allBlank (partL s.w B nn) = true := (allBlank_part HIN.out).2 (fun j hj => HA.out j (by omega))
      have HE := Lib.hid hfin
      clear hfin
      go_wp2_with fail
      go_ret2
      exact ⟨by rw [HE.out]; rfl, _, rfl⟩

end Go.Proofs.Ytcaphgokckkmfaa
