/- FlashCuts walked: with a cut of n the flash is as behind the first n raw writes. -/
import Derived.Test.YtjebflafbkmokaaRQ
import Derived.Test.YtjebflafbkmokaaSZ
import Derived.Test.YtjebflafbkmokaaT
import Derived.Deep.RegionHeld3
namespace Go.Proofs.Ytjebflafbkmokaa
open Go.RowKit
set_option linter.unusedVariables false

theorem fl_apart {w : World} {b bw be b' bw' be' : Nat} {dv dv' : Value} {n : Nat} (h1 : ∀ k ∈ foot b bw be dv, k < n) (h2 : ∀ k ∈ foot b' bw' be' dv', n ≤ k) : ∀ k ∈ foot b bw be dv, k ∉ foot b' bw' be' dv' := by
  intro k hk hx
  have := h1 k hk
  have := h2 k hx
  omega

theorem sameInts_eq {a a' : Option Addr} {c c' : Nat} {xs ys : List Int} {w : World} (h : IntsAt w a 64 xs) (h' : IntsAt w a' 64 ys) (he : xs = ys) :
    Calls Try.prog 19 #[.slice a 64 c, .slice a' 64 c'] w fun e w' => e = .returned (.bool true) ∧ ∃ m, w' = w.drewN m := by
  have := sameInts_any a a' 64 64 c c' xs ys w h h' (by unfold maxLen; omega) (by unfold maxLen; omega)
  rwa [decide_eq_true he] at this

theorem sameRaws_eq {a a' : Option Addr} {k c c' : Nat} {xs : List Raw3} {w : World} (h : RawsAt w a k xs) (h' : RawsAt w a' k xs) (hk : k ≤ 640) :
    Calls Try.prog 32 #[.slice a k c, .slice a' k c'] w fun e w' => e = .returned (.bool true) ∧ ∃ m, w' = w.drewN m :=
  sameRaws_any a a' k k c c' xs xs w h h' (by unfold maxLen; omega) (by unfold maxLen; omega) rfl
theorem RawsAt.takes {w : World} {a : Option Addr} {n k : Nat} {L : List Raw3} (h : RawsAt w a n L) (hk : k ≤ n) : RawsAt w a k (L.take k) := by
  refine ⟨by rw [List.length_take, ← h.1]; omega, fun e => by rw [h.2.1 e]; simp, fun b o s e hne => ?_⟩
  have hL : L ≠ [] := by rintro rfl; simp at hne
  refine ⟨(h.2.2 b o s e hL).1, fun i r hr => (h.2.2 b o s e hL).2 i r ?_⟩
  rw [List.getElem?_take] at hr
  split at hr
  · exact hr
  · cases hr

set_option maxRecDepth 100000 in
set_option maxHeartbeats 2000000 in
theorem cuts_any (a : Option Addr) (n c : Nat) (acts : List ActR) (nn : Int) (w : World) (hA : ActsAt w a n acts) :
    Calls Try.prog 5 #[.slice a n c, .int .i64 nn] w fun e w' => e = .returned (.bool true) ∧ Keeps [] w w' := by
  have h120 := amongI_lt nn 120 (by omega) (by omega)
  obtain ⟨m, hm⟩ := Int.eq_ofNat_of_zero_le h120.1
  have hm120 : m < 120 := by omega
  clear h120
  have HM := Lib.hid hm
  clear hm
  go_enter Try.func5, Try.ntmps5
  go_wp2_with fail
  refine (works_any _).mono ?_
  rintro e w1 ⟨rfl, k1⟩
  go_wp2_with fail
  refine (two_any _).mono ?_
  rintro e w2 ⟨rfl, k2⟩
  go_wp2_with fail
  refine (make_yes 2 2 16 _ (by decide +kernel)).mono ?_
  rintro e w3 ⟨xb, rfl, hmx⟩
  have k02 : Keeps [] w w2 := k1.trans0 k2
  obtain ⟨xw, xe, dx0, hx3, hupx, k3⟩ := Own.of_made k02 hmx
  have hx3 : Fl w3 xb xw xe dx0 tw0 := hx3
  clear hmx
  go_wp2_with fail
  refine (two_any _).mono ?_
  rintro e w4 ⟨rfl, k4⟩
  go_wp2_with fail
  refine (make_yes 2 2 16 _ (by decide +kernel)).mono ?_
  rintro e w5 ⟨yb, rfl, hmy⟩
  obtain ⟨yw, ye, dy0, hy5, hupy3, k35⟩ := Own.of_made k4 hmy
  have hy5 : Fl w5 yb yw ye dy0 tw0 := hy5
  clear hmy
  have k05 : Keeps [] w w5 := k3.trans0 k35
  have hx5 := hx3.keep k35 (by simp)
  have hltx := hx3.lt
  have hxy := fl_apart (w := w) hltx hupy3
  have hupy : ∀ k ∈ foot yb yw ye dy0, w.heap.size ≤ k := fun k hk => Nat.le_trans k3.size (hupy3 k hk)
  go_wp2_with fail
  refine (among_any _ _ _ (by omega) (by omega)).mono ?_
  rintro e w6 ⟨he, rfl⟩
  rw [HM.out] at he
  subst he
  go_wp2_with fail
  refine (cut_yes hx5 m).mono ?_
  rintro e w6 ⟨rfl, hx6, k6⟩
  have hy6 := hy5.keep k6 (fun k hk hx => hxy k hx hk)
  have k06 : Keeps [] w w6 := k05.trans k6 (fun x hx => .inr (hupx x hx))
  have hgx := tw0_good.setCut (m : Int) (by omega)
  have hrel0 := CutRel.start m
  go_wp2_with fail
  refine (play_any hx6 hgx (show tw0.n = 16 by decide +kernel) (by omega) k06 hupx a n c acts hA).mono ?_
  rintro e w7 ⟨rfl, dx, hPx⟩
  have hy7 := hy6.keep hPx.keep (fun k hk hx => hxy k hx hk)
  go_wp2_with fail
  refine (play_any hy7 tw0_good (by decide +kernel) (by omega) hPx.k0 hupy a n c acts hA).mono ?_
  rintro e w8 ⟨rfl, dy, hPy⟩
  have hrel := CutRel.plays (acts := acts.take 40) hrel0
  obtain ⟨sx, hsx⟩ : ∃ s, s = FS.plays { tw0 with cut := (m : Int) } (acts.take 40) := ⟨_, rfl⟩
  obtain ⟨sy, hsy⟩ : ∃ s, s = tw0.plays (acts.take 40) := ⟨_, rfl⟩
  rw [← hsx] at hPx hrel
  rw [← hsy] at hPy hrel
  have hdy : sy.done.length ≤ 640 := by have := hPy.good.hd; omega
  clear hsx hsy hrel0 hgx
  have hx8 : Fl w8 xb xw xe dx sx := by
    refine hPx.fl.keep hPy.keep ?_
    intro k hk hx
    have hlt5 := hy5.lt k hx
    have hs6 := k6.size
    rw [mem_foot] at hk
    rcases hk with hk | hk | hk | hk
    · exact hxy k (by rw [mem_foot]; exact .inl hk) hx
    · exact hxy k (by rw [mem_foot]; exact .inr (.inl hk)) hx
    · exact hxy k (by rw [mem_foot]; exact .inr (.inr (.inl hk))) hx
    · rcases hPx.new _ hk with h1 | h1
      · exact hxy k (by rw [mem_foot]; exact .inr (.inr (.inr h1))) hx
      · omega
  have k08 := hPy.k0
  have hupX := hPx.up
  have hy8 := hPy.fl
  have hdx := hrel.dx
  clear hPx hPy hx6 hy7 hy6 hx5 hx3 hy5 hupx hupy hupy3 hxy hltx k6 k06 k05 k35 k3 k4 k1 k2 k02
  go_wp2_with fail
  refine (since_zero hy8 (by omega)).mono ?_
  rintro e w9 ⟨v, rfl, la, lc, rfl, hl9, hla, k9, hlc⟩
  have hx9 := hx8.keep k9 (by simp)
  go_wp2_with fail
  refine (two_any _).mono ?_
  rintro e w10 ⟨rfl, k10⟩
  go_wp2_with fail
  refine (refMake_yes 2 2 16 _ (by decide +kernel)).mono ?_
  rintro e w11 ⟨rb, rfl, hmr⟩
  have hx10 := hx9.keep k10 (by simp)
  have hl10 := hl9.keep k10 (by simp)
  obtain ⟨gw, cw, re, hR0⟩ := RefR.start (w0 := w10) (Keeps.refl [] w10) hmr sy.done
  have k010 : Keeps [] w w10 := (k08.trans0 k9).trans0 k10
  clear hx8 hx9 hl9 hy8
  obtain ⟨L, hL⟩ : ∃ L, L = sy.done := ⟨_, rfl⟩
  obtain ⟨len, hlen⟩ : ∃ len, len = L.length := ⟨_, rfl⟩
  rw [← hL] at hl10 hR0 hdy hlc
  rw [← hL, ← hlen]
  rw [← hlen] at hl10 hdy hlc
  have HLen := Lib.hid hlen
  have HL := Lib.hid hL
  have HRel := Lib.hid hrel
  have HDx := Lib.hid hdx
  clear hlen hL hrel hdx
  go_wp2_with fail
  go_loopw [12] (fun v wr => ∃ (k : Nat) (lv : Value) (t : FS), k ≤ len ∧ k ≤ m ∧ v = .int .i64 k ∧ RefR w10 wr rb gw cw re lv t k L) (fun v _ => m - (intOf v).toNat)
  case atStart => exact ⟨0, _, tw0, Nat.zero_le _, Nat.zero_le _, rfl, hR0⟩
  case round =>
    obtain ⟨k, lv, t, hk, hkm, rfl, hR⟩ := hrel
    by_cases hboth : k < len ∧ k < m
    · obtain ⟨hlt, hlt2⟩ := hboth
      have hkl : k < L.length := by rw [← HLen.out]; exact hlt
      obtain ⟨⟨r1, r2, v⟩, hr⟩ : ∃ r, L[k]? = some r := ⟨_, List.getElem?_eq_getElem hkl⟩
      have hin := HRel.out.rin (r1, r2, v) (by rw [← HL.out]; exact List.mem_of_getElem? hr)
      obtain ⟨q, hq⟩ := Int.eq_ofNat_of_zero_le hin.2.1
      simp only at hq
      subst hq
      have hq64 : q < 64 := by have := hin.2.2; simp only at this; omega
      have hlr := hl10.keep hR.k0 (by simp)
      rcases la with _ | ⟨lb, lo, lsp⟩
      · have := hlr.2.1 rfl; rw [this] at hkl; simp at hkl
      obtain ⟨rfl, hcl⟩ := hlr.2.2 lb lo lsp rfl (List.ne_nil_of_length_pos (by omega))
      obtain ⟨p0, p1, p2⟩ := hcl k _ hr
      simp only at p0 p1 p2
      have b3 := hR.fl.c3
      rw [hR.wl] at b3
      have b4 := hR.fl.hw.cell (i := q) (by rw [hR.wl]; exact hq64)
      have b5 := hR.fl.hw.frozen q
      have b6 := hR.fl.lb
      obtain ⟨x, hx⟩ : ∃ x, x = t.w.getD q 0 := ⟨_, rfl⟩
      rw [← hx] at b4
      have HR := Lib.hid hr
      have HIn := Lib.hid hin
      clear hx hr hin hlr hcl hkl
      cases r1
      · have hkeep2 : ∀ {wz : World}, Keeps [] w10 wz → wz.cell? ⟨lb, lo + k * 3 + 1, none⟩ = some (.int .i64 q) ∧ wz.cell? ⟨lb, lo + k * 3 + 2, none⟩ = some (.int .i64 v) := fun hz => ((hl10.keep hz (by simp)).2.2 lb lo none rfl (by rintro rfl; have := HR.out; simp at this)).2 k _ HR.out |>.2
        go_wp2_with fail
        go_region_held3 (fun w' => w'.cell? ⟨lb, lo + k * 3 + 1, none⟩ = some (.int .i64 q) ∧ w'.cell? ⟨lb, lo + k * 3 + 2, none⟩ = some (.int .i64 v)) (first | exact ⟨p1, p2⟩ | exact hkeep2 hR2.k0 | go_keep)
          (first | (go_at_call 18; refine (ref_prog1 hR q v HR.out HIn.out (by omega)).mono ?_; rintro e wz ⟨rfl, lv2, hR2⟩))
        all_goals go_wp2_with fail
        all_goals
          go_roundw
          case rel => exact ⟨k + 1, lv2, _, by omega, by omega, by go_num, hR2⟩
          case measure => simp [intOf]; omega
      · go_wp2_with fail
        go_region
        all_goals go_wp2_with fail
        all_goals
          go_roundw
          case rel => exact ⟨k + 1, lv, _, by omega, by omega, by go_num, hR.erase q v HR.out hq64⟩
          case measure => simp [intOf]; omega
    · have hxr := hx10.keep hR.k0 (by simp)
      have hxd : Fl wr.drew xb xw xe dx sx := hxr.keep (F := []) ((Keeps.refl _ _).drew) (by simp)
      have b3 := hR.fl.c3
      rw [hR.wl] at b3
      have hwx := HRel.out.wlx
      have hk0 := hR.k0
      have HXD := Lib.hid hxd
      have hS : ∀ wz, Keeps [] wr wz → wz.cell? ⟨rb, 3, none⟩ = some (.slice (some ⟨gw, 0, none⟩) 64 cw) := by
        intro wz hz
        have := (hR.fl.keep0 hz).c3
        rwa [hR.wl] at this
      have HS := Lib.hid hS
      clear hS
      have hLl : L.length ≤ len := by rw [HLen.out]; exact Nat.le_refl _
      obtain ⟨hkl, hsl, hsd, hsw⟩ : k ≤ len ∧ sx.done.length = k ∧ sx.done = L.take k ∧ sx.w = t.w := by
        have hmin : L.take m = L.take k := by
          by_cases hAB : len ≤ m
          · rw [List.take_of_length_le (by omega), List.take_of_length_le (by omega)]
          · rw [show k = m by omega]
        have hd : sx.done = L.take k := by rw [HDx.out, ← HL.out, hmin]
        refine ⟨hk, ?_, hd, ?_⟩
        · rw [hd, List.length_take, ← HLen.out]; omega
        · rw [HRel.out.wx, hR.tw, ← HL.out, hmin]
      have HSW := Lib.hid hsw
      have HSD := Lib.hid hsd
      have HSL := Lib.hid hsl
      have HSt := Lib.hid (show (len ≤ m ∧ sx.off = false) ∨ (m < len ∧ sx.off = true) by
        have := HRel.out.st
        rw [← HL.out, ← HLen.out] at this
        rcases this with h | h
        · exact .inl ⟨h.1, h.2.1⟩
        · exact .inr h)
      have hHK : Keeps [] w wr := k010.trans0 hk0
      have hlr := hl10.keep hk0 (by simp)
      have hlk := hlr.takes hkl
      have HLK := Lib.hid hlk
      clear hsw hsd hsl hxr hxd hLl hlr hlk
      have h3 : (len = k ∧ k < m) ∨ (len = k ∧ m = k) ∨ (m = k ∧ k < len) := by omega
      clear hboth hk hkm
      rcases h3 with ⟨h4, h5⟩ | ⟨h4, h5⟩ | ⟨h4, h5⟩
      · subst h4
        have h6 : (len : Int) < (m : Int) := by omega
        have hdl : decide (m < len) = false := by simp; omega
        have hoff : sx.off = false := by
          rcases HSt.out with h | h
          · exact h.2
          · omega
        go_wp2_with fail
        go_region_held3 (fun w' => w'.cell? ⟨rb, 3, none⟩ = some (.slice (some ⟨gw, 0, none⟩) 64 cw)) (first | exact b3 | exact s1 | exact s2 | exact s3 | exact s4 | go_keep)
          (first
            | (go_at_call 29; refine (image_yes HXD.out (by rw [hwx]; omega)).mono ?_; rintro e wi ⟨v, rfl, g1, c1, rfl, hg1, hA1, k5⟩; have i1 := hA1.ints; rw [hwx] at i1; rw [hwx]; have kri : Keeps [] wr wi := ((Keeps.refl _ _).drew).trans0 k5; have i2 := (hR.fl.hw.keep kri (by simp)).ints; rw [hR.wl] at i2; have hxi := HXD.out.keep k5 (by simp); have HXI := Lib.hid hxi; have I1 := Lib.hid i1; have I2 := Lib.hid i2; have KRI := Lib.hid kri; have s1 := HS.out wi kri; clear i1 i2 hxi kri k5 hA1 hg1)
            | (go_at_call 19; refine (sameInts_eq I1.out I2.out HSW.out).mono ?_; rintro e wj ⟨rfl, m1, rfl⟩; have s2 := HS.out _ (KRI.out.drewN m1); have HXJ := Lib.hid (HXI.out.drewN m1))
            | (go_at_call 28; refine (writes_yes HXJ.out).mono ?_; rintro e wj ⟨he, rfl⟩; rw [HSL.out] at he; subst he)
            | (go_at_call 33; refine (since_zero HXJ.out (by rw [HSL.out]; omega)).mono ?_; rintro e wk ⟨v, rfl, a2, c2, rfl, j1, j2, j3, j4⟩; rw [HSL.out] at j1; rw [HSD.out] at j1; rw [HSL.out]; have krk : Keeps [] wr wk := (KRI.out.drewN m1).trans0 j3; have KRK := Lib.hid krk; have J1 := Lib.hid j1; have J2 := Lib.hid (HLK.out.keep krk (by simp)); have HXK := Lib.hid (HXJ.out.keep j3 (by simp)); have s3 := HS.out wk krk; clear j1 j2 j3 j4 krk)
            | (go_at_call 32; refine (sameRaws_eq J1.out J2.out (by omega)).mono ?_; rintro e wl ⟨rfl, m2, rfl⟩; have s4 := HS.out _ (KRK.out.drewN m2))
            )
        all_goals
          have kf := hHK.trans0 (KRK.out.drewN m2)
          have hxf := HXK.out.drewN m2
          clear s1 s2 s3 s4 I1 I2 J1 J2
          go_wp2_with fail
          refine (read_in hxf 0 (by omega) (by rw [hwx]; omega) hoff).mono ?_
          rintro e wq ⟨he, rfl⟩
          obtain ⟨x, hx⟩ : ∃ x, x = sx.w.getD 0 0 := ⟨_, rfl⟩
          have HX := Lib.hid hx
          try rw [← hx] at he
          clear hx
          subst he
          go_wp2_with fail
          refine (power_yes hxf).mono ?_
          rintro e wp ⟨rfl, hfp, kp⟩
          have kg := kf.trans kp (fun y hy => .inr (hupX y hy))
          have HKG := Lib.hid kg
          clear kg
          go_wp2_with fail
          refine (read_in hfp 0 (by show sx.w.length ≤ _; omega) (by show _ < sx.w.length; rw [hwx]; omega) rfl).mono ?_
          rintro e wq ⟨he, rfl⟩
          change e = .returned (.tuple #[.int .i64 (sx.w.getD 0 0), .int .i64 0]) at he
          rw [← HX.out] at he
          subst he
          go_wp2_with fail
          go_ret
          refine ⟨?_, HKG.out⟩
          first
          | rfl
          | (simp [hdl]; done)
      · subst h4
        subst h5
        have hdl : True := trivial
        have hoff : sx.off = false := by
          rcases HSt.out with h | h
          · exact h.2
          · omega
        go_wp2_with fail
        go_region_held3 (fun w' => w'.cell? ⟨rb, 3, none⟩ = some (.slice (some ⟨gw, 0, none⟩) 64 cw)) (first | exact b3 | exact s1 | exact s2 | exact s3 | exact s4 | go_keep)
          (first
            | (go_at_call 29; refine (image_yes HXD.out (by rw [hwx]; omega)).mono ?_; rintro e wi ⟨v, rfl, g1, c1, rfl, hg1, hA1, k5⟩; have i1 := hA1.ints; rw [hwx] at i1; rw [hwx]; have kri : Keeps [] wr wi := ((Keeps.refl _ _).drew).trans0 k5; have i2 := (hR.fl.hw.keep kri (by simp)).ints; rw [hR.wl] at i2; have hxi := HXD.out.keep k5 (by simp); have HXI := Lib.hid hxi; have I1 := Lib.hid i1; have I2 := Lib.hid i2; have KRI := Lib.hid kri; have s1 := HS.out wi kri; clear i1 i2 hxi kri k5 hA1 hg1)
            | (go_at_call 19; refine (sameInts_eq I1.out I2.out HSW.out).mono ?_; rintro e wj ⟨rfl, m1, rfl⟩; have s2 := HS.out _ (KRI.out.drewN m1); have HXJ := Lib.hid (HXI.out.drewN m1))
            | (go_at_call 28; refine (writes_yes HXJ.out).mono ?_; rintro e wj ⟨he, rfl⟩; rw [HSL.out] at he; subst he)
            | (go_at_call 33; refine (since_zero HXJ.out (by rw [HSL.out]; omega)).mono ?_; rintro e wk ⟨v, rfl, a2, c2, rfl, j1, j2, j3, j4⟩; rw [HSL.out] at j1; rw [HSD.out] at j1; rw [HSL.out]; have krk : Keeps [] wr wk := (KRI.out.drewN m1).trans0 j3; have KRK := Lib.hid krk; have J1 := Lib.hid j1; have J2 := Lib.hid (HLK.out.keep krk (by simp)); have HXK := Lib.hid (HXJ.out.keep j3 (by simp)); have s3 := HS.out wk krk; clear j1 j2 j3 j4 krk)
            | (go_at_call 32; refine (sameRaws_eq J1.out J2.out (by omega)).mono ?_; rintro e wl ⟨rfl, m2, rfl⟩; have s4 := HS.out _ (KRK.out.drewN m2))
            )
        all_goals
          have kf := hHK.trans0 (KRK.out.drewN m2)
          have hxf := HXK.out.drewN m2
          clear s1 s2 s3 s4 I1 I2 J1 J2
          go_wp2_with fail
          refine (read_in hxf 0 (by omega) (by rw [hwx]; omega) hoff).mono ?_
          rintro e wq ⟨he, rfl⟩
          obtain ⟨x, hx⟩ : ∃ x, x = sx.w.getD 0 0 := ⟨_, rfl⟩
          have HX := Lib.hid hx
          try rw [← hx] at he
          clear hx
          subst he
          go_wp2_with fail
          refine (power_yes hxf).mono ?_
          rintro e wp ⟨rfl, hfp, kp⟩
          have kg := kf.trans kp (fun y hy => .inr (hupX y hy))
          have HKG := Lib.hid kg
          clear kg
          go_wp2_with fail
          refine (read_in hfp 0 (by show sx.w.length ≤ _; omega) (by show _ < sx.w.length; rw [hwx]; omega) rfl).mono ?_
          rintro e wq ⟨he, rfl⟩
          change e = .returned (.tuple #[.int .i64 (sx.w.getD 0 0), .int .i64 0]) at he
          rw [← HX.out] at he
          subst he
          go_wp2_with fail
          go_ret
          refine ⟨?_, HKG.out⟩
          first
          | rfl
          | (simp [hdl]; done)
      · subst h4
        have h6 : ¬ len < m := by omega
        have h7 : m ≤ lc := by omega
        have hdl : decide (m < len) = true := by simp; omega
        have hoff : sx.off = true := by
          rcases HSt.out with h | h
          · omega
          · exact h.2
        go_wp2_with fail
        go_region_held3 (fun w' => w'.cell? ⟨rb, 3, none⟩ = some (.slice (some ⟨gw, 0, none⟩) 64 cw)) (first | exact b3 | exact s1 | exact s2 | exact s3 | exact s4 | go_keep)
          (first
            | (go_at_call 29; refine (image_yes HXD.out (by rw [hwx]; omega)).mono ?_; rintro e wi ⟨v, rfl, g1, c1, rfl, hg1, hA1, k5⟩; have i1 := hA1.ints; rw [hwx] at i1; rw [hwx]; have kri : Keeps [] wr wi := ((Keeps.refl _ _).drew).trans0 k5; have i2 := (hR.fl.hw.keep kri (by simp)).ints; rw [hR.wl] at i2; have hxi := HXD.out.keep k5 (by simp); have HXI := Lib.hid hxi; have I1 := Lib.hid i1; have I2 := Lib.hid i2; have KRI := Lib.hid kri; have s1 := HS.out wi kri; clear i1 i2 hxi kri k5 hA1 hg1)
            | (go_at_call 19; refine (sameInts_eq I1.out I2.out HSW.out).mono ?_; rintro e wj ⟨rfl, m1, rfl⟩; have s2 := HS.out _ (KRI.out.drewN m1); have HXJ := Lib.hid (HXI.out.drewN m1))
            | (go_at_call 28; refine (writes_yes HXJ.out).mono ?_; rintro e wj ⟨he, rfl⟩; rw [HSL.out] at he; subst he)
            | (go_at_call 33; refine (since_zero HXJ.out (by rw [HSL.out]; omega)).mono ?_; rintro e wk ⟨v, rfl, a2, c2, rfl, j1, j2, j3, j4⟩; rw [HSL.out] at j1; rw [HSD.out] at j1; rw [HSL.out]; have krk : Keeps [] wr wk := (KRI.out.drewN m1).trans0 j3; have KRK := Lib.hid krk; have J1 := Lib.hid j1; have J2 := Lib.hid (HLK.out.keep krk (by simp)); have HXK := Lib.hid (HXJ.out.keep j3 (by simp)); have s3 := HS.out wk krk; clear j1 j2 j3 j4 krk)
            | (go_at_call 32; refine (sameRaws_eq J1.out J2.out (by omega)).mono ?_; rintro e wl ⟨rfl, m2, rfl⟩; have s4 := HS.out _ (KRK.out.drewN m2))
            )
        all_goals
          have kf := hHK.trans0 (KRK.out.drewN m2)
          have hxf := HXK.out.drewN m2
          clear s1 s2 s3 s4 I1 I2 J1 J2
          go_wp2_with fail
          refine (read_off hxf 0 (by omega) (by rw [hwx]; omega) hoff).mono ?_
          rintro e wq ⟨he, rfl⟩
          obtain ⟨x, hx⟩ : ∃ x, x = sx.w.getD 0 0 := ⟨_, rfl⟩
          have HX := Lib.hid hx
          try rw [← hx] at he
          clear hx
          subst he
          go_wp2_with fail
          refine (power_yes hxf).mono ?_
          rintro e wp ⟨rfl, hfp, kp⟩
          have kg := kf.trans kp (fun y hy => .inr (hupX y hy))
          have HKG := Lib.hid kg
          clear kg
          go_wp2_with fail
          refine (read_in hfp 0 (by show sx.w.length ≤ _; omega) (by show _ < sx.w.length; rw [hwx]; omega) rfl).mono ?_
          rintro e wq ⟨he, rfl⟩
          change e = .returned (.tuple #[.int .i64 (sx.w.getD 0 0), .int .i64 0]) at he
          rw [← HX.out] at he
          subst he
          go_wp2_with fail
          go_ret
          refine ⟨?_, HKG.out⟩
          first
          | rfl
          | (simp [hdl]; done)

end Go.Proofs.Ytjebflafbkmokaa
