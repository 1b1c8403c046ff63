
/- Wear: WearPlays walked. -/
import Derived.Test.YtcaphgokckkmfaaEo
import Derived.Deep.RegionHeld3
import Derived.Deep.CutBlock
namespace Go.Proofs.Ytcaphgokckkmfaa
open Go.RowKit
set_option maxRecDepth 100000
set_option linter.unusedVariables false
set_option linter.unusedSimpArgs false

theorem prog_same (s : FS) (a : Int) (xs : List Int) : (s.prog a xs).2.n = s.n ∧ (s.prog a xs).2.g = s.g ∧ (s.prog a xs).2.p = s.p ∧ (s.prog a xs).2.w.length = s.w.length ∧ (s.prog a xs).2.er.length = s.er.length := by
  have hr : ∀ (l : List Raw3) (t : FS), (FS.runL t l).1.n = t.n ∧ (FS.runL t l).1.g = t.g ∧ (FS.runL t l).1.p = t.p ∧ (FS.runL t l).1.w.length = t.w.length ∧ (FS.runL t l).1.er.length = t.er.length := by
    intro l
    induction l with
    | nil => intro t; exact ⟨rfl, rfl, rfl, rfl, rfl⟩
    | cons r l ih =>
      intro t
      by_cases hc : t.cut = 0
      · rw [runL_cut hc]; exact ⟨rfl, rfl, rfl, rfl, rfl⟩
      · rw [runL_cons hc]
        obtain ⟨h1, h2, h3, h4, h5⟩ := ih (t.put r)
        exact ⟨h1, h2, h3, h4.trans (FS.put_w_length t r), h5.trans (by simp only [FS.put]; split <;> simp)⟩
  unfold FS.prog
  split
  · split
    · exact ⟨rfl, rfl, rfl, rfl, rfl⟩
    · exact hr _ _
  · exact ⟨rfl, rfl, rfl, rfl, rfl⟩
theorem Sm.of_same {s t : FS} {N M : Nat} (h : Sm s N) (hg : t.Good M) (e : t.n = s.n ∧ t.g = s.g ∧ t.p = s.p ∧ t.w.length = s.w.length ∧ t.er.length = s.er.length) : Sm t M :=
  ⟨hg, ⟨e.2.1.trans h.geo.g, e.2.2.1.trans h.geo.p, h.geo.gb, h.geo.pb, by rw [e.1]; exact h.geo.nb, e.2.2.2.2.trans h.geo.er⟩, e.1.trans h.n16, e.2.2.2.1.trans h.wl, e.2.2.2.2.trans h.el⟩
/-- What stays true of the state. -/
structure Pf (s : FS) (N : Nat) : Prop where
  sm : Sm s N
  h16 : W16 s.w
theorem Pf.mono {s : FS} {N M : Nat} (h : Pf s N) (hm : N ≤ M) : Pf s M := ⟨h.sm.mono hm, h.h16⟩
theorem Pf.prog {s : FS} {N : Nat} (h : Pf s N) (a x : Int) : Pf (s.prog a [x]).2 (N + 1) := ⟨h.sm.of_same (h.sm.good.prog a [x]) (prog_same s a [x]), h.h16.prog a [x]⟩
theorem Pf.clean {s : FS} {N : Nat} (h : Pf s N) (x : Int) : Pf (cleanR s 3 2 x).2.2 (N + 2048) := by
  unfold cleanR
  split
  · exact ⟨h.sm.of_same (cleanL_good h.sm.good h.sm.geo.nb.2) cleanL_same, cleanL_w16 h.h16⟩
  · exact h.mono (by omega)
theorem Pf.cut {s : FS} {N : Nat} (h : Pf s N) (c : Int) (hc : -9223372036854775808 ≤ c ∧ c ≤ 9223372036854775807) : Pf { s with cut := c } N := ⟨h.sm.cut c hc, h.h16⟩
theorem Pf.power {s : FS} {N : Nat} (h : Pf s N) : Pf { s with cut := -1, off := false } N := ⟨h.sm.power.toSm, h.h16⟩
theorem fresh_pf : Pf (FS.fresh 3 2 16) 0 := ⟨sm_fresh.toSm, fun i => by
  simp only [FS.fresh, List.getD, List.getElem?_replicate]
  split
  · exact ⟨65535, rfl, by omega⟩
  · exact ⟨0, rfl, by omega⟩⟩

/-- At the head of a round; and with the act's box. -/
structure PlR (W wr : World) (xb xw xe rb re : Nat) (s : FS) (N : Nat) : Prop where
  bo : Bo W wr xb xw xe rb re s s.nm []
  fit : Pf s N
structure PlA (W wr : World) (xb xw xe rb re : Nat) (s : FS) (N ab : Nat) (r : Act3) : Prop where
  bo : Bo W wr xb xw xe rb re s s.nm [(ab, .cells #[.int .i64 r.d, .int .i64 r.at_, .int .i64 r.n] 34 (0, 0))]
  fit : Pf s N
theorem flipW {P : Program} {f : FuncId} {args : Array Value} {w : World} {v : Value} (h : Calls P f args w fun e w' => e = .returned v ∧ w = w') : Calls P f args w fun e w' => e = .returned v ∧ w' = w := h.mono fun _ _ h => ⟨h.1, h.2.symm⟩

set_option maxHeartbeats 20000000 in
theorem plays_any (a : Option Addr) (m c : Nat) (acts : List Act3) (w : World) (hA : Acts3 w a m acts) (hI : ∀ r ∈ acts, (-9223372036854775808 ≤ r.n ∧ r.n ≤ 9223372036854775807)) :
    Calls Try.prog 3 #[.slice a m c] w fun e w' => e = .returned (.bool true) ∧ Keeps [] w w' := by
  have HA := Lib.hid hA
  have HI := Lib.hid hI
  clear hA hI
  go_enter Try.func3, Try.ntmps3
  go_wp2_with fail
  refine (two_any _).mono ?_
  rintro e w1 ⟨rfl, k1⟩
  go_wp2_with fail
  refine (make_yes 3 2 16 _ (by decide +kernel)).mono ?_
  rintro e w2 ⟨xb, rfl, hmx⟩
  go_wp2_with fail
  refine (two_any _).mono ?_
  rintro e w3 ⟨rfl, k3⟩
  go_wp2_with fail
  refine (refMake_yes 3 2 16 _ (by decide +kernel)).mono ?_
  rintro e w4 ⟨rb, rfl, hmr⟩
  obtain ⟨xw, xe, re, hS⟩ := Bo.start k1 hmx k3 hmr
  have HS0 := Lib.hid hS
  clear k1 hmx k3 hmr hS
  go_wp2_with fail
  go_loopw [7] (fun v wr => ∃ (k : Nat) (s : FS), k ≤ m ∧ k ≤ 60 ∧ v = .int .i64 (k : Int) ∧ PlR w wr xb xw xe rb re s (3000 * k)) (fun v _ => 60 - (intOf v).toNat)
  case atStart => exact ⟨0, _, Nat.zero_le _, by omega, rfl, HS0.out, fresh_pf⟩
  case round =>
    clear HS0
    obtain ⟨k, s, hk, hk60, rfl, hS⟩ := hrel
    have HA2 := HA.out
    by_cases hboth : k < m ∧ k < 60
    · obtain ⟨hlt, hlt2⟩ := hboth
      have hl1 : (k : Int) < (m : Int) := by omega
      have hl2 : (k : Int) < 60 := by omega
      have hka : k < acts.length := by rw [← HA2.1]; exact hlt
      obtain ⟨r, hr⟩ : ∃ r, acts[k]? = some r := ⟨_, List.getElem?_eq_getElem hka⟩
      have HRin := Lib.hid (HI.out r (List.mem_of_getElem? hr))
      rcases a with _ | ⟨ba, oa, sa⟩
      · have := HA2.2.1 rfl; rw [this] at hka; simp at hka
      obtain ⟨rfl, hat⟩ := HA2.2.2 ba oa sa rfl (List.ne_nil_of_length_pos (by omega))
      obtain ⟨e0, e1, e2⟩ := (hat k r hr).keep hS.bo.k0
      have lw := World.block_lt_of_cell? _ _ e0
      simp only at lw
      have h8 := amongI_lt r.d 8 (by omega) (by omega)
      obtain ⟨q, hq⟩ : ∃ q, q = amongI r.d 8 := ⟨_, rfl⟩
      rw [← hq] at h8
      have HQ := Lib.hid hq
      have HB := Lib.hid (show Bo w (wr.alloc (.cells #[.int .i64 r.d, .int .i64 r.at_, .int .i64 r.n] 34)) xb xw xe rb re s s.nm [(wr.heap.size, .cells #[.int .i64 r.d, .int .i64 r.at_, .int .i64 r.n] 34 (0, 0))] from hS.bo.add ((Keeps.refl _ _).alloc _) (Nat.le_refl _) (heap_alloc_new wr _))
      have HF := Lib.hid hS.fit
      clear hat hr hka HA2 hq hS
      go_upto_block 2 with (go_at_call 12; refine (among_any _ _ _ (by omega) (by omega)).mono ?_; rintro e wz ⟨he, rfl⟩; rw [← HQ.out] at he; subst he)
      go_cut [9] (fun okv wx => okv = .bool true ∧ ∃ (s : FS), PlA w wx xb xw xe rb re s (3000 * k + 3000) wr.heap.size r)
      case first =>
        have hc : q = 0 ∨ q = 1 ∨ q = 2 ∨ q = 3 ∨ q = 4 ∨ q = 5 ∨ q = 6 ∨ q = 7 := by omega
        clear HQ h8
        have hAC : ∀ (wy : World) (s1 t1 : FS) (L : List (Nat × Obj)), Bo w wy xb xw xe rb re s1 t1 L → (wr.heap.size, Obj.cells #[.int .i64 r.d, .int .i64 r.at_, .int .i64 r.n] 34 (0, 0)) ∈ L → wy.cell? ⟨wr.heap.size, 1, none⟩ = some (.int .i64 r.at_) ∧ wy.cell? ⟨wr.heap.size, 2, none⟩ = some (.int .i64 r.n) :=
          fun wy s1 t1 L h hm => ⟨cell_of_block (h.box hm) rfl, cell_of_block (h.box hm) rfl⟩
        have AC := Lib.hid hAC
        clear hAC e0 e1 e2
        rcases hc with rfl | rfl | rfl | rfl | rfl | rfl | rfl | rfl
        · as_aux_lemma =>
            go_upto_region 13 with fail
            go_quiet ((go_at_call 12; refine Calls.quiet_of_same (flipW (among_any _ _ _ (by omega) (by omega)))))
            have HBn := Lib.hid (HB.out.step0 ((Keeps.refl _ _).drewN nq))
            generalize (wr.alloc (.cells #[.int .i64 r.d, .int .i64 r.at_, .int .i64 r.n] 34)).drewN nq = wq at *
            obtain ⟨at_, hat⟩ : ∃ at_, at_ = amongI r.at_ 96 := ⟨_, rfl⟩
            obtain ⟨v, hv⟩ : ∃ v, v = amongI r.n 65536 := ⟨_, rfl⟩
            rw [← hat, ← hv]
            have HP0 := Lib.hid (HBn.out.add ((Keeps.refl [] wq).alloc (.cells #[.int .i64 v] 3)) (Nat.le_refl _) (heap_alloc_new wq _))
            clear hat hv
            go_wp2_with fail
            refine (bo_prog HP0.out HF.out.sm.good at_ (some ⟨wq.heap.size, 0, none⟩) 1 1 [v] (ints_one wq v) (by omega) (out_box (List.mem_cons_self ..)) (by omega)).mono ?_
            rintro e w5 ⟨rfl, hq5⟩
            have HP1 := Lib.hid (hq5.add ((Keeps.refl [] w5).alloc (.cells #[.int .i64 v] 3)) (Nat.le_refl _) (heap_alloc_new w5 _))
            obtain ⟨cd, hcd⟩ : ∃ cd, cd = (s.prog at_ [v]).1 := ⟨_, rfl⟩
            have hRP := bo_refProg1 HP1.out HF.out.sm.good HF.out.h16 at_ w5.heap.size 1 1 [v] (ints_one w5 v) (by omega) (List.mem_cons_self ..) (by omega)
            rw [← hcd] at hRP ⊢
            have HRP := Lib.hid hRP
            clear hq5 hcd hRP
            go_wp2_with fail
            refine HRP.out.mono ?_
            rintro e w6 ⟨rfl, hq6⟩
            have HQ6 := Lib.hid hq6
            clear hq6
            go_wp2_with fail
            go_meet
            exact ⟨rfl, _, ⟨HQ6.out.sub (by simp), (HF.out.prog at_ v).mono (by omega)⟩⟩
        · as_aux_lemma =>
            go_upto_region 13 with fail
            go_quiet ((go_at_call 12; refine Calls.quiet_of_same (flipW (among_any _ _ _ (by omega) (by omega)))))
            have HBn := Lib.hid (HB.out.step0 ((Keeps.refl _ _).drewN nq))
            generalize (wr.alloc (.cells #[.int .i64 r.d, .int .i64 r.at_, .int .i64 r.n] 34)).drewN nq = wq at *
            obtain ⟨at_, hat⟩ : ∃ at_, at_ = amongI r.at_ 96 := ⟨_, rfl⟩
            obtain ⟨v, hv⟩ : ∃ v, v = amongI r.n 65536 := ⟨_, rfl⟩
            rw [← hat, ← hv]
            have HP0 := Lib.hid (HBn.out.add ((Keeps.refl [] wq).alloc (.cells #[.int .i64 v] 3)) (Nat.le_refl _) (heap_alloc_new wq _))
            clear hat hv
            go_wp2_with fail
            refine (bo_prog HP0.out HF.out.sm.good at_ (some ⟨wq.heap.size, 0, none⟩) 1 1 [v] (ints_one wq v) (by omega) (out_box (List.mem_cons_self ..)) (by omega)).mono ?_
            rintro e w5 ⟨rfl, hq5⟩
            have HP1 := Lib.hid (hq5.add ((Keeps.refl [] w5).alloc (.cells #[.int .i64 v] 3)) (Nat.le_refl _) (heap_alloc_new w5 _))
            obtain ⟨cd, hcd⟩ : ∃ cd, cd = (s.prog at_ [v]).1 := ⟨_, rfl⟩
            have hRP := bo_refProg1 HP1.out HF.out.sm.good HF.out.h16 at_ w5.heap.size 1 1 [v] (ints_one w5 v) (by omega) (List.mem_cons_self ..) (by omega)
            rw [← hcd] at hRP ⊢
            have HRP := Lib.hid hRP
            clear hq5 hcd hRP
            go_wp2_with fail
            refine HRP.out.mono ?_
            rintro e w6 ⟨rfl, hq6⟩
            have HQ6 := Lib.hid hq6
            clear hq6
            go_wp2_with fail
            go_meet
            exact ⟨rfl, _, ⟨HQ6.out.sub (by simp), (HF.out.prog at_ v).mono (by omega)⟩⟩
        · as_aux_lemma =>
            have hC1 := bo_clean HB.out HF.out.sm.good HF.out.sm.geo r.at_ (by omega)
            have hC2 : ∀ wx, Bo w wx xb xw xe rb re (cleanR s 3 2 r.at_).2.2 s.nm [(wr.heap.size, .cells #[.int .i64 r.d, .int .i64 r.at_, .int .i64 r.n] 34 (0, 0))] → _ := fun wx h => bo_refClean h HF.out.sm.good HF.out.h16 HF.out.sm.geo r.at_ (by omega)
            have hFc := HF.out.clean r.at_
            obtain ⟨r1, r2, r3, hr⟩ : ∃ r1 r2 r3, cleanR s 3 2 r.at_ = (r1, r2, r3) := ⟨_, _, _, rfl⟩
            rw [hr] at hC1 hC2 hFc
            simp only at hC1 hC2 hFc
            have HC1 := Lib.hid hC1
            have HC2 := Lib.hid hC2
            have HFc := Lib.hid hFc
            clear hC1 hC2 hFc hr
            go_wp2_with fail
            refine HC1.out.mono ?_
            rintro e w5 ⟨rfl, hq5⟩
            have d1 := (AC.out _ _ _ _ hq5 (List.mem_singleton.2 rfl)).1
            have HQ5 := Lib.hid hq5
            clear hq5
            go_wp2_with fail
            refine (HC2.out _ HQ5.out).mono ?_
            rintro e w6 ⟨rfl, hq6⟩
            have HQ6 := Lib.hid hq6
            clear hq6
            go_wp2_with fail
            go_meet
            exact ⟨rfl, _, ⟨HQ6.out, HFc.out.mono (by omega)⟩⟩
        · as_aux_lemma =>
            have hC1 := bo_blank HB.out HF.out.sm.good HF.out.sm.geo r.at_
            have hC2 : ∀ wx, Bo w wx xb xw xe rb re s s.nm [(wr.heap.size, .cells #[.int .i64 r.d, .int .i64 r.at_, .int .i64 r.n] 34 (0, 0))] → _ := fun wx h => bo_refBlank h HF.out.sm.good HF.out.sm.geo r.at_
            obtain ⟨r1, r2, hr⟩ : ∃ r1 r2, blankR s r.at_ = (r1, r2) := ⟨_, _, rfl⟩
            rw [hr] at hC1 hC2
            have HC1 := Lib.hid hC1
            have HC2 := Lib.hid hC2
            clear hC1 hC2 hr
            go_wp2_with fail
            refine HC1.out.mono ?_
            rintro e w5 ⟨rfl, k5⟩
            have HQ5 := Lib.hid (HB.out.step0 k5)
            have d1 := (AC.out _ _ _ _ HQ5.out (List.mem_singleton.2 rfl)).1
            clear k5
            go_wp2_with fail
            refine (HC2.out _ HQ5.out).mono ?_
            rintro e w6 ⟨rfl, k6⟩
            have HQ6 := Lib.hid (HQ5.out.step0 k6)
            clear k6
            go_wp2_with fail
            go_meet
            exact ⟨rfl, _, ⟨HQ6.out, HF.out.mono (by omega)⟩⟩
        · as_aux_lemma =>
            by_cases hneg : r.n < -1
            · go_wp2_with (go_at_call 19; refine (bo_cut HB.out r.n).mono ?_; rintro e wz ⟨rfl, hq⟩; obtain ⟨c6, c7, cf⟩ := hq.rc6; have cf6 := cf 6; have a2 := (AC.out _ _ _ _ hq (by simp)).2; have HQ2 := Lib.hid hq; clear hq cf)
              go_meet
              exact ⟨rfl, _, ⟨by rw [nm_cut, if_pos (by omega)]; exact HQ2.out.refCut (-1), (HF.out.cut r.n HRin.out).mono (by omega)⟩⟩
            · go_wp2_with (go_at_call 19; refine (bo_cut HB.out r.n).mono ?_; rintro e wz ⟨rfl, hq⟩; obtain ⟨c6, c7, cf⟩ := hq.rc6; have cf6 := cf 6; have a2 := (AC.out _ _ _ _ hq (by simp)).2; have HQ2 := Lib.hid hq; clear hq cf)
              go_meet
              exact ⟨rfl, _, ⟨by rw [nm_cut, if_neg (by omega)]; exact HQ2.out.refCut r.n, (HF.out.cut r.n HRin.out).mono (by omega)⟩⟩
        · as_aux_lemma =>
            go_wp2_with (go_at_call 20; refine (bo_power HB.out).mono ?_; rintro e wz ⟨rfl, hq⟩; obtain ⟨c6, c7, cf⟩ := hq.rc6; have cf6 := cf 6; have cf7 := cf 7; have HQ2 := Lib.hid hq; clear hq cf)
            go_meet
            exact ⟨rfl, _, ⟨by rw [nm_power]; exact (HQ2.out.refCut (-1)).refOff false, HF.out.power.mono (by omega)⟩⟩
        · as_aux_lemma =>
            have hC1 := bo_words HB.out HF.out.sm.good HF.out.sm.geo r.at_
            have hC2 : ∀ wx, Bo w wx xb xw xe rb re s s.nm [(wr.heap.size, .cells #[.int .i64 r.d, .int .i64 r.at_, .int .i64 r.n] 34 (0, 0))] → _ := fun wx h => bo_refWords h HF.out.sm.good HF.out.sm.geo r.at_
            obtain ⟨r1, r2, hr⟩ : ∃ r1 r2, wordsR s 3 2 r.at_ = (r1, r2) := ⟨_, _, rfl⟩
            rw [hr] at hC1 hC2
            have HC1 := Lib.hid hC1
            have HC2 := Lib.hid hC2
            clear hC1 hC2 hr
            go_wp2_with fail
            refine HC1.out.mono ?_
            rintro e w5 ⟨v, rfl, a5, c5, rfl, i5, p5, q5, -, k5⟩
            have HQ5 := Lib.hid (HB.out.step0 k5)
            have I5 := Lib.hid (And.intro i5 (Nat.le_trans p5 q5))
            have d1 := (AC.out _ _ _ _ HQ5.out (List.mem_singleton.2 rfl)).1
            clear i5 p5 q5 k5
            go_wp2_with fail
            refine (HC2.out _ HQ5.out).mono ?_
            rintro e w6 ⟨v, rfl, a6, c6, rfl, i6, p6, q6, -, k6⟩
            have HQ6 := Lib.hid (HQ5.out.step0 k6)
            have hSm := sameInts_any a5 a6 _ _ c5 c6 r2 r2 w6 (I5.out.1.keep0 k6) i6 I5.out.2 (Nat.le_trans p6 q6)
            rw [decide_eq_true rfl] at hSm
            have HSm := Lib.hid hSm
            clear i6 p6 q6 k6 hSm
            go_wp2_with fail
            refine HSm.out.mono ?_
            rintro e w7 ⟨rfl, m7, rfl⟩
            have HQ7 := Lib.hid (HQ6.out.step0 ((Keeps.refl [] w6).drewN m7))
            go_wp2_with fail
            go_meet
            exact ⟨rfl, _, ⟨HQ7.out, HF.out.mono (by omega)⟩⟩
        · as_aux_lemma =>
            have hC1 := bo_pages HB.out HF.out.sm.geo r.at_
            have hC2 : ∀ wx, Bo w wx xb xw xe rb re s s.nm [(wr.heap.size, .cells #[.int .i64 r.d, .int .i64 r.at_, .int .i64 r.n] 34 (0, 0))] → _ := fun wx h => bo_refPages h HF.out.sm.geo r.at_
            obtain ⟨r1, r2, hr⟩ : ∃ r1 r2, pagesR 3 2 r.at_ = (r1, r2) := ⟨_, _, rfl⟩
            rw [hr] at hC1 hC2
            have HC1 := Lib.hid hC1
            have HC2 := Lib.hid hC2
            clear hC1 hC2 hr
            go_wp2_with fail
            refine HC1.out.mono ?_
            rintro e w5 ⟨v, rfl, a5, c5, rfl, i5, p5, q5, -, k5⟩
            have HQ5 := Lib.hid (HB.out.step0 k5)
            have I5 := Lib.hid (And.intro i5 (Nat.le_trans p5 q5))
            have d1 := (AC.out _ _ _ _ HQ5.out (List.mem_singleton.2 rfl)).1
            clear i5 p5 q5 k5
            go_wp2_with fail
            refine (HC2.out _ HQ5.out).mono ?_
            rintro e w6 ⟨v, rfl, a6, c6, rfl, i6, p6, q6, -, k6⟩
            have HQ6 := Lib.hid (HQ5.out.step0 k6)
            have hSm := sameInts_any a5 a6 _ _ c5 c6 r2 r2 w6 (I5.out.1.keep0 k6) i6 I5.out.2 (Nat.le_trans p6 q6)
            rw [decide_eq_true rfl] at hSm
            have HSm := Lib.hid hSm
            clear i6 p6 q6 k6 hSm
            go_wp2_with fail
            refine HSm.out.mono ?_
            rintro e w7 ⟨rfl, m7, rfl⟩
            have HQ7 := Lib.hid (HQ6.out.step0 ((Keeps.refl [] w6).drewN m7))
            go_wp2_with fail
            go_meet
            exact ⟨rfl, _, ⟨HQ7.out, HF.out.mono (by omega)⟩⟩
      case rest =>
        as_aux_lemma =>
          obtain ⟨rfl, s1, hA1⟩ := hcut
          have HBd := Lib.hid (hA1.bo.step0 ((Keeps.refl _ _).drew))
          obtain ⟨gw2, cw2, hall⟩ := hA1.bo.refAll
          rw [show s1.nm.w = s1.w from rfl, show s1.nm.er = s1.er from rfl] at hall
          have hall2 : ∀ wz, Keeps [] wc wz → wz.cell? ⟨rb, 3, none⟩ = some (.slice (some ⟨gw2, 0, none⟩) s1.w.length cw2) ∧ wz.cell? ⟨rb, 5, none⟩ = some (.slice (some ⟨re, 0, none⟩) s1.er.length s1.er.length) := fun wz hk => (hall wz hk).1
          have hb0 := hall2 _ (Keeps.refl _ _)
          have s0 := hall2 _ ((Keeps.refl _ _).drew)
          have HALL := Lib.hid hall
          have HS := Lib.hid hall2
          have HF1 := Lib.hid hA1.fit
          clear hall hall2 hA1
          go_wp2_with fail
          go_region_held3 (fun w' => w'.cell? ⟨rb, 3, none⟩ = some (.slice (some ⟨gw2, 0, none⟩) s1.w.length cw2) ∧ w'.cell? ⟨rb, 5, none⟩ = some (.slice (some ⟨re, 0, none⟩) s1.er.length s1.er.length)) (first | exact s0 | exact hb0 | exact q1 | exact q2 | exact q3 | exact q4 | go_keep)
            (first
              | (go_at_call 23; have h9 := I2; clear h9; refine (same_ints I2.out (HALL.out _ KRK.out).2.1 (by rw [HF1.out.sm.wl]; omega)).mono ?_; rintro e wl ⟨rfl, m2, rfl⟩; have q4 := HS.out _ (KRK.out.drewN m2); have HBl := Lib.hid (HBk.out.step0 ((Keeps.refl _ _).drewN m2)))
              | (go_at_call 26; refine (bo_counts HBd.out HF1.out.sm.geo).mono ?_; rintro e wi ⟨v, rfl, a1, c1, rfl, i1, -, -, -, k5⟩; have I1 := Lib.hid i1; have kri := ((Keeps.refl [] wc).drew).trans0 k5; have KRI := Lib.hid kri; have q1 := HS.out wi kri; have HBi := Lib.hid (HBd.out.step0 k5); clear i1 kri k5)
              | (go_at_call 23; refine (same_ints I1.out (HALL.out _ KRI.out).2.2 (by rw [HF1.out.sm.el]; omega)).mono ?_; rintro e wj ⟨rfl, m1, rfl⟩; have q2 := HS.out _ (KRI.out.drewN m1); have HBj := Lib.hid (HBi.out.step0 ((Keeps.refl _ _).drewN m1)))
              | (go_at_call 27; refine (bo_image HBj.out HF1.out.sm.good).mono ?_; rintro e wk ⟨v, rfl, g2, c2, rfl, i2, k6⟩; have I2 := Lib.hid i2; have krk := (KRI.out.drewN m1).trans0 k6; have KRK := Lib.hid krk; have q3 := HS.out wk krk; have HBk := Lib.hid (HBj.out.step0 k6); clear i2 krk k6))
          all_goals go_wp2_with fail
          all_goals
            go_roundw
            case rel => exact ⟨k + 1, s1, by omega, by omega, by go_num, ⟨HBl.out.sub (by simp), by rw [show 3000 * (k + 1) = 3000 * k + 3000 by omega]; exact HF1.out⟩⟩
            case measure => simp [intOf]; omega
    · as_aux_lemma =>
        have HK0 := Lib.hid hS.bo.k0
        clear hS
        by_cases hlt : k < m
        all_goals
          try have hlt2 : ¬ k < 60 := fun h => hboth ⟨hlt, h⟩
          clear hboth
          go_wp2_with fail
          refine (works_any _).mono ?_
          rintro e w9 ⟨rfl, k9⟩
          go_wp2_with fail
          go_ret
          exact ⟨rfl, HK0.out.trans0 k9⟩

end Go.Proofs.Ytcaphgokckkmfaa
