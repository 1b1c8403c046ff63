/- FlashActs walked. -/
import Derived.Test.YtjebflafbkmokaaAF
import Derived.Test.YtjebflafbkmokaaV
import Derived.Deep.RegionHeld3
import Derived.Deep.CutBlock
namespace Go.Proofs.Ytjebflafbkmokaa
open Go.RowKit
set_option linter.unusedVariables false

def rcode (b : Bool) : Int := if b then 0 else 2
theorem make_code (g p n : Int) (w : World) : Calls Try.prog 9 #[.agg #[.int .i64 g, .int .i64 p, .int .i64 n]] w fun e w' => ∃ v, e = .returned (.tuple #[v, .int .i64 (rcode (rightB g p n))]) ∧ Keeps [] w w' := by
  by_cases h : rightB g p n = true
  · refine (make_yes g p n w h).mono ?_
    rintro e w' ⟨b, rfl, _, _, _, _, _, _, hk⟩
    exact ⟨_, by rw [h]; rfl, hk⟩
  · have h2 : rightB g p n = false := by simpa using h
    refine (make_bad g p n w h2).mono ?_
    rintro e w' ⟨rfl, hk⟩
    exact ⟨_, by rw [h2]; rfl, hk⟩

/-- At the head of a round. -/
structure AcS (W wr : World) (xb xw xe : Nat) (dx : Value) (rb gw cw re : Nat) (lv : Value) (s : FS) (N gb : Nat) (A B C : Int) : Prop where
  two : Two W wr xb xw xe dx rb gw cw re lv s s.nm
  good : s.Good N
  h16 : W16 s.w
  geo : s.g = A ∧ s.p = B ∧ s.n = C
  wl : 1 ≤ s.w.length
  fr : Free wr xb xw xe dx rb gw re lv gb
  gbk : wr.heap[gb]? = some (.cells #[.int .i64 A, .int .i64 B, .int .i64 C] 23 (0, 0))

theorem fresh_W16 (g p n : Int) : W16 (FS.fresh g p n).w := by
  intro i
  simp only [FS.fresh]
  by_cases h : i < (g * p * n).toNat
  · exact ⟨65535, by simp [List.getD, h], by omega⟩
  · exact ⟨0, by simp [List.getD, h], by omega⟩
theorem fresh_nm (g p n : Int) : (FS.fresh g p n).nm = FS.fresh g p n := by simp [FS.nm, FS.fresh]
theorem fresh_wl {g p n : Int} (h : rightB g p n = true) : 1 ≤ (FS.fresh g p n).w.length := by
  simp only [rightB, Bool.and_eq_true, withinB_iff] at h
  obtain ⟨⟨⟨g1, g2⟩, p1, p2⟩, n1, n2⟩ := h
  have h1 := Int.mul_le_mul g1 p1 (by omega) (by omega)
  have h2 := Int.mul_le_mul (show (1 : Int) ≤ g * p by omega) (show (1 : Int) ≤ n by omega) (by omega) (by omega)
  simp only [FS.fresh, List.length_replicate]
  omega

theorem AcS.start {W wc w3 w4 : World} {xb rb gb : Nat} {A B C : Int} (hk : Keeps [] W wc) (hx : MadeFl wc w3 (FS.fresh A B C) xb) (hr : MadeRf w3 w4 (FS.fresh A B C) rb) (hR : rightB A B C = true)
    (hg : wc.heap[gb]? = some (.cells #[.int .i64 A, .int .i64 B, .int .i64 C] 23 (0, 0))) : ∃ xw xe gw cw re, AcS W w4 xb xw xe (.slice none 0 0) rb gw cw re (.slice none 0 0) (FS.fresh A B C) 0 gb A B C := by
  obtain ⟨xw, xe, hf, h1, h2, h3, k3⟩ := hx
  obtain ⟨gw, cw, re, hfr, q1, q2, q3, k4⟩ := hr
  have s0 := hk.size
  have s3 := k3.size
  have s4 := k4.size
  have lx := hf.lt
  have lg := lt_of_block hg
  have hnx : ∀ k ∈ foot xb xw xe (.slice none 0 0), wc.heap.size ≤ k := by
    intro k hk
    rw [mem_foot] at hk
    rcases hk with rfl | rfl | rfl | hk
    · exact h1
    · exact h2
    · exact h3
    · simp [Value.ownBlock] at hk
  have hnr : ∀ k ∈ foot rb gw re (.slice none 0 0), w3.heap.size ≤ k := by
    intro k hk
    rw [mem_foot] at hk
    rcases hk with rfl | rfl | rfl | hk
    · exact q1
    · exact q2
    · exact q3
    · simp [Value.ownBlock] at hk
  refine ⟨xw, xe, gw, cw, re, ⟨hf.keep k4 (by simp), by rw [fresh_nm]; exact hfr, fun k h h' => by have := lx k h; have := hnr k h'; omega, fun k h => by have := hnx k h; omega, fun k h => by have := hnr k h; omega, (hk.trans0 k3).trans0 k4⟩,
    FS.Good.fresh hR, fresh_W16 _ _ _, ⟨rfl, rfl, rfl⟩, fresh_wl hR, ⟨by omega, fun h => by have := hnx _ h; omega, fun h => by have := hnr _ h; omega⟩, (k3.trans0 k4).held hg (by simp)⟩

/-- At the head of a round. -/
structure AcR (W wr : World) (xb xw xe rb re : Nat) (s : FS) (N gb : Nat) (A B C : Int) : Prop where
  bo : Bo W wr xb xw xe rb re s s.nm [(gb, .cells #[.int .i64 A, .int .i64 B, .int .i64 C] 23 (0, 0))]
  fit : Fit s N A B C
/-- With the act's box. -/
structure AcA (W wr : World) (xb xw xe rb re : Nat) (s : FS) (N gb : Nat) (A B C : Int) (ab : Nat) (r : ActR) : Prop where
  bo : Bo W wr xb xw xe rb re s s.nm [(ab, .cells #[.int .i64 r.d, .int .i64 r.at_, .int .i64 r.n, .slice r.la r.ln r.lc] 38 (0, 0)), (gb, .cells #[.int .i64 A, .int .i64 B, .int .i64 C] 23 (0, 0))]
  fit : Fit s N A B C
theorem AcS.toR {W wr : World} {xb xw xe : Nat} {dx : Value} {rb gw cw re : Nat} {lv : Value} {s : FS} {N gb : Nat} {A B C : Int} (h : AcS W wr xb xw xe dx rb gw cw re lv s N gb A B C) : AcR W wr xb xw xe rb re s N gb A B C :=
  ⟨⟨dx, gw, cw, lv, h.two, fun p hp => by rcases List.mem_singleton.1 hp with rfl; exact ⟨h.fr, h.gbk⟩⟩, h.good, h.h16, h.geo, h.wl⟩

theorem IntsAt.take {w : World} {xs : List Int} {a : Option Addr} {n k : Nat} (h : IntsAt w a n xs) (hk : k ≤ n) : IntsAt w a k (xs.take k) := by
  obtain ⟨rfl, h1, h2⟩ := h
  refine ⟨by simp; omega, fun e => by rw [h1 e]; simp, fun b o s e hne => ?_⟩
  have hne2 : xs ≠ [] := fun h => hne (by rw [h]; simp)
  refine ⟨(h2 b o s e hne2).1, fun i hi => ?_⟩
  have hi2 : i < k := by simp at hi; omega
  rw [(h2 b o s e hne2).2 i (by omega)]
  simp [List.getD, hi2]
theorem ints_any (a : Option Addr) (n c : Nat) (xs : List Int) (w : World) (h : IntsAt w a n xs) (hn : n * 8 ≤ 140737488355328) :
    Calls Try.prog 16 #[.slice a n c] w fun e w' => ∃ v, e = .returned v ∧ ∃ g c', v = .slice (some ⟨g, 0, none⟩) n c' ∧ w.heap.size ≤ g ∧ Arr w' g c' xs ∧ Keeps [] w w' := by
  have hl := h.1
  rcases a with _ | ad
  · have h1 := h.2.1 rfl
    subst h1
    obtain rfl : n = 0 := hl
    exact ints_none 0 c w rfl
  · have := ints_some ad n c xs w h hn
    rwa [← hl] at this
theorem nm_power (s : FS) : FS.nm { s with cut := -1, off := false } = { { s.nm with cut := -1 } with off := false } := by simp [FS.nm]
theorem nm_cut (s : FS) (c : Int) : FS.nm { s with cut := c } = { s.nm with cut := if c < -1 then -1 else c } := by simp [FS.nm]

theorem out_box {W : World} {L : List (Nat × Obj)} {g : Nat} {ob : Obj} (h : (g, ob) ∈ L) : Out W L (some ⟨g, 0, none⟩) := by
  intro b o s e
  injection e with e
  injection e with e1 _ _
  subst e1
  exact .inr ⟨ob, h⟩

set_option maxRecDepth 100000 in
set_option maxHeartbeats 20000000 in
theorem acts_any (g p n : Int) (a : Option Addr) (m c : Nat) (acts : List ActR) (w : World) (hA : ActsAt w a m acts) (hI : ∀ r ∈ acts, InR r) :
    Calls Try.prog 3 #[.agg #[.int .i64 g, .int .i64 p, .int .i64 n], .slice a m c] w fun e w' => e = .returned (.bool true) ∧ Keeps [] w w' := by
  have HA := Lib.hid hA
  have HI := Lib.hid hI
  clear hA hI
  have hR : (rcode (rightB g p n) == 0) = rightB g p n := by cases rightB g p n <;> rfl
  go_enter Try.func3, Try.ntmps3
  go_upto_region 4 with (first
    | (go_at_call 9; refine (make_code g p n _).mono ?_; rintro e w1 ⟨v, rfl, k1⟩; have b1 := k1.held (heap_alloc_new w _) (by simp); have g0 : w1.cell? ⟨w.heap.size, 0, none⟩ = some (.int .i64 g) := cell_of_block b1 rfl; have g1 : w1.cell? ⟨w.heap.size, 1, none⟩ = some (.int .i64 p) := cell_of_block b1 rfl; have g2 : w1.cell? ⟨w.heap.size, 2, none⟩ = some (.int .i64 n) := cell_of_block b1 rfl; have l1 := lt_of_block b1; have B1 := Lib.hid b1; clear b1)
    | (go_at_call 10; refine (refRight_any g p n _).mono ?_; rintro e w2 ⟨rfl, rfl⟩))
  clear hR
  go_cut [] (fun wx => wx.heap[w.heap.size]? = some (.cells #[.int .i64 (smI g 9), .int .i64 (smI p 9), .int .i64 (smI n 32)] 23 (0, 0)) ∧ Keeps [] w wx)
  case first =>
    go_wp2_with (go_at_call 11; refine (small_any g p n _).mono ?_; rintro e w2 ⟨rfl, k2⟩; have b2 := k2.held (heap_alloc_held B1.out _) (by simp); have j0 : w2.cell? ⟨w.heap.size, 0, none⟩ = some (.int .i64 g) := cell_of_block b2 rfl; have j1 : w2.cell? ⟨w.heap.size, 1, none⟩ = some (.int .i64 p) := cell_of_block b2 rfl; have j2 : w2.cell? ⟨w.heap.size, 2, none⟩ = some (.int .i64 n) := cell_of_block b2 rfl; have f0 := frozen_of_block b2 0; have f1 := frozen_of_block b2 1; have f2 := frozen_of_block b2 2; have B2 := Lib.hid b2; clear b2)
    go_meet
    case rel =>
      have h1 := heap_setCell_same (o := 0) B2.out (.int .i64 (smI g 9))
      have h2 := heap_setCell_same (o := 1) h1 (.int .i64 (smI p 9))
      have h3 := heap_setCell_same (o := 2) h2 (.int .i64 (smI n 32))
      have kk : Keeps [] w w2 := (((((Keeps.refl _ _).alloc _).trans0 k1).alloc _).trans0 k2)
      refine ⟨by simpa using h3, ((kk.setCell (.inr (by simp)) _).setCell (.inr (by simp)) _).setCell (.inr (by simp)) _⟩
  case rest =>
    obtain ⟨hgb, hkc⟩ := hcut
    obtain ⟨A, hA⟩ : ∃ A, A = smI g 9 := ⟨_, rfl⟩
    obtain ⟨B, hB⟩ : ∃ B, B = smI p 9 := ⟨_, rfl⟩
    obtain ⟨C, hC⟩ : ∃ C, C = smI n 32 := ⟨_, rfl⟩
    have hC32 : C ≤ 32 := by rw [hC]; unfold smI; split <;> omega
    rw [← hA, ← hB, ← hC] at hgb
    clear hA hB hC g0 g1 g2 l1 B1 k1
    have c0 : wc.cell? ⟨w.heap.size, 0, none⟩ = some (.int .i64 A) := cell_of_block hgb rfl
    have c1 : wc.cell? ⟨w.heap.size, 1, none⟩ = some (.int .i64 B) := cell_of_block hgb rfl
    have c2 : wc.cell? ⟨w.heap.size, 2, none⟩ = some (.int .i64 C) := cell_of_block hgb rfl
    have HGB := Lib.hid hgb
    clear hgb
    by_cases hr : rightB A B C = true
    · have HRt := Lib.hid hr
      clear hr
      go_wp2_with (first
        | (go_at_call 9; refine (make_yes A B C _ HRt.out).mono ?_; rintro e w3 ⟨xb, rfl, hmx⟩; have hk3 : Keeps [] wc w3 := (by obtain ⟨_, _, _, _, _, _, h⟩ := hmx; exact h); have b3 := hk3.held HGB.out (by simp); have d0 : w3.cell? ⟨w.heap.size, 0, none⟩ = some (.int .i64 A) := cell_of_block b3 rfl; have d1 : w3.cell? ⟨w.heap.size, 1, none⟩ = some (.int .i64 B) := cell_of_block b3 rfl; have d2 : w3.cell? ⟨w.heap.size, 2, none⟩ = some (.int .i64 C) := cell_of_block b3 rfl; have B3 := Lib.hid b3; have HMX := Lib.hid hmx; clear b3 hmx)
        | (go_at_call 12; refine (refMake_yes A B C _ HRt.out).mono ?_; rintro e w4 ⟨rb, rfl, hmr⟩; have HMR := Lib.hid hmr; clear hmr))
      obtain ⟨xw, xe, gw, cw, re, hS⟩ := AcS.start hkc HMX.out HMR.out HRt.out HGB.out
      clear c0 c1 c2 d0 d1 d2 B3 HMX HMR HGB hk3 hkc
      go_loopw [11] (fun v wr => ∃ (k : Nat) (s : FS), k ≤ m ∧ k ≤ 40 ∧ v = .int .i64 k ∧ AcR w wr xb xw xe rb re s (100 * k) w.heap.size A B C) (fun v _ => 40 - (intOf v).toNat)
      case atStart => exact ⟨0, _, Nat.zero_le _, by omega, rfl, hS.toR⟩
      case round =>
        clear hS gw cw
        obtain ⟨k, s, hk, hk40, rfl, hS⟩ := hrel
        have HA2 := HA.out
        by_cases hboth : k < m ∧ k < 40
        · obtain ⟨hlt, hlt2⟩ := hboth
          have hka : k < acts.length := by rw [← HA2.1]; exact hlt
          obtain ⟨r, hr⟩ : ∃ r, acts[k]? = some r := ⟨_, List.getElem?_eq_getElem hka⟩
          have hrin := HI.out r (List.mem_of_getElem? hr)
          rcases a with _ | ⟨ba, oa, sa⟩
          · have := HA2.2.2.1 rfl; rw [this] at hka; simp at hka
          obtain ⟨rfl, hat⟩ := HA2.2.2.2 ba oa sa rfl (List.ne_nil_of_length_pos (by omega))
          have HL0 := Lib.hid (hat k r hr).li
          have hact := (hat k r hr).keep hS.bo.k0
          obtain ⟨e0, e1, e2, e3, eli, elm⟩ := hact
          have hal := World.block_lt_of_cell? _ _ (hat k r hr).c0
          have HLI := Lib.hid eli
          have HRin := Lib.hid hrin
          clear hat hr hka HA2 eli
          obtain ⟨hrb, hrl, hrm⟩ := hrin
          obtain ⟨nl, hnl, hnl2⟩ : ∃ nl : Nat, (if (100 : Int) < (r.ln : Int) then (100 : Int) else (r.ln : Int)) = (nl : Int) ∧ nl ≤ r.ln ∧ nl ≤ 100 := by
            split
            · exact ⟨100, rfl, by omega, by omega⟩
            · exact ⟨r.ln, rfl, by omega, by omega⟩
          have HNl := Lib.hid hnl2
          have h8 := amongI_lt r.d 8 (by omega) (by omega)
          obtain ⟨q, hq⟩ : ∃ q, q = amongI r.d 8 := ⟨_, rfl⟩
          rw [← hq] at h8
          have HQ := Lib.hid hq
          clear hnl2 hq
          have lw := World.block_lt_of_cell? _ _ e0
          go_upto_block 2 with (go_at_call 15; refine (among_any _ _ _ (by omega) (by omega)).mono ?_; rintro e wz ⟨he, rfl⟩; rw [← HQ.out] at he; subst he)
          go_cut [14] (fun okv wx => okv = .bool true ∧ ∃ (s : FS), AcA w wx xb xw xe rb re s (100 * k + 100) w.heap.size A B C wr.heap.size r)
          case first =>
            have hc : q = 0 ∨ q = 1 ∨ q = 2 ∨ q = 3 ∨ q = 4 ∨ q = 5 ∨ q = 6 ∨ q = 7 := by omega
            clear HQ
            have hB0 : Bo w (wr.alloc (.cells #[.int .i64 r.d, .int .i64 r.at_, .int .i64 r.n, .slice r.la r.ln r.lc] 38)) xb xw xe rb re s s.nm [(wr.heap.size, .cells #[.int .i64 r.d, .int .i64 r.at_, .int .i64 r.n, .slice r.la r.ln r.lc] 38 (0, 0)), (w.heap.size, .cells #[.int .i64 A, .int .i64 B, .int .i64 C] 23 (0, 0))] :=
              hS.bo.add ((Keeps.refl _ _).alloc _) (Nat.le_refl _) (heap_alloc_new _ _)
            have HB := Lib.hid hB0
            have HF := Lib.hid hS.fit
            have hs32 : 100 * k + s.n.toNat ≤ 4100 := by have := hS.fit.geo.2.2; omega
            have ac : ∀ (wz : World) (s1 t1 : FS) (L : List (Nat × Obj)), Bo w wz xb xw xe rb re s1 t1 L → (wr.heap.size, Obj.cells #[.int .i64 r.d, .int .i64 r.at_, .int .i64 r.n, .slice r.la r.ln r.lc] 38 (0, 0)) ∈ L → wz.cell? ⟨wr.heap.size, 1, none⟩ = some (.int .i64 r.at_) ∧ wz.cell? ⟨wr.heap.size, 2, none⟩ = some (.int .i64 r.n) :=
              fun _ _ _ _ h hm => ⟨cell_of_block (h.box hm) rfl, cell_of_block (h.box hm) rfl⟩
            have AC := Lib.hid ac
            clear hB0 ac
            rcases hc with rfl | rfl | rfl | rfl | rfl | rfl | rfl | rfl
            case inr.inr.inr.inr.inr.inr.inl =>
              as_aux_lemma =>
                go_wp2_with (go_at_call 25; refine (bo_power HB.out).mono ?_; rintro e wz ⟨rfl, hq⟩; obtain ⟨c6, c7, cf⟩ := hq.rc6; have cf6 := cf 6; have cf7 := cf 7; have HQ2 := Lib.hid hq; clear hq cf)
                go_meet
                case rel => exact ⟨rfl, _, ⟨by rw [nm_power]; exact (HQ2.out.refCut (-1)).refOff false, HF.out.power⟩⟩
            case inr.inr.inr.inr.inr.inl =>
              as_aux_lemma =>
                by_cases hneg : r.n < -1
                · go_wp2_with (go_at_call 24; refine (bo_cut HB.out r.n).mono ?_; rintro e wz ⟨rfl, hq⟩; obtain ⟨c6, c7, cf⟩ := hq.rc6; have cf6 := cf 6; have a2 := (AC.out _ _ _ _ hq (by simp)).2; have HQ2 := Lib.hid hq; clear hq cf)
                  go_meet
                  case rel => exact ⟨rfl, _, ⟨by rw [nm_cut, if_pos (by omega)]; exact HQ2.out.refCut (-1), HF.out.cut r.n HRin.out.1⟩⟩
                · go_wp2_with (go_at_call 24; refine (bo_cut HB.out r.n).mono ?_; rintro e wz ⟨rfl, hq⟩; obtain ⟨c6, c7, cf⟩ := hq.rc6; have cf6 := cf 6; have a2 := (AC.out _ _ _ _ hq (by simp)).2; have HQ2 := Lib.hid hq; clear hq cf)
                  go_meet
                  case rel => exact ⟨rfl, _, ⟨by rw [nm_cut, if_neg (by omega)]; exact HQ2.out.refCut r.n, HF.out.cut r.n HRin.out.1⟩⟩
            case inr.inr.inr.inr.inl =>
              as_aux_lemma =>
                go_wp2_with (first
                  | (go_at_call 22; refine (bo_read HB.out HF.out.good r.at_).mono ?_; rintro e wz ⟨rfl, rfl⟩)
                  | (go_at_call 23; refine (bo_refRead HB.out HF.out.good r.at_).mono ?_; rintro e wz ⟨rfl, rfl⟩))
                go_meet
                case rel => exact ⟨rfl, s, ⟨HB.out, HF.out.more⟩⟩
            case inr.inr.inr.inl =>
              as_aux_lemma =>
                go_wp2_with fail
                have hBd := HB.out.step0 ((Keeps.refl _ _).drew)
                have a1 := (AC.out _ _ _ _ hBd (by simp)).1
                have HBd := Lib.hid hBd
                clear hBd
                go_region_held3 (fun w' => w'.cell? ⟨wr.heap.size, 1, none⟩ = some (.int .i64 r.at_)) (first | exact a1 | exact s1 | exact s2 | go_keep)
                  (first
                    | (go_at_call 20; refine (bo_erase HBd.out HF.out.good r.at_ (by omega)).mono ?_; rintro e wz ⟨rfl, hq⟩; have s1 := (AC.out _ _ _ _ hq (by simp)).1; have HQ1 := Lib.hid hq; clear hq)
                    | (go_at_call 21; refine (bo_refErase HQ1.out HF.out.good HF.out.h16 r.at_ (by omega)).mono ?_; rintro e wy ⟨rfl, hq⟩; have s2 := (AC.out _ _ _ _ hq (by simp)).1; have HQ2 := Lib.hid hq; clear hq))
                all_goals
                  go_wp2_with fail
                  go_meet
                  case rel => exact ⟨rfl, _, ⟨HQ2.out, HF.out.eraseP r.at_ hC32⟩⟩
            case inr.inr.inr.inr.inr.inr.inr =>
              as_aux_lemma =>
                obtain ⟨gw, cw, c3, hi3⟩ := HB.out.rw
                obtain ⟨len, hlen⟩ : ∃ len, len = s.w.length := ⟨_, rfl⟩
                have hl1 := HF.out.wl
                have hl2 := HF.out.good.hwl
                rw [show s.nm.w = s.w from rfl, ← hlen] at c3 hi3
                rw [← hlen] at hl1 hl2
                have HLen := Lib.hid hlen
                have HI3 := Lib.hid hi3
                clear hlen hi3
                go_wp2_with fail
                refine (ints_any (some ⟨gw, 0, none⟩) len cw s.w _ HI3.out (by omega)).mono ?_
                rintro e wz ⟨v, rfl, g, c', rfl, hg, hA, kz⟩
                obtain ⟨cur, hb, htk⟩ := hA.ex
                have hq := HB.out.add kz hg hb
                obtain ⟨a1, a2⟩ := AC.out _ _ _ _ hq (by simp)
                have hj := amongI_lt r.at_ len (by omega) (by omega)
                obtain ⟨j, hj2⟩ := Int.eq_ofNat_of_zero_le hj.1
                have hjl : j < s.w.length := by have := HLen.out; omega
                have hjn : j < len := by omega
                have b1 := hA.cell hjl
                have b2 := hA.frozen j
                have hwg : w.heap.size ≤ g := by have := hS.bo.k0.size; simp at hg; omega
                obtain ⟨x, hx⟩ : ∃ x, x = s.w.getD j 0 := ⟨_, rfl⟩
                rw [← hx] at b1
                have hcall : ∀ wx, Calls Try.prog 15 #[.int .i64 r.at_, .int .i64 len] wx fun e w' => e = .returned (.int .i64 (j : Int)) ∧ w' = wx := by
                  intro wx
                  refine (among_any r.at_ len wx (by omega) (by omega)).mono ?_
                  rintro e w' ⟨he, rfl⟩
                  rw [hj2] at he
                  exact ⟨he, rfl⟩
                have HC := Lib.hid hcall
                have hA2 := (hA.keep ((Keeps.refl [] _).drew) (by simp)).set hjl r.n
                obtain ⟨cur2, hb2, htk2, hsz2⟩ := hA2.ex
                have hws := hS.bo.k0.size
                have hq2 := hq.turn (((Keeps.refl [g] wz).drew).setCell (p := ⟨g, j, none⟩) (.inl (by simp)) (.int .i64 r.n)) hb2 (by
                  intro p hp
                  simp at hg
                  simp only [List.mem_cons, List.not_mem_nil, or_false] at hp
                  rcases hp with rfl | rfl
                  · simp only; omega
                  · simp only; omega) hwg
                obtain ⟨zs, hzs⟩ : ∃ zs, zs = s.w.set j r.n := ⟨_, rfl⟩
                rw [← hzs] at hA2 htk2
                have hzl : zs.length = s.w.length := by rw [hzs]; simp
                have hi2 := hA2.ints
                rw [hzl, ← HLen.out] at hi2
                obtain ⟨cd, hcd⟩ : ∃ cd : Int, cd = if fitB zs = true then 0 else 2 := ⟨_, rfl⟩
                have HCD := Lib.hid hcd
                clear hcd
                have HI2 := Lib.hid hi2
                have HQ2 := Lib.hid hq2
                have HB2 := Lib.hid hb2
                have HZL := Lib.hid hzl
                have hgl := hA2.le
                have oz : ∀ (wy : World) (s1 t1 : FS) (L : List (Nat × Obj)), Bo w wy xb xw xe rb re s1 t1 L → (g, Obj.cells cur2 3 (0, 0)) ∈ L → Arr wy g c' zs :=
                  fun wy s1 t1 L h hm => ⟨⟨cur2, h.box hm, htk2, hsz2⟩, hA2.le, hA2.cm⟩
                have OZ := Lib.hid oz
                have hgs : ∀ p ∈ [(wr.heap.size, Obj.cells #[.int .i64 r.d, .int .i64 r.at_, .int .i64 r.n, .slice r.la r.ln r.lc] 38 (0, 0)), (w.heap.size, Obj.cells #[.int .i64 A, .int .i64 B, .int .i64 C] 23 (0, 0))], p.1 ≠ g := by
                  intro p hp
                  simp at hg
                  simp only [List.mem_cons, List.not_mem_nil, or_false] at hp
                  rcases hp with rfl | rfl
                  · simp only; omega
                  · simp only; omega
                have HGS := Lib.hid hgs
                clear hj hj2 hq hA hb htk hx hg hcall hb2 htk2 hsz2 hq2 hA2 hzs hzl hi2 hgl hgs kz oz
                go_wp2_with fail
                go_still_tail 9, (by kernel_rfl)
                still_call (HC.out _)
                repeat still_step
                refine wpStill_nil ?_
                change wpList _ _ _ _ _ wz.drew
                go_wp2_with fail
                refine (bo_load HQ2.out HF.out.good _ len _ zs HI2.out HLen.out).mono ?_
                rintro e w5 ⟨he, hq5⟩
                rw [← HCD.out] at he
                subst he
                have hi5 := (OZ.out _ _ _ _ hq5 (by simp)).ints
                rw [HZL.out, ← HLen.out] at hi5
                have HI5 := Lib.hid hi5
                have HQ5 := Lib.hid hq5
                clear hi5 hq5
                go_wp2_with fail
                refine (bo_refLoad HQ5.out HF.out.good _ len _ zs HI5.out HLen.out hl1).mono ?_
                rintro e w6 ⟨he, hq6⟩
                rw [← HCD.out] at he
                subst he
                have hz6 := OZ.out _ _ _ _ hq6 (by simp)
                have z1 := hz6.cell (i := 0) (by have := HZL.out; have := HLen.out; omega)
                have z2 := hz6.frozen 0
                obtain ⟨z0, hz0⟩ : ∃ z, z = zs.getD 0 0 := ⟨_, rfl⟩
                rw [← hz0] at z1
                have hq7 := hq6.turn ((Keeps.refl [g] w6).setCell (p := ⟨g, 0, none⟩) (.inl (by simp)) (.int .i64 77)) (heap_setCell_same (hq6.box (List.mem_cons_self ..)) _) HGS.out hwg
                have HQ7 := Lib.hid hq7
                have hcl : 0 < len := by omega
                clear hz0 hz6 hq6 hq7
                go_wp2_with fail
                go_meet
                case rel => exact ⟨rfl, _, ⟨HQ7.out.sub (by simp), HF.out.load zs HZL.out⟩⟩
            all_goals
              as_aux_lemma =>
                obtain ⟨ys, hys⟩ : ∃ ys, ys = r.l.take nl := ⟨_, rfl⟩
                have hyw : IntsAt w r.la nl ys := by rw [hys]; exact HL0.out.take HNl.out.1
                have HYW := Lib.hid hyw
                have hn100 := HNl.out.2
                clear hys hyw
                go_wp2_with fail
                refine (ints_any r.la nl r.lc ys _ (HYW.out.keep0 HB.out.k0) (by omega)).mono ?_
                rintro e wz ⟨v, rfl, g, c', rfl, hg, hA, kz⟩
                obtain ⟨cur, hb, htk⟩ := hA.ex
                have hq := (HB.out.add kz hg hb).step0 ((Keeps.refl _ _).drew)
                have a1 := (AC.out _ _ _ _ hq (by simp)).1
                have oa2 : ∀ (wy : World) (s1 t1 : FS) (L : List (Nat × Obj)), Bo w wy xb xw xe rb re s1 t1 L → (g, Obj.cells cur 3 (0, 0)) ∈ L → IntsAt wy (some ⟨g, 0, none⟩) nl ys := by
                  intro wy s1 t1 L h hm
                  have h1 : Arr wy g c' ys := ⟨⟨cur, h.box hm, htk⟩, hA.le, hA.cm⟩
                  have h2 := h1.ints
                  rwa [← HYW.out.1] at h2
                have OA := Lib.hid oa2
                have HQ0 := Lib.hid hq
                clear hq oa2 hA hb htk hg kz
                go_wp2_with fail
                go_region_held3 (fun w' => w'.cell? ⟨wr.heap.size, 1, none⟩ = some (.int .i64 r.at_)) (first | exact a1 | exact s1 | exact s2 | go_keep)
                  (first
                    | (go_at_call 17; refine (bo_prog HQ0.out HF.out.good r.at_ _ nl _ ys (OA.out _ _ _ _ HQ0.out (by simp)) (by omega) (out_box (List.mem_cons_self ..)) (by omega)).mono ?_; rintro e wy ⟨rfl, hq⟩; have s1 := (AC.out _ _ _ _ hq (by simp)).1; have HQ1 := Lib.hid hq; clear hq)
                    | (go_at_call 18; refine (bo_refProg HQ1.out HF.out.good HF.out.h16 r.at_ r.la nl r.lc ys HYW.out (by omega) (by omega)).mono ?_; rintro e wx2 ⟨rfl, hq⟩; have s2 := (AC.out _ _ _ _ hq (by simp)).1; have HQ2 := Lib.hid hq; clear hq))
                all_goals
                  go_wp2_with fail
                  refine (sameInts_any _ _ nl nl _ _ ys ys _ (OA.out _ _ _ _ HQ2.out (by simp)) (HYW.out.keep0 HQ2.out.k0) (by unfold maxLen; omega) (by unfold maxLen; omega)).mono ?_
                  rintro e wv ⟨he, mm, rfl⟩
                  rw [decide_eq_true rfl] at he
                  subst he
                  go_wp2_with fail
                  go_meet
                  case rel => exact ⟨rfl, _, ⟨(HQ2.out.step0 ((Keeps.refl _ _).drewN _)).sub (by simp), HF.out.prog r.at_ ys (by have := HYW.out.1; omega)⟩⟩
          case rest =>
            as_aux_lemma =>
              obtain ⟨rfl, s1, hA1⟩ := hcut
              have hf1 := hA1.fit
              have HBd := Lib.hid (hA1.bo.step0 ((Keeps.refl _ _).drew))
              obtain ⟨gw2, cw2, la, lc, hall⟩ := hA1.bo.refAll
              rw [show s1.nm.w = s1.w from rfl, show s1.nm.done = s1.done from rfl] at hall
              have hall2 : ∀ wz, Keeps [] wc wz → wz.cell? ⟨rb, 3, none⟩ = some (.slice (some ⟨gw2, 0, none⟩) s1.w.length cw2) ∧ wz.cell? ⟨rb, 4, none⟩ = some (.slice la s1.done.length lc) ∧ wz.cell? ⟨wr.heap.size, 1, none⟩ = some (.int .i64 r.at_) :=
                fun wz hk => ⟨(hall wz hk).1.1, (hall wz hk).1.2, cell_of_block ((hA1.bo.step0 hk).box (List.mem_cons_self ..)) rfl⟩
              have hb0 := hall2 _ (Keeps.refl _ _)
              have s0 := hall2 _ ((Keeps.refl _ _).drew)
              have HALL := Lib.hid hall
              have HS := Lib.hid hall2
              have HA1 := Lib.hid hA1
              have HF1 := Lib.hid hf1
              have HRB := Lib.hid (lt_of_block (show wc.heap[wr.heap.size]? = some _ from hA1.bo.box (List.mem_cons_self ..)))
              clear hall hall2 hA1 hf1
              go_wp2_with fail
              go_region_held3 (fun w' => w'.cell? ⟨rb, 3, none⟩ = some (.slice (some ⟨gw2, 0, none⟩) s1.w.length cw2) ∧ w'.cell? ⟨rb, 4, none⟩ = some (.slice la s1.done.length lc) ∧ w'.cell? ⟨wr.heap.size, 1, none⟩ = some (.int .i64 r.at_)) (first | exact s0 | exact hb0 | exact q1 | exact q2 | go_keep)
                (first
                  | (go_at_call 28; refine (bo_writes HBd.out).mono ?_; rintro e wj ⟨rfl, rfl⟩)
                  | (go_at_call 29; refine (bo_image HBd.out HF1.out.good).mono ?_; rintro e wi ⟨v, rfl, g1, c1, rfl, i1, k5⟩; have I1 := Lib.hid i1; have kri := ((Keeps.refl [] wc).drew).trans0 k5; have KRI := Lib.hid kri; have q1 := HS.out wi kri; have HBi := Lib.hid (HBd.out.step0 k5); clear i1 kri k5)
                  | (go_at_call 19; refine (same_ints I1.out (HALL.out _ KRI.out).2.1 HF1.out.good.hwl).mono ?_; rintro e wj ⟨rfl, m1, rfl⟩; have q2 := HS.out _ (KRI.out.drewN m1); have HBj := Lib.hid (HBi.out.step0 ((Keeps.refl _ _).drewN m1)))
                  | (go_at_call 30; refine (bo_erases HBj.out HF1.out.good _).mono ?_; rintro e wk ⟨rfl, rfl⟩)
                  | (go_at_call 31; refine (bo_refErases HBj.out HF1.out.good _).mono ?_; rintro e wk ⟨rfl, rfl⟩))
              all_goals go_wp2_with fail
              all_goals
                go_roundw
                case rel => exact ⟨k + 1, s1, by omega, by omega, by go_num, ⟨HBj.out.sub (by simp), by rw [show 100 * (k + 1) = 100 * k + 100 by omega]; exact HF1.out⟩⟩
                case measure => simp [intOf]; omega
        · as_aux_lemma =>
            have hf1 := hS.fit
            obtain ⟨gw2, cw2, la, lc, hall⟩ := hS.bo.refAll
            rw [show s.nm.w = s.w from rfl, show s.nm.done = s.done from rfl] at hall
            have hall2 : ∀ wz, Keeps [] wr wz → wz.cell? ⟨rb, 3, none⟩ = some (.slice (some ⟨gw2, 0, none⟩) s.w.length cw2) ∧ wz.cell? ⟨rb, 4, none⟩ = some (.slice la s.done.length lc) ∧ wz.cell? ⟨w.heap.size, 0, none⟩ = some (.int .i64 A) ∧ wz.cell? ⟨w.heap.size, 1, none⟩ = some (.int .i64 B) ∧ wz.cell? ⟨w.heap.size, 2, none⟩ = some (.int .i64 C) :=
              fun wz hk => ⟨(hall wz hk).1.1, (hall wz hk).1.2, cell_of_block ((hS.bo.step0 hk).box (List.mem_cons_self ..)) rfl, cell_of_block ((hS.bo.step0 hk).box (List.mem_cons_self ..)) rfl, cell_of_block ((hS.bo.step0 hk).box (List.mem_cons_self ..)) rfl⟩
            have hb0 := hall2 _ (Keeps.refl _ _)
            have s0 := hall2 _ ((Keeps.refl _ _).drew)
            have hdl := hf1.good.hd
            have HBd := Lib.hid (hS.bo.step0 ((Keeps.refl _ _).drew))
            have HALL := Lib.hid hall
            have HS := Lib.hid hall2
            have HF1 := Lib.hid hf1
            have HK0 := Lib.hid hS.bo.k0
            clear hall hall2 hS hf1
            by_cases hlt : k < m
            all_goals
              try have hlt2 : ¬ k < 40 := fun h => hboth ⟨hlt, h⟩
              clear hboth
              go_wp2_with fail
              go_region_held3 (fun w' => w'.cell? ⟨rb, 3, none⟩ = some (.slice (some ⟨gw2, 0, none⟩) s.w.length cw2) ∧ w'.cell? ⟨rb, 4, none⟩ = some (.slice la s.done.length lc) ∧ w'.cell? ⟨w.heap.size, 0, none⟩ = some (.int .i64 A) ∧ w'.cell? ⟨w.heap.size, 1, none⟩ = some (.int .i64 B) ∧ w'.cell? ⟨w.heap.size, 2, none⟩ = some (.int .i64 C)) (first | exact s0 | exact hb0 | exact q1 | exact q2 | exact q3 | exact q4 | go_keep)
                (first
                  | (go_at_call 33; refine (bo_since HBd.out (by omega)).mono ?_; rintro e wi ⟨v, rfl, a2, c2, rfl, j1, j2, j3, j4⟩; have J1 := Lib.hid j1; have kri := ((Keeps.refl [] wr).drew).trans0 j3; have KRI := Lib.hid kri; have q1 := HS.out wi kri; have HBi := Lib.hid (HBd.out.step0 j3); clear j1 j2 j3 j4 kri)
                  | (go_at_call 32; refine (same_raws J1.out (HALL.out _ KRI.out).2.2 (by omega)).mono ?_; rintro e wj ⟨rfl, m1, rfl⟩; have q2 := HS.out _ (KRI.out.drewN m1); have HBj := Lib.hid (HBi.out.step0 ((Keeps.refl _ _).drewN m1)))
                  | (go_at_call 13; refine (bo_size HBj.out).mono ?_; rintro e wk ⟨rfl, rfl⟩)
                  | (go_at_call 34; refine (bo_geometry HBj.out HF1.out).mono ?_; rintro e wk ⟨rfl, k6⟩; have krk := (KRI.out.drewN m1).trans0 k6; have q3 := HS.out _ krk; have KRK := Lib.hid krk; clear krk k6)
                  | (go_at_call 14; refine (works_any _).mono ?_; rintro e wl ⟨rfl, k7⟩; have q4 := HS.out _ (KRK.out.trans0 k7)))
              all_goals go_wp2_with fail
              all_goals
                go_ret
                exact ⟨rfl, (HK0.out.trans0 KRK.out).trans0 k7⟩
    · have hr2 : rightB A B C = false := by simpa using hr
      have HRt := Lib.hid hr2
      clear hr hr2
      go_wp2_with (first
        | (go_at_call 9; refine (make_bad A B C _ HRt.out).mono ?_; rintro e w3 ⟨rfl, hk3⟩; have b3 := hk3.held HGB.out (by simp); have d0 : w3.cell? ⟨w.heap.size, 0, none⟩ = some (.int .i64 A) := cell_of_block b3 rfl; have d1 : w3.cell? ⟨w.heap.size, 1, none⟩ = some (.int .i64 B) := cell_of_block b3 rfl; have d2 : w3.cell? ⟨w.heap.size, 2, none⟩ = some (.int .i64 C) := cell_of_block b3 rfl; clear b3)
        | (go_at_call 12; refine (refMake_bad A B C _ HRt.out).mono ?_; rintro e w4 ⟨rfl, hk4⟩)
        | (go_at_call 13; refine (size_no none _ (.inl rfl)).mono ?_; rintro e w5 ⟨rfl, rfl⟩)
        | (go_at_call 14; refine (works_any _).mono ?_; rintro e w6 ⟨rfl, hk6⟩))
      go_ret
      exact ⟨rfl, ((hkc.trans0 hk3).trans0 hk4).trans0 hk6⟩

end Go.Proofs.Ytjebflafbkmokaa
