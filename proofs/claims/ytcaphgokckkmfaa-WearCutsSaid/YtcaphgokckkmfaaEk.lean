
/- Wear: WearCuts: plain facts, and its walk. -/
import Derived.Test.YtcaphgokckkmfaaEj
namespace Go.Proofs.Ytcaphgokckkmfaa
open Go.RowKit
set_option maxRecDepth 100000
set_option linter.unusedVariables false
set_option linter.unusedSimpArgs false

/-- Is it a page of the group? -/
def inG (g q : Nat) : Prop := q = 2 * g ∨ q = 2 * g + 1
/-- Behind c cuts: the counts of the group's pages, and of the others. -/
structure Ci (s : FS) (c g N : Nat) : Prop where
  sm : Sm s N
  erg : ∀ q, inG g q → s.er.getD q 0 ≤ (c : Int) + (if s.blankP q = true then 1 else 0)
  ero : ∀ q, ¬ inG g q → s.er.getD q 0 = 0
theorem Ci.of {s t : FS} {c g N M : Nat} (h : Ci s c g N) (ht : Sm t M) (h1 : t.er = s.er) (h2 : t.w = s.w) : Ci t c g M := by
  have hb : ∀ q, t.blankP q = s.blankP q := fun q => by unfold FS.blankP; rw [h2, ht.tn, h.sm.tn]
  exact ⟨ht, fun q hq => by rw [h1, hb]; exact h.erg q hq, fun q hq => by rw [h1]; exact h.ero q hq⟩
theorem Ci.erase {s : FS} {c g N p : Nat} (h : Ci s c g N) (hg : g < 3) (ho : s.off = false) (hp : inG g p) (hb : s.blankP p = false) :
    ((s.eraseP (p : Int)).1 = 0 ∧ Ci (s.eraseP (p : Int)).2 c g (N + 16) ∧ (s.eraseP (p : Int)).2.off = false) ∨ ((s.eraseP (p : Int)).1 = 10 ∧ Ci (s.eraseP (p : Int)).2 (c + 1) g (N + 16)) := by
  have hp6 : p < 6 := by rcases hp with rfl | rfl <;> omega
  obtain ⟨m, hm, h1, h2, h3, h4⟩ := erase_some h.sm.good (p := p) (by rw [h.sm.el]; exact hp6) ho
  rw [h.sm.tn] at hm h1 h3
  have hsm := h.sm.erase (p : Int)
  have hbo : ∀ q, q < 6 → q ≠ p → (s.eraseP (p : Int)).2.blankP q = s.blankP q := by
    intro q hq hne
    rw [Bool.eq_iff_iff, hsm.blank hq, h.sm.blank hq]
    constructor
    · intro hh i hi
      have := hh i hi
      rwa [h1, if_neg (by omega)] at this
    · intro hh i hi
      rw [h1, if_neg (by omega)]
      exact hh i hi
  have hset : ∀ q, (s.eraseP (p : Int)).2.er.getD q 0 = if q = p ∧ m ≠ 0 then s.er.getD p 0 + 1 else s.er.getD q 0 := by
    intro q
    rw [h2]
    by_cases hm0 : m = 0
    · rw [if_pos hm0, if_neg (fun h => h.2 hm0)]
    · rw [if_neg hm0]
      by_cases hq : q = p
      · subst hq
        rw [if_pos ⟨rfl, hm0⟩]
        simp only [List.getD]
        rw [List.getElem?_set_self (by rw [h.sm.el]; exact hp6)]; rfl
      · rw [if_neg (fun h => hq h.1)]
        simp only [List.getD]
        rw [List.getElem?_set_ne (by omega)]
  have hpe := h.erg p hp
  rw [hb] at hpe
  simp only [Bool.false_eq_true, if_false] at hpe
  have hero : ∀ q, ¬ inG g q → (s.eraseP (p : Int)).2.er.getD q 0 = 0 := by
    intro q hq
    rw [hset, if_neg (fun h => hq (by rw [h.1]; exact hp))]
    exact h.ero q hq
  rcases h3 with ⟨q1, rfl, q2⟩ | ⟨q1, q2⟩
  · left
    refine ⟨q1, ⟨hsm, fun q hq => ?_, hero⟩, q2⟩
    have hq6 : q < 6 := by rcases hq with rfl | rfl <;> omega
    by_cases hqp : q = p
    · subst hqp
      have hbl : (s.eraseP (q : Int)).2.blankP q = true := (hsm.blank hq6).2 (fun i hi => by rw [h1, if_pos (by omega)])
      rw [hset, if_pos ⟨rfl, by omega⟩, hbl]
      simp only [if_true]
      omega
    · rw [hset, if_neg (fun h => hqp h.1), hbo q hq6 hqp]
      exact h.erg q hq
  · right
    refine ⟨q1, ⟨hsm, fun q hq => ?_, hero⟩⟩
    have hq6 : q < 6 := by rcases hq with rfl | rfl <;> omega
    by_cases hqp : q = p
    · subst hqp
      rw [hset]
      split <;> split <;> omega
    · rw [hset, if_neg (fun h => hqp h.1), hbo q hq6 hqp]
      have := h.erg q hq
      omega
theorem Ci.clean {g : Nat} (hg : g < 3) {l : List Nat} : ∀ {s : FS} {c N k : Nat}, Ci s c g N → s.off = false → (∀ p ∈ l, inG g p) →
    ((s.cleanL k l).2.1 = 0 ∧ Ci (s.cleanL k l).2.2 c g (N + 16 * l.length)) ∨ ((s.cleanL k l).2.1 = 10 ∧ Ci (s.cleanL k l).2.2 (c + 1) g (N + 16 * l.length)) := by
  induction l with
  | nil => intro s c N k h ho _; exact .inl ⟨rfl, h⟩
  | cons p l ih =>
    intro s c N k h ho hl
    have hm : ∀ {t : FS} {c' M : Nat}, Ci t c' g M → ∀ {M' : Nat}, M ≤ M' → Ci t c' g M' := fun ht M' hM => ⟨ht.sm.mono hM, ht.erg, ht.ero⟩
    by_cases hb : s.blankP p = true
    · rw [cleanL_blank ho hb]
      rcases ih (k := k) h ho (fun q hq => hl q (List.mem_cons_of_mem _ hq)) with ⟨h1, h2⟩ | ⟨h1, h2⟩
      · exact .inl ⟨h1, hm h2 (by simp; omega)⟩
      · exact .inr ⟨h1, hm h2 (by simp; omega)⟩
    · have hb2 : s.blankP p = false := by simpa using hb
      rcases h.erase hg ho (hl p (List.mem_cons_self ..)) hb2 with ⟨h1, h2, h3⟩ | ⟨h1, h2⟩
      · rw [cleanL_yes ho hb2 h1]
        rcases ih (k := k + 1) h2 h3 (fun q hq => hl q (List.mem_cons_of_mem _ hq)) with ⟨h4, h5⟩ | ⟨h4, h5⟩
        · exact .inl ⟨h4, hm h5 (by simp; omega)⟩
        · exact .inr ⟨h4, hm h5 (by simp; omega)⟩
      · rw [cleanL_no ho hb2 (by omega)]
        exact .inr ⟨h1, hm h2 (by simp only [List.length_cons]; omega)⟩
theorem Ci.grp {s : FS} {c g N : Nat} (h : Ci s c g N) (hg : g < 3) (ho : s.off = false) :
    ((cleanR s 3 2 (g : Int)).2.1 = 0 ∧ Ci (cleanR s 3 2 (g : Int)).2.2 c g (N + 32)) ∨ ((cleanR s 3 2 (g : Int)).2.1 = 10 ∧ Ci (cleanR s 3 2 (g : Int)).2.2 (c + 1) g (N + 32)) := by
  rw [clean_grp s hg]
  exact Ci.clean hg h ho (fun p hp => by simpa [inG] using hp)

variable {w w' w0 wr : World} {b : Nat} {s : FS} {N : Nat} {L : List (Nat × Obj)}

theorem among40 (x : Int) (w : World) : Calls Try.prog 12 #[.int .i64 x, .int .i64 40] w fun e w' => ∃ y : Int, e = .returned (.int .i64 y) ∧ (0 ≤ y ∧ y < 40) ∧ w = w' := by
  refine (among_any x 40 w (by omega) (by omega)).mono ?_
  rintro e w' ⟨rfl, rfl⟩
  exact ⟨_, rfl, amongI_lt x 40 (by omega) (by omega), rfl⟩

set_option maxHeartbeats 4000000 in
/-- WearCuts walked. -/
theorem cuts_any (a : Option Addr) (n c : Nat) (l : List Int) (x : Int) (a2 : Option Addr) (n2 c2 : Nat) (l2 : List Int) (w : World) (hi : IntsAt w a n l) (hn : n ≤ maxLen) (hi2 : IntsAt w a2 n2 l2) (hn2 : n2 ≤ maxLen) :
    Calls Try.prog 6 #[.slice a n c, .int .i64 x, .slice a2 n2 c2] w fun e w' => e = .returned (.bool true) ∧ Keeps [] w w' := by
  have HI := Lib.hid hi
  have HN := Lib.hid hn
  have HI2 := Lib.hid hi2
  unfold maxLen at hn2
  clear hi hn hi2
  go_enter Try.func6, Try.ntmps6
  go_wp2_with fail
  refine (works_any _).mono ?_
  rintro e w1 ⟨rfl, k1⟩
  go_wp2_with fail
  refine (mess_any a n c l _ (HI.out.keep0 k1) HN.out).mono ?_
  rintro e w2 ⟨b, rfl, s0, hc, her, hO⟩
  go_wp2_with fail
  refine (among3 x _).mono ?_
  rintro e w3 ⟨g, rfl, hg, rfl⟩
  have K1 := Lib.hid k1
  have HI3 := Lib.hid (HI2.out.keep0 k1)
  have HS := Lib.hid (show Cm3 s0 60 ∧ Ci s0 0 g 60 ∧ Ob w1 w2 b s0 [] from ⟨hc, ⟨hc.toSm, fun q _ => by rw [her]; split <;> omega, fun q _ => her q⟩, hO⟩)
  have hgi : (g : Int) < 3 := by omega
  clear k1 hc her hO
  go_wp2_with fail
  go_loopw [8, 9] (fun vc vi wr => ∃ (i k : Nat) (s : FS), i ≤ n2 ∧ i ≤ 10 ∧ k ≤ i ∧ vi = .int .i64 (i : Int) ∧ vc = .int .i64 (k : Int) ∧ Cm3 s (60 + 32 * i) ∧ Ci s k g (60 + 32 * i) ∧ Ob w1 wr b s []) (fun _ vi _ => 10 - (intOf vi).toNat)
  case atStart => exact ⟨0, 0, s0, Nat.zero_le _, by omega, Nat.le_refl _, rfl, rfl, HS.out.1, HS.out.2.1, HS.out.2.2⟩
  case round =>
    clear HS
    obtain ⟨i, k, s, hin, hi10, hki, rfl, rfl, hc, hci, hO⟩ := hrel
    have HC := Lib.hid hc
    have HCi := Lib.hid hci
    have HO := Lib.hid hO
    clear hc hci hO
    by_cases hboth : i < n2 ∧ i < 10
    · obtain ⟨hlt, hlt2⟩ := hboth
      have hl1 : (i : Int) < (n2 : Int) := by omega
      have hl2 : (i : Int) < 10 := by omega
      obtain ⟨pb, po, rfl, gx⟩ := list_cell HI3.out HO.out.k0 hlt
      obtain ⟨y0, ey⟩ : ∃ y, y = l2.getD i 0 := ⟨_, rfl⟩
      rw [← ey] at gx
      clear ey
      go_wp2_with fail
      refine (among40 y0 _).mono ?_
      rintro e wz ⟨y, rfl, hy, rfl⟩
      go_wp2_with fail
      refine (ob_cut HO.out y).mono ?_
      rintro e w4 ⟨rfl, hO4⟩
      have hcs := HC.out.toSm.cut y (by omega)
      have hci := HCi.out.of hcs rfl rfl
      have hC := ob_clean hO4 hcs.good hcs.geo (g : Int) (by omega)
      have hgr := hci.grp hg HC.out.off
      obtain ⟨r1, r2, r3, hr⟩ : ∃ r1 r2 r3, cleanR { s with cut := y } 3 2 (g : Int) = (r1, r2, r3) := ⟨_, _, _, rfl⟩
      rw [hr] at hC hgr
      simp only at hC hgr
      have HCl := Lib.hid hC
      clear hcs hci hC hr hO4
      go_wp2_with fail
      refine HCl.out.mono ?_
      rintro e w5 ⟨rfl, hO5⟩
      have HO5 := Lib.hid hO5
      clear hO5
      go_wp2_with fail
      refine (ob_power HO5.out).mono ?_
      rintro e w6 ⟨rfl, hO6⟩
      have HO6 := Lib.hid hO6
      clear hO6
      rcases hgr with ⟨rfl, hci⟩ | ⟨rfl, hci⟩
      · have HN1 := Lib.hid (And.intro (hci.sm.power) (hci.of hci.sm.power.toSm rfl rfl))
        clear hci
        go_wp2_with fail
        go_roundw
        case rel => exact ⟨i + 1, k, _, by omega, by omega, by omega, by go_num, rfl, HN1.out.1.mono (by omega), ⟨HN1.out.2.sm.mono (by omega), HN1.out.2.erg, HN1.out.2.ero⟩, HO6.out⟩
        case measure => simp [intOf]; omega
      · have HN1 := Lib.hid (And.intro (hci.sm.power) (hci.of hci.sm.power.toSm rfl rfl))
        clear hci
        go_wp2_with fail
        go_roundw
        case rel => exact ⟨i + 1, k + 1, _, by omega, by omega, by omega, by go_num, by go_num, HN1.out.1.mono (by omega), ⟨HN1.out.2.sm.mono (by omega), HN1.out.2.erg, HN1.out.2.ero⟩, HO6.out⟩
        case measure => simp [intOf]; omega
    · have hnot : ¬ (i < n2 ∧ i < 10) := hboth
      obtain ⟨c2', r1, r2, r3⟩ := HC.out.clean hg
      obtain ⟨b1, b2⟩ := grp_blank HC.out hg
      have hC := ob_clean HO.out HC.out.good HC.out.geo (g : Int) (by omega)
      have hgr := HCi.out.grp hg HC.out.off
      rw [r1] at hC hgr
      simp only at hC hgr
      obtain ⟨r, hr⟩ : ∃ r, r = (cleanR s 3 2 (g : Int)).1 := ⟨_, rfl⟩
      rw [← hr] at hC
      have hci : Ci (s.grpP g) k g (60 + 32 * i + 32) := by
        rcases hgr with ⟨_, h⟩ | ⟨h, _⟩
        · exact h
        · omega
      obtain ⟨t, ht⟩ : ∃ t, t = s.grpP g := ⟨_, rfl⟩
      rw [← ht] at c2' b1 b2 hC hci
      have HT := Lib.hid c2'
      have HCl := Lib.hid hC
      have HCt := Lib.hid hci
      have hbl : ∀ q, inG g q → blankR t (q : Int) = (true, 0) := fun q hq => by
        have hq6 : q < 6 := by rcases hq with rfl | rfl <;> omega
        unfold blankR
        rw [if_pos (inB_iff.2 ⟨by omega, by rw [c2'.el]; omega⟩), c2'.off]
        have hb : t.blankP q = true := by rcases hq with rfl | rfl; exact b1; exact b2
        rw [show ((q : Int)).toNat = q from rfl, hb]
        rfl
      have HBl := Lib.hid hbl
      clear c2' r1 r2 r3 b1 b2 hC hgr hr hci ht hbl hboth
      by_cases hlt : i < n2
      all_goals
        try have hlt2 : ¬ i < 10 := fun h => hnot ⟨hlt, h⟩
        clear hnot
        go_wp2_with fail
        refine HCl.out.mono ?_
        rintro e w5 ⟨rfl, hO5⟩
        have HO5 := Lib.hid hO5
        clear hO5
        go_wp2_with fail
        refine (ob_counts HO5.out HT.out.geo).mono ?_
        rintro e w6 ⟨v, rfl, pa, pc, rfl, pi, -, -, -, k6⟩
        rw [HT.out.el] at pi ⊢
        have HO6 := Lib.hid (HO5.out.keep k6)
        have HPI := Lib.hid pi
        clear pi k6
        go_wp2_with fail
        go_loopw [15] (fun v wx => ∃ (j m : Nat), j ≤ 6 ∧ v = .int .i64 (j : Int) ∧ wx = w6.drewN m) (fun v _ => 6 - (intOf v).toNat)
        case atStart => exact ⟨0, 0, by omega, rfl, rfl⟩
        case round =>
          obtain ⟨j, mm, hj, rfl, rfl⟩ := hrel
          by_cases hjl : j < 6
          · have hjl2 : (j : Int) < 6 := by omega
            obtain ⟨qb, qo, rfl, gq⟩ := list_cell HPI.out (Keeps.refl [] w6) hjl
            obtain ⟨z, hz⟩ : ∃ z, z = t.er.getD j 0 := ⟨_, rfl⟩
            rw [← hz] at gq
            obtain ⟨d, hd⟩ : ∃ d, d = j / 2 := ⟨_, rfl⟩
            have hdi : (j : Int) / 2 = (d : Int) := by omega
            by_cases hdg : d = g
            · have hzz : z ≤ (k : Int) + 1 := by
                have := HCt.out.erg j (by unfold inG; omega)
                rw [← hz] at this
                split at this <;> omega
              have hb2 : ((d : Int) != (g : Int)) = false := by simp [hdg]
              have hk16 : (k : Int) ≤ 16 := by omega
              clear hz hd hdg
              go_wp2_with fail
              go_roundw
              case rel => exact ⟨j + 1, _, by omega, by go_num, rfl⟩
              case measure => simp [intOf]; omega
            · have hzz : z = 0 := by rw [hz]; exact HCt.out.ero j (by unfold inG; omega)
              subst hzz
              have hb2 : ((d : Int) != (g : Int)) = true := by simp; omega
              have hk16 : (k : Int) ≤ 16 := by omega
              clear hz hd hdg
              go_wp2_with fail
              go_roundw
              case rel => exact ⟨j + 1, _, by omega, by go_num, rfl⟩
              case measure => simp [intOf]; omega
          · obtain ⟨u, hu⟩ : ∃ u : Nat, u = 2 * g := ⟨_, rfl⟩
            obtain ⟨u2, hu2⟩ : ∃ u2 : Nat, u2 = 2 * g + 1 := ⟨_, rfl⟩
            have hm1 : (2 : Int) * (g : Int) = (u : Int) := by omega
            have hm2 : (u : Int) + 1 = (u2 : Int) := by omega
            have HB1 := Lib.hid (HBl.out u (.inl hu))
            have HB2 := Lib.hid (HBl.out u2 (.inr hu2))
            have HO7 := Lib.hid (HO6.out.keep ((Keeps.refl [] w6).drewN mm))
            have hub : u2 ≤ 6 := by omega
            clear hu hu2
            go_wp2_with fail
            refine (ob_blank HO7.out HT.out.good HT.out.geo (u : Int)).mono ?_
            rw [HB1.out]
            rintro e w8 ⟨rfl, k8⟩
            go_wp2_with fail
            refine (ob_blank (HO7.out.keep k8) HT.out.good HT.out.geo (u2 : Int)).mono ?_
            rw [HB2.out]
            rintro e w9 ⟨rfl, k9⟩
            go_wp2_with fail
            go_ret
            exact ⟨rfl, ((K1.out.trans0 HO7.out.k0).trans0 k8).trans0 k9⟩

end Go.Proofs.Ytcaphgokckkmfaa
