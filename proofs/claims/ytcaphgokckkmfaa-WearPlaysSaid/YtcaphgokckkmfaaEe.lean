
/- Wear, the program: cleaning, and the package's calls on a flash: their contracts. -/
import Derived.Test.YtcaphgokckkmfaaEd
import Derived.Test.YtcaphgokckkmfaaLM
namespace Go.Proofs.Ytcaphgokckkmfaa
open Go.RowKit
set_option maxRecDepth 100000
set_option linter.unusedVariables false
set_option linter.unusedSimpArgs false
variable {w w' : World} {b bw be : Nat} {dv : Value} {s : FS} {N : Nat}

def offC (o : Bool) : Int := if o then 10 else 0
/-- Is a page blank? Without power that is not told. -/
theorem page_blank (hF : Fl w b bw be dv s) (hg : s.Good N) (hn : s.n ≤ 1024) (q : Nat) (hq : q < s.er.length) :
    Calls Try.prog 51 #[rnd (some ⟨b, 0, none⟩) (q : Int) 1] w fun e w' => e = .returned (.tuple #[.bool (!s.off && s.blankP q), .int .i64 (offC s.off)]) ∧ Keeps [] w w' := by
  have h1 := hg.hn.1
  obtain ⟨nn, hnn⟩ := Int.eq_ofNat_of_zero_le (show 0 ≤ s.n by omega)
  have htn : s.n.toNat = nn := by rw [hnn]; rfl
  have hin := hg.pageIn hq
  rw [htn] at hin
  have hwl := hg.hwl
  have hF1 := hF.alloc (boxC (some ⟨b, 0, none⟩) q 1)
  by_cases ho : s.off = true
  · have h := blank_gen (some ⟨b, 0, none⟩) q 1 10 [] w (by simp) (.inr ⟨rfl, rfl⟩) (words_off hF1 ho q 1 nn (q * nn) nn hnn rfl (by omega) (by omega) (by omega) hin hwl)
    simpa [ho, offC] using h
  · have ho2 : s.off = false := by simpa using ho
    have h := blank_gen (some ⟨b, 0, none⟩) q 1 0 (partL s.w (q * nn) nn) w (by rw [partL_len hin]; omega) (.inl rfl) (words_on hF1 ho2 q 1 nn (q * nn) nn hnn rfl (by omega) (by omega) hin hwl)
    have e : s.blankP q = allBlank (partL s.w (q * nn) nn) := by unfold FS.blankP; rw [htn]
    rw [e]
    simpa [ho2, offC] using h

/-- At the head of a round of cleaning. -/
structure CL (w2 wr : World) (b bw be : Nat) (dv dv' : Value) (s s' : FS) (f m i k N : Nat) : Prop where
  fl : Fl wr b bw be dv' s'
  good : s'.Good (N + 1024 * i)
  n : s'.n = s.n
  el : s'.er.length = s.er.length
  eq : s'.cleanL k ((pagesN f m).drop i) = s.cleanL 0 (pagesN f m)
  kb : k ≤ i
  keep : Keeps (foot b bw be dv) w2 wr
  new : ∀ j, dv'.ownBlock = some j → dv.ownBlock = some j ∨ w2.heap.size ≤ j
theorem foot_sub {w2 : World} {dv' : Value} (h : ∀ j, dv'.ownBlock = some j → dv.ownBlock = some j ∨ w2.heap.size ≤ j) : ∀ x ∈ foot b bw be dv', x ∈ foot b bw be dv ∨ w2.heap.size ≤ x := by
  intro x hx
  rw [mem_foot] at hx ⊢
  rcases hx with hx | hx | hx | hx
  · exact .inl (.inl hx)
  · exact .inl (.inr (.inl hx))
  · exact .inl (.inr (.inr (.inl hx)))
  · exact (h x hx).imp (fun h => .inr (.inr (.inr h))) id

set_option maxHeartbeats 2000000 in
theorem clean_any (hF : Fl w b bw be dv s) (hg : s.Good N) (hn : s.n ≤ 1024) (f m : Nat) (hfm : f + m ≤ s.er.length) (hm : m ≤ 1000) (hN : N + 1024 * m + 1024 ≤ 100000000) :
    Calls Try.prog 47 #[rnd (some ⟨b, 0, none⟩) (f : Int) (m : Int)] w fun e w' => e = .returned (.tuple #[.int .i64 ((s.cleanL 0 (pagesN f m)).1 : Int), .int .i64 (s.cleanL 0 (pagesN f m)).2.1]) ∧
      ∃ dv', Fl w' b bw be dv' (s.cleanL 0 (pagesN f m)).2.2 ∧ Keeps (foot b bw be dv) w w' ∧ ∀ j, dv'.ownBlock = some j → dv.ownBlock = some j ∨ w.heap.size ≤ j := by
  obtain ⟨R, hR⟩ : ∃ R, R = s.cleanL 0 (pagesN f m) := ⟨_, rfl⟩
  rw [← hR]
  have HF := Lib.hid hF
  have HG := Lib.hid hg
  have HR := Lib.hid hR
  have hlt0 := Lib.hid hF.lt
  have hel := hg.hel
  clear hF hg hR
  go_enter Try.func47, Try.ntmps47
  go_wp2_with (go_at_call 53; refine (pages_any _ f m _ (by omega) hm).mono ?_; rintro e w2 ⟨v, rfl, pa, pc, rfl, pi, p2, p3, p4, k2⟩; have PI := Lib.hid pi; have P4 := Lib.hid p4; have B2 := Lib.hid (show w2.heap[w.heap.size]? = some (boxR (some ⟨b, 0, none⟩) f m) from k2.held (heap_alloc_new w _) (by simp)); have K2 := Lib.hid (((Keeps.refl [] w).alloc (boxC (some ⟨b, 0, none⟩) f m)).trans0 k2); clear pi p2 p3 p4 k2)
  have hbn : w.heap.size ∉ foot b bw be dv := fun hx => by have := hlt0.out _ hx; omega
  have hpn : ∀ b' o' s', pa = some ⟨b', o', s'⟩ → b' ∉ foot b bw be dv := fun b' o' s' e hx => by have h1 := (P4.out _ _ _ e).1; have h2 := hlt0.out _ hx; simp at h1; omega
  have HBN := Lib.hid hbn
  have HPN := Lib.hid hpn
  clear hbn hpn
  go_loopw [4, 13] (fun vk vi wr => ∃ (i k : Nat) (s' : FS) (dv' : Value), i ≤ m ∧ vi = .int .i64 (i : Int) ∧ vk = .int .i64 (k : Int) ∧ CL w2 wr b bw be dv dv' s s' f m i k N) (fun _ vi _ => m - (intOf vi).toNat)
  case atStart => exact ⟨0, 0, s, dv, Nat.zero_le _, rfl, rfl, HF.out.keep K2.out (by simp), HG.out, rfl, rfl, rfl, Nat.le_refl _, (Keeps.refl _ _), fun j e => .inl e⟩
  case round =>
    obtain ⟨i, k, s', dv', hi, rfl, rfl, hL⟩ := hrel
    have hb := hL.keep.held B2.out HBN.out
    have c0 : wr.cell? ⟨w.heap.size, 0, none⟩ = some (.pointer (some ⟨b, 0, none⟩)) := cell_of_block hb rfl
    have c1 : wr.cell? ⟨w.heap.size, 1, none⟩ = some (.int .i64 (f : Int)) := cell_of_block hb rfl
    have c2 : wr.cell? ⟨w.heap.size, 2, none⟩ = some (.int .i64 (m : Int)) := cell_of_block hb rfl
    have lw := lt_of_block hb
    have hkb := hL.kb
    have HB := Lib.hid hb
    have HL := Lib.hid hL
    clear hL hb
    by_cases hlt : i < m
    · have hlti : (i : Int) < (m : Int) := by omega
      have hpi := PI.out.keep HL.out.keep HPN.out
      obtain ⟨pb, po, rfl, gx⟩ := list_cell hpi (Keeps.refl [] wr) hlt
      rw [pagesI_get hlt] at gx
      obtain ⟨q, hq⟩ : ∃ q, q = f + i := ⟨_, rfl⟩
      rw [show (f : Int) + (i : Int) = (q : Int) by omega] at gx
      have hd : (pagesN f m).drop i = q :: (pagesN f m).drop (i + 1) := by rw [pagesN_drop hlt, hq]
      have hqe : q < s'.er.length := by rw [HL.out.el]; omega
      have HD := Lib.hid hd
      clear hq hd hpi
      by_cases ho : s'.off = true
      · have hfin : R = (0, 10, s') := by rw [HR.out, ← HL.out.eq, HD.out, cleanL_off ho]
        have HFin := Lib.hid hfin
        have HO := Lib.hid ho
        clear hfin ho
        go_wp2_with (first
          | (go_at_call 63; refine (page_any _ _ _ _ _).mono ?_; rintro e w3 ⟨rfl, k3⟩; have K3 := Lib.hid k3; have F3 := Lib.hid (HL.out.fl.keep k3 (by simp)); clear k3)
          | (go_at_call 51; refine (page_blank F3.out HL.out.good (by rw [HL.out.n]; exact hn) q hqe).mono ?_; rw [HO.out]; rintro e w4 ⟨rfl, k4⟩; have K4 := Lib.hid (K3.out.trans0 k4); simp only [offC, Bool.not_true, Bool.false_and, if_true]))
        go_ret2
        rw [HFin.out]
        exact ⟨rfl, dv', HL.out.fl.keep K4.out (by simp), ((K2.out.mono (by simp)).trans HL.out.keep (fun x hx => .inl hx)).trans0 K4.out, fun j e => (HL.out.new j e).imp id (fun h => by have := K2.out.size; omega)⟩
      · have ho2 : s'.off = false := by simpa using ho
        have HO := Lib.hid ho2
        clear ho ho2
        by_cases hbl : s'.blankP q = true
        · have heq : s'.cleanL k ((pagesN f m).drop (i + 1)) = s.cleanL 0 (pagesN f m) := by rw [← HL.out.eq, HD.out, cleanL_blank HO.out hbl]
          have HEq := Lib.hid heq
          have HBl := Lib.hid hbl
          clear heq hbl
          go_wp2_with (first
            | (go_at_call 63; refine (page_any _ _ _ _ _).mono ?_; rintro e w3 ⟨rfl, k3⟩; have K3 := Lib.hid k3; have F3 := Lib.hid (HL.out.fl.keep k3 (by simp)); clear k3)
            | (go_at_call 51; refine (page_blank F3.out HL.out.good (by rw [HL.out.n]; exact hn) q hqe).mono ?_; rw [HO.out, HBl.out]; rintro e w4 ⟨rfl, k4⟩; have K4 := Lib.hid (K3.out.trans0 k4); simp only [offC, Bool.not_false, Bool.true_and, Bool.false_eq_true, if_false]))
          go_roundw
          case rel => exact ⟨i + 1, k, s', dv', by omega, by go_num, rfl, HL.out.fl.keep K4.out (by simp), HL.out.good.mono (by omega), HL.out.n, HL.out.el, HEq.out, by omega, HL.out.keep.trans0 K4.out, HL.out.new⟩
          case measure => simp [intOf]; omega
        · have hbl2 : s'.blankP q = false := by simpa using hbl
          have HBl := Lib.hid hbl2
          clear hbl hbl2
          obtain ⟨c, s2, hc⟩ : ∃ c s2, s'.eraseP (q : Int) = (c, s2) := ⟨_, _, rfl⟩
          have HC := Lib.hid hc
          have hsm := eraseP_same s' (q : Int)
          have hgd := HL.out.good.eraseP (q : Int)
          rw [hc] at hsm hgd
          have hs1 := hsm.1
          have hs2 := hsm.2.2.2.2
          simp only at hs1 hs2 hgd
          have hn1 := HL.out.n
          have hnl : s'.n.toNat ≤ 1024 := by rw [hn1]; omega
          have HGD := Lib.hid (hgd.mono (show N + 1024 * i + s'.n.toNat ≤ N + 1024 * (i + 1) by omega))
          have HS1 := Lib.hid (hs1.trans hn1)
          have HS2 := Lib.hid (hs2.trans HL.out.el)
          clear hc hsm hgd hs1 hs2 hn1
          by_cases hc0 : c = 0
          · subst hc0
            have heq : s2.cleanL (k + 1) ((pagesN f m).drop (i + 1)) = s.cleanL 0 (pagesN f m) := by
              have h := cleanL_yes (k := k) (l := (pagesN f m).drop (i + 1)) HO.out HBl.out (by rw [HC.out])
              rw [HC.out] at h
              rw [← h, ← HD.out]; exact HL.out.eq
            have HEq := Lib.hid heq
            clear heq
            go_wp2_with (first
              | (go_at_call 63; refine (page_any _ _ _ _ _).mono ?_; rintro e w3 ⟨rfl, k3⟩; have K3 := Lib.hid k3; have F3 := Lib.hid (HL.out.fl.keep k3 (by simp)); clear k3)
              | (go_at_call 51; refine (page_blank F3.out HL.out.good (by rw [HL.out.n]; exact hn) q hqe).mono ?_; rw [HO.out, HBl.out]; rintro e w4 ⟨rfl, k4⟩; have F4 := Lib.hid (F3.out.keep k4 (by simp)); have d0 : w4.cell? ⟨w.heap.size, 0, none⟩ = some (.pointer (some ⟨b, 0, none⟩)) := cell_of_block ((K3.out.trans0 k4).held HB.out (by simp)) rfl; have K4 := Lib.hid (K3.out.trans0 k4); clear k4; simp only [offC, Bool.not_false, Bool.true_and, Bool.false_eq_true, if_false])
              | (go_at_call 64; refine (erase_yes F4.out HL.out.good (q : Int) (by omega)).mono ?_; rw [HC.out]; rintro e w5 ⟨rfl, dv2, f5, k5, n5⟩; have F5 := Lib.hid f5; have K5 := Lib.hid k5; have N5 := Lib.hid n5; clear f5 k5 n5))
            have hsz : w2.heap.size ≤ w4.heap.size := Nat.le_trans HL.out.keep.size K4.out.size
            go_roundw
            case rel => exact ⟨i + 1, k + 1, s2, dv2, by omega, by go_num, by go_num, F5.out, HGD.out, HS1.out, HS2.out, HEq.out, by omega, (HL.out.keep.trans0 K4.out).trans K5.out (foot_sub HL.out.new), fun j e => by
              rcases N5.out j e with h | h
              · exact HL.out.new j h
              · exact .inr (by omega)⟩
            case measure => simp [intOf]; omega
          · have hfin : R = (0, c, s2) := by
              have h := cleanL_no (k := k) (l := (pagesN f m).drop (i + 1)) HO.out HBl.out (by rw [HC.out]; exact hc0)
              rw [HC.out] at h
              rw [HR.out, ← HL.out.eq, HD.out, h]
            have HFin := Lib.hid hfin
            have hcb : (c != 0) = true := by simp [hc0]
            clear hfin hc0
            go_wp2_with (first
              | (go_at_call 63; refine (page_any _ _ _ _ _).mono ?_; rintro e w3 ⟨rfl, k3⟩; have K3 := Lib.hid k3; have F3 := Lib.hid (HL.out.fl.keep k3 (by simp)); clear k3)
              | (go_at_call 51; refine (page_blank F3.out HL.out.good (by rw [HL.out.n]; exact hn) q hqe).mono ?_; rw [HO.out, HBl.out]; rintro e w4 ⟨rfl, k4⟩; have F4 := Lib.hid (F3.out.keep k4 (by simp)); have d0 : w4.cell? ⟨w.heap.size, 0, none⟩ = some (.pointer (some ⟨b, 0, none⟩)) := cell_of_block ((K3.out.trans0 k4).held HB.out (by simp)) rfl; have K4 := Lib.hid (K3.out.trans0 k4); clear k4; simp only [offC, Bool.not_false, Bool.true_and, Bool.false_eq_true, if_false])
              | (go_at_call 64; refine (erase_yes F4.out HL.out.good (q : Int) (by omega)).mono ?_; rw [HC.out]; rintro e w5 ⟨rfl, dv2, f5, k5, n5⟩; have F5 := Lib.hid f5; have K5 := Lib.hid k5; have N5 := Lib.hid n5; clear f5 k5 n5))
            have hsz : w2.heap.size ≤ w4.heap.size := Nat.le_trans HL.out.keep.size K4.out.size
            have hsz2 := K2.out.size
            go_ret2
            rw [HFin.out]
            exact ⟨rfl, dv2, F5.out, ((K2.out.mono (by simp)).trans (HL.out.keep.trans0 K4.out) (fun x hx => .inl hx)).trans K5.out (fun x hx => by rcases foot_sub (b := b) (bw := bw) (be := be) HL.out.new x hx with h | h; exact .inl h; exact .inr (by omega)), fun j e => by
              rcases N5.out j e with h | h
              · exact (HL.out.new j h).imp id (fun h => by omega)
              · exact .inr (by omega)⟩
    · have hfin : R = (k, 0, s') := by
        rw [HR.out, ← HL.out.eq, List.drop_of_length_le (by rw [pagesN_len]; omega)]
        rfl
      have HFin := Lib.hid hfin
      have hsz2 := K2.out.size
      clear hfin
      go_wp2_with fail
      go_ret2
      rw [HFin.out]
      exact ⟨rfl, dv', HL.out.fl, (K2.out.mono (by simp)).trans HL.out.keep (fun x hx => .inl hx), fun j e => (HL.out.new j e).imp id (fun h => by omega)⟩

end Go.Proofs.Ytcaphgokckkmfaa
