
/- Wear, the program: the package's calls on a flash, and on none: their contracts. -/
import Derived.Test.YtcaphgokckkmfaaEe
namespace Go.Proofs.Ytcaphgokckkmfaa
open Go.RowKit
set_option maxRecDepth 100000
set_option linter.unusedVariables false
set_option linter.unusedSimpArgs false
variable {w w' : World} {b bw be : Nat} {dv : Value} {s : FS} {N : Nat} {G P : Nat}

theorem LOut.since {w w1 w' : World} {v : Value} {n : Nat} {l : List Int} (h : LOut w1 w' v n l) (hk : Keeps [] w w1) : LOut w w' v n l := by
  obtain ⟨a, c, h1, h2, h3, h4, h5, h6⟩ := h
  have := hk.size
  exact ⟨a, c, h1, h2, h3, h4, fun b o s e => ⟨by have := (h5 b o s e).1; omega, (h5 b o s e).2⟩, hk.trans0 h6⟩
theorem inB_nat {m : Nat} {x : Int} (h : inB m x = true) : ∃ a : Nat, x = (a : Int) ∧ a < m := by
  obtain ⟨h1, h2⟩ := inB_iff.1 h
  exact ⟨x.toNat, by omega, by omega⟩

/-- What the calls answer. -/
def pagesR (G P : Nat) (x : Int) : Int × List Int := if inB G x then (0, pagesI (((x.toNat * P : Nat)) : Int) P) else (2, [])
def wordsR (s : FS) (G P : Nat) (x : Int) : Int × List Int :=
  if inB G x then if s.off then (10, []) else (0, partL s.w (x.toNat * P * s.n.toNat) (P * s.n.toNat)) else (2, [])
def blankR (s : FS) (x : Int) : Bool × Int := if inB s.er.length x then (!s.off && s.blankP x.toNat, offC s.off) else (false, 2)
def cleanR (s : FS) (G P : Nat) (x : Int) : Nat × Int × FS := if inB G x then s.cleanL 0 (pagesN (x.toNat * P) P) else (0, 2, s)

theorem Pages_any (hF : Fl w b bw be dv s) (hg : s.Geo G P) (x : Int) :
    Calls Try.prog 24 #[.pointer (some ⟨b, 0, none⟩), .int .i64 x] w fun e w' => LCOut w w' e (pagesR G P x).1 (pagesR G P x).2 := by
  by_cases hx : inB G x = true
  · obtain ⟨a, rfl, ha⟩ := inB_nat hx
    have hr : pagesR G P (a : Int) = (0, pagesI ((a * P : Nat) : Int) P) := by unfold pagesR; rw [if_pos hx]; rfl
    rw [hr]
    obtain ⟨R, hR⟩ : ∃ R, R = a * P := ⟨_, rfl⟩
    have hRl := hg.pages ha
    have hal := hg.all
    have hpb := hg.pb
    have HGr := Lib.hid (group_in hF hg ha hR)
    rw [← hR]
    have HRl := Lib.hid (show R ≤ 64 by omega)
    clear hx hr hRl hal hR hF hg
    go_enter Try.func24, Try.ntmps24
    go_wp2_with (first
      | (go_at_call 46; refine HGr.out.mono ?_; rintro e w1 ⟨rfl, k1⟩; have K1 := Lib.hid (k1.alloc (boxC (some ⟨b, 0, none⟩) R P)); clear k1)
      | (go_at_call 53; refine (pages_any _ R P _ (by have := HRl.out; omega) (by omega)).mono ?_; rintro e w2 ⟨v, rfl, hv⟩; have HV := Lib.hid (hv.since K1.out); obtain ⟨va, vc, rfl, _⟩ := hv))
    go_ret2
    exact ⟨_, rfl, by rw [pagesI_len]; exact HV.out⟩
  · have hx2 : inB G x = false := by simpa using hx
    have hr : pagesR G P x = (2, []) := by unfold pagesR; rw [if_neg hx]
    rw [hr]
    have HGr := Lib.hid (group_out hF hg hx2)
    clear hx hx2 hr hF hg
    go_enter Try.func24, Try.ntmps24
    go_wp2_with (go_at_call 46; refine HGr.out.mono ?_; rintro e w1 ⟨rfl, k1⟩; have K1 := Lib.hid (k1.alloc (boxC none 0 0)); clear k1)
    go_ret2
    exact ⟨_, rfl, LOut.nil K1.out⟩
theorem Pages_none (x : Int) (w : World) : Calls Try.prog 24 #[.pointer none, .int .i64 x] w fun e w' => LCOut w w' e 1 [] := by
  have HGr := Lib.hid (group_none x w)
  go_enter Try.func24, Try.ntmps24
  go_wp2_with (go_at_call 46; refine HGr.out.mono ?_; rintro e w1 ⟨rfl, k1⟩; have K1 := Lib.hid (k1.alloc (boxC none 0 0)); clear k1)
  go_ret2
  exact ⟨_, rfl, LOut.nil K1.out⟩

theorem Words_any (hF : Fl w b bw be dv s) (hgd : s.Good N) (hg : s.Geo G P) (x : Int) :
    Calls Try.prog 21 #[.pointer (some ⟨b, 0, none⟩), .int .i64 x] w fun e w' => LCOut w w' e (wordsR s G P x).1 (wordsR s G P x).2 := by
  by_cases hx : inB G x = true
  · obtain ⟨a, rfl, ha⟩ := inB_nat hx
    obtain ⟨nn, hnn⟩ := Int.eq_ofNat_of_zero_le (show 0 ≤ s.n by have := hg.nb; omega)
    have htn : s.n.toNat = nn := by rw [hnn]; rfl
    have hnb : 16 ≤ nn ∧ nn ≤ 1024 := by have := hg.nb; omega
    have hr : wordsR s G P (a : Int) = if s.off then (10, []) else (0, partL s.w (a * P * nn) (P * nn)) := by unfold wordsR; rw [if_pos hx, htn]; rfl
    rw [hr]
    obtain ⟨R, hR⟩ : ∃ R, R = a * P := ⟨_, rfl⟩
    have hRl := hg.pages ha
    have hal := hg.all
    have hpb := hg.pb
    have HGr := Lib.hid (group_in hF hg ha hR)
    rw [← hR] at hRl ⊢
    have hsz := hgd.size
    rw [htn] at hsz
    have hin : R * nn + P * nn ≤ s.w.length := by
      rw [hsz, ← Nat.add_mul]
      exact Nat.mul_le_mul_right _ hRl
    have h1 : 1 * 16 ≤ P * nn := Nat.mul_le_mul hpb.1 hnb.1
    have hwl := hgd.hwl
    have HW : Hid (∀ wx, Keeps [] w wx → Calls Try.prog 52 #[rnd (some ⟨b, 0, none⟩) (R : Int) (P : Int)] wx fun e w' => LCOut wx w' e (if s.off then (10, []) else (0, partL s.w (R * nn) (P * nn)) : Int × List Int).1 (if s.off then (10, []) else (0, partL s.w (R * nn) (P * nn)) : Int × List Int).2) := by
      refine Lib.hid (fun wx hk => ?_)
      by_cases ho : s.off = true
      · rw [if_pos ho]; exact words_off (hF.keep hk (by simp)) ho R P nn _ _ hnn rfl rfl (by omega) (by omega) hin hwl
      · rw [if_neg ho]; exact words_on (hF.keep hk (by simp)) (by simpa using ho) R P nn _ _ hnn rfl rfl (by omega) hin hwl
    obtain ⟨cd, L, hcl⟩ : ∃ cd L, (if s.off then (10, []) else (0, partL s.w (R * nn) (P * nn)) : Int × List Int) = (cd, L) := ⟨_, _, rfl⟩
    rw [hcl] at HW ⊢
    clear hx hr hRl hal hR hF hg hin h1 hsz hcl hgd hnn htn hnb hwl
    go_enter Try.func21, Try.ntmps21
    go_wp2_with (first
      | (go_at_call 46; refine HGr.out.mono ?_; rintro e w1 ⟨rfl, k1⟩; have K1 := Lib.hid (k1.alloc (boxC (some ⟨b, 0, none⟩) R P)); clear k1)
      | (go_at_call 52; refine (HW.out _ K1.out).mono ?_; rintro e w2 ⟨v, rfl, hv⟩; have HV := Lib.hid (hv.since K1.out); obtain ⟨va, vc, rfl, _⟩ := hv))
    go_ret2
    exact ⟨_, rfl, HV.out⟩
  · have hx2 : inB G x = false := by simpa using hx
    have hr : wordsR s G P x = (2, []) := by unfold wordsR; rw [if_neg hx]
    rw [hr]
    have HGr := Lib.hid (group_out hF hg hx2)
    clear hx hx2 hr hF hg
    go_enter Try.func21, Try.ntmps21
    go_wp2_with (go_at_call 46; refine HGr.out.mono ?_; rintro e w1 ⟨rfl, k1⟩; have K1 := Lib.hid (k1.alloc (boxC none 0 0)); clear k1)
    go_ret2
    exact ⟨_, rfl, LOut.nil K1.out⟩
theorem Words_none (x : Int) (w : World) : Calls Try.prog 21 #[.pointer none, .int .i64 x] w fun e w' => LCOut w w' e 1 [] := by
  have HGr := Lib.hid (group_none x w)
  go_enter Try.func21, Try.ntmps21
  go_wp2_with (go_at_call 46; refine HGr.out.mono ?_; rintro e w1 ⟨rfl, k1⟩; have K1 := Lib.hid (k1.alloc (boxC none 0 0)); clear k1)
  go_ret2
  exact ⟨_, rfl, LOut.nil K1.out⟩

theorem Blank_any (hF : Fl w b bw be dv s) (hgd : s.Good N) (hg : s.Geo G P) (x : Int) :
    Calls Try.prog 17 #[.pointer (some ⟨b, 0, none⟩), .int .i64 x] w fun e w' => e = .returned (.tuple #[.bool (blankR s x).1, .int .i64 (blankR s x).2]) ∧ Keeps [] w w' := by
  have hal := hg.all
  have hE : IntKind.i64.wrap ((G : Int) * (P : Int)) = (s.er.length : Int) := by
    have e : (G : Int) * (P : Int) = (s.er.length : Int) := by rw [hg.er]; exact (Int.natCast_mul G P).symm
    rw [e]; exact IntWalk.i64_in _ (by omega)
  have h := geometry_yes hF
  rw [hg.g, hg.p] at h
  have HGm := Lib.hid h
  have lb := hF.lb
  by_cases hx : inB s.er.length x = true
  · obtain ⟨q, rfl, hq⟩ := inB_nat hx
    have hr : blankR s (q : Int) = (!s.off && s.blankP q, offC s.off) := by unfold blankR; rw [if_pos hx]; rfl
    rw [hr]
    have HB : Hid (∀ wx, Keeps [] w wx → Calls Try.prog 51 #[rnd (some ⟨b, 0, none⟩) (q : Int) 1] wx fun e w' => e = .returned (.tuple #[.bool (!s.off && s.blankP q), .int .i64 (offC s.off)]) ∧ Keeps [] wx w') :=
      Lib.hid (fun wx hk => page_blank (hF.keep hk (by simp)) hgd hg.nb.2 q hq)
    have HP : Hid (∀ wx, Calls Try.prog 50 #[.pointer (some ⟨b, 0, none⟩), .int .i64 (s.er.length : Int), .int .i64 1, .int .i64 (q : Int)] wx fun e w' => e = .returned (.tuple #[rnd (some ⟨b, 0, none⟩) q 1, .int .i64 0]) ∧ Keeps [] wx w') :=
      Lib.hid (fun wx => part_in _ s.er.length 1 q q wx hq (by omega) (by omega) (by omega))
    obtain ⟨bl, hbl⟩ : ∃ bl, bl = (!s.off && s.blankP q) := ⟨_, rfl⟩
    obtain ⟨cd, hcd⟩ : ∃ cd, cd = offC s.off := ⟨_, rfl⟩
    rw [← hbl, ← hcd] at HB ⊢
    obtain ⟨E, hEr⟩ : ∃ E, E = s.er.length := ⟨_, rfl⟩
    rw [← hEr] at HP hE hal
    clear hx hr h hF hg hgd hbl hcd hEr hq
    go_enter Try.func17, Try.ntmps17
    go_wp2_with (first
      | (go_at_call 49; refine HGm.out.mono ?_; rintro e w1 ⟨rfl, k1⟩; have K1 := Lib.hid (k1.alloc (.cells #[.int .i64 G, .int .i64 P, .int .i64 s.n] 28)); clear k1)
      | (go_at_call 50; refine (HP.out _).mono ?_; rintro e w2 ⟨rfl, k2⟩; have K2 := Lib.hid ((K1.out.trans0 k2).alloc (boxC (some ⟨b, 0, none⟩) q 1)); clear k2)
      | (go_at_call 51; refine (HB.out _ K2.out).mono ?_; rintro e w3 ⟨rfl, k3⟩; have K3 := Lib.hid (K2.out.trans0 k3); clear k3))
    go_ret2
    exact ⟨rfl, K3.out⟩
  · have hx2 : inB s.er.length x = false := by simpa using hx
    have hr : blankR s x = (false, 2) := by unfold blankR; rw [if_neg hx]
    rw [hr]
    have HP : Hid (∀ wx, Calls Try.prog 50 #[.pointer (some ⟨b, 0, none⟩), .int .i64 (s.er.length : Int), .int .i64 1, .int .i64 x] wx fun e w' => e = .returned (.tuple #[rnd none 0 0, .int .i64 2]) ∧ Keeps [] wx w') :=
      Lib.hid (fun wx => part_out _ _ 1 x wx (by omega) hx2)
    obtain ⟨E, hEr⟩ : ∃ E, E = s.er.length := ⟨_, rfl⟩
    rw [← hEr] at HP hE hal
    clear hx hx2 hr h hF hg hgd hEr
    go_enter Try.func17, Try.ntmps17
    go_wp2_with (first
      | (go_at_call 49; refine HGm.out.mono ?_; rintro e w1 ⟨rfl, k1⟩; have K1 := Lib.hid (k1.alloc (.cells #[.int .i64 G, .int .i64 P, .int .i64 s.n] 28)); clear k1)
      | (go_at_call 50; refine (HP.out _).mono ?_; rintro e w2 ⟨rfl, k2⟩; have K2 := Lib.hid ((K1.out.trans0 k2).alloc (boxC none 0 0)); clear k2))
    go_ret2
    exact ⟨rfl, K2.out⟩
theorem Blank_none (x : Int) (w : World) : Calls Try.prog 17 #[.pointer none, .int .i64 x] w fun e w' => e = .returned (.tuple #[.bool false, .int .i64 1]) ∧ Keeps [] w w' := by
  have HGm := Lib.hid (geometry_no none w (.inl rfl))
  have hw0 : IntKind.i64.wrap 0 = 0 := IntWalk.i64_in 0 (by omega)
  go_enter Try.func17, Try.ntmps17
  go_wp2_with (first
    | (go_at_call 49; refine HGm.out.mono ?_; rintro e w1 ⟨rfl, k1⟩; have K1 := Lib.hid (k1.alloc (.cells geo0 28)); clear k1)
    | (go_at_call 50; refine (part_zero none 1 x _).mono ?_; rintro e w2 ⟨rfl, k2⟩; have K2 := Lib.hid ((K1.out.trans0 k2).alloc (boxC none 0 0)); clear k2))
  go_ret2
  exact ⟨rfl, K2.out⟩

theorem Clean_any (hF : Fl w b bw be dv s) (hgd : s.Good N) (hg : s.Geo G P) (x : Int) (hN : N ≤ 10000000) :
    Calls Try.prog 15 #[.pointer (some ⟨b, 0, none⟩), .int .i64 x] w fun e w' => e = .returned (.tuple #[.int .i64 ((cleanR s G P x).1 : Int), .int .i64 (cleanR s G P x).2.1]) ∧
      ∃ dv', Fl w' b bw be dv' (cleanR s G P x).2.2 ∧ Keeps (foot b bw be dv) w w' ∧ ∀ j, dv'.ownBlock = some j → dv.ownBlock = some j ∨ w.heap.size ≤ j := by
  by_cases hx : inB G x = true
  · obtain ⟨a, rfl, ha⟩ := inB_nat hx
    have hr : cleanR s G P (a : Int) = s.cleanL 0 (pagesN (a * P) P) := by unfold cleanR; rw [if_pos hx]; rfl
    rw [hr]
    obtain ⟨R, hR⟩ : ∃ R, R = a * P := ⟨_, rfl⟩
    have hRl := hg.pages ha
    have hal := hg.all
    have hpb := hg.pb
    have HGr := Lib.hid (group_in hF hg ha hR)
    rw [← hR] at hRl ⊢
    have HC : Hid (∀ wx, Keeps [] w wx → Calls Try.prog 47 #[rnd (some ⟨b, 0, none⟩) (R : Int) (P : Int)] wx fun e w' => e = .returned (.tuple #[.int .i64 ((s.cleanL 0 (pagesN R P)).1 : Int), .int .i64 (s.cleanL 0 (pagesN R P)).2.1]) ∧
      ∃ dv', Fl w' b bw be dv' (s.cleanL 0 (pagesN R P)).2.2 ∧ Keeps (foot b bw be dv) wx w' ∧ ∀ j, dv'.ownBlock = some j → dv.ownBlock = some j ∨ wx.heap.size ≤ j) :=
      Lib.hid (fun wx hk => clean_any (hF.keep hk (by simp)) hgd hg.nb.2 R P (by omega) (by omega) (by omega))
    obtain ⟨r1, r2, r3, hrr⟩ : ∃ r1 r2 r3, s.cleanL 0 (pagesN R P) = (r1, r2, r3) := ⟨_, _, _, rfl⟩
    rw [hrr] at HC ⊢
    clear hx hr hRl hal hR hF hg hgd hrr
    go_enter Try.func15, Try.ntmps15
    go_wp2_with (first
      | (go_at_call 46; refine HGr.out.mono ?_; rintro e w1 ⟨rfl, k1⟩; have K1 := Lib.hid (k1.alloc (boxC (some ⟨b, 0, none⟩) R P)); clear k1)
      | (go_at_call 47; refine (HC.out _ K1.out).mono ?_; rintro e w2 ⟨rfl, dv2, f2, k2, n2⟩; have F2 := Lib.hid f2; have K2 := Lib.hid k2; have N2 := Lib.hid n2; clear f2 k2 n2))
    have hsz := K1.out.size
    go_ret2
    exact ⟨rfl, dv2, F2.out, (K1.out.mono (by simp)).trans K2.out (fun x hx => .inl hx), fun j e => (N2.out j e).imp id (fun h => by omega)⟩
  · have hx2 : inB G x = false := by simpa using hx
    have hr : cleanR s G P x = (0, 2, s) := by unfold cleanR; rw [if_neg hx]
    rw [hr]
    have HGr := Lib.hid (group_out hF hg hx2)
    have HF := Lib.hid hF
    clear hx hx2 hr hF hg
    go_enter Try.func15, Try.ntmps15
    go_wp2_with (go_at_call 46; refine HGr.out.mono ?_; rintro e w1 ⟨rfl, k1⟩; have K1 := Lib.hid (k1.alloc (boxC none 0 0)); clear k1)
    go_ret2
    exact ⟨rfl, dv, HF.out.keep K1.out (by simp), K1.out.mono (by simp), fun j e => .inl e⟩
theorem Clean_none (x : Int) (w : World) : Calls Try.prog 15 #[.pointer none, .int .i64 x] w fun e w' => e = .returned (.tuple #[.int .i64 0, .int .i64 1]) ∧ Keeps [] w w' := by
  have HGr := Lib.hid (group_none x w)
  go_enter Try.func15, Try.ntmps15
  go_wp2_with (go_at_call 46; refine HGr.out.mono ?_; rintro e w1 ⟨rfl, k1⟩; have K1 := Lib.hid (k1.alloc (boxC none 0 0)); clear k1)
  go_ret2
  exact ⟨rfl, K1.out⟩

theorem partL_all (l : List Int) : partL l 0 l.length = l := by simp [partL]
theorem Counts_any (hF : Fl w b bw be dv s) (hg : s.Geo G P) :
    Calls Try.prog 26 #[.pointer (some ⟨b, 0, none⟩)] w fun e w' => ∃ v, e = .returned v ∧ LOut w w' v s.er.length s.er := by
  have hal := hg.all
  have HA := Lib.hid (all_yes hF hg)
  have HC : Hid (∀ wx, Keeps [] w wx → Calls Try.prog 55 #[rnd (some ⟨b, 0, none⟩) 0 (s.er.length : Int)] wx fun e w' => ∃ v, e = .returned v ∧ LOut wx w' v s.er.length s.er) :=
    Lib.hid (fun wx hk => by have h := counts_any (hF.keep hk (by simp)) (by omega) 0 s.er.length (by omega) (by omega); rwa [partL_all] at h)
  clear hF hg hal
  go_enter Try.func26, Try.ntmps26
  go_wp2_with (first
    | (go_at_call 54; refine HA.out.mono ?_; rintro e w1 ⟨rfl, k1⟩; have K1 := Lib.hid k1; clear k1)
    | (go_at_call 55; refine (HC.out _ K1.out).mono ?_; rintro e w2 ⟨v, rfl, hv⟩; have HV := Lib.hid (hv.since K1.out); obtain ⟨va, vc, rfl, _⟩ := hv))
  go_ret
  exact ⟨_, rfl, HV.out⟩
theorem counts_none (w : World) : Calls Try.prog 55 #[rnd none 0 0] w fun e w' => e = .returned (.slice none 0 0) ∧ Keeps [] w w' := by
  go_enter Try.func55, Try.ntmps55
  go_wp2_with (go_at_call 53; refine (pages_any none 0 0 _ (by omega) (by omega)).mono ?_; rintro e w2 ⟨v, rfl, pa, pc, rfl, pi, p2, p3, p4, k2⟩; have K2 := Lib.hid (((Keeps.refl [] w).alloc (boxC none 0 0)).trans0 k2); clear pi p2 p3 p4 k2)
  go_loopw [3, 9] (fun vl vi wr => vi = .int .i64 0 ∧ vl = .slice none 0 0 ∧ wr = w2) (fun _ vi _ => 1 - (intOf vi).toNat)
  case atStart => exact ⟨rfl, rfl, rfl⟩
  case round =>
    obtain ⟨rfl, rfl, rfl⟩ := hrel
    go_wp2_with fail
    go_ret
    exact ⟨rfl, K2.out⟩
theorem Counts_none (w : World) : Calls Try.prog 26 #[.pointer none] w fun e w' => e = .returned (.slice none 0 0) ∧ Keeps [] w w' := by
  go_enter Try.func26, Try.ntmps26
  go_wp2_with (first
    | (go_at_call 54; refine (all_none _).mono ?_; rintro e w1 ⟨rfl, k1⟩; have K1 := Lib.hid k1; clear k1)
    | (go_at_call 55; refine (counts_none _).mono ?_; rintro e w2 ⟨rfl, k2⟩; have K2 := Lib.hid (K1.out.trans0 k2); clear k2))
  go_ret
  exact ⟨rfl, K2.out⟩

end Go.Proofs.Ytcaphgokckkmfaa
