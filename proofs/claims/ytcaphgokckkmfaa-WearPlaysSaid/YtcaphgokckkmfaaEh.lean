
/- Wear: the statements' example works; on no flash nothing is told; a flash of one's own, cleaned. -/
import Derived.Test.YtcaphgokckkmfaaLW
import Derived.Test.YtcaphgokckkmfaaEf
import Derived.Test.YtcaphgokckkmfaaEg
namespace Go.Proofs.Ytcaphgokckkmfaa
open Go.RowKit
set_option maxRecDepth 100000
set_option linter.unusedVariables false
set_option linter.unusedSimpArgs false
variable {w w' w0 : World} {b : Nat} {s : FS} {N : Nat} {L : List (Nat × Obj)} {G P : Nat}

theorem ob_clean (h : Ob w0 w b s L) (hgd : s.Good N) (hg : s.Geo G P) (x : Int) (hN : N ≤ 10000000) :
    Calls Try.prog 15 #[.pointer (some ⟨b, 0, none⟩), .int .i64 x] w fun e w' => e = .returned (.tuple #[.int .i64 ((cleanR s G P x).1 : Int), .int .i64 (cleanR s G P x).2.1]) ∧ Ob w0 w' b (cleanR s G P x).2.2 L := by
  obtain ⟨bw, be, dv, hf, h1, h2, h3⟩ := h
  refine (Clean_any hf hgd hg x hN).mono ?_
  rintro e w' ⟨he, dv', q1, q2, q3⟩
  exact ⟨he, Ob.step h1 h2 h3 q1 q2 q3⟩
theorem ob_blank (h : Ob w0 w b s L) (hgd : s.Good N) (hg : s.Geo G P) (x : Int) :
    Calls Try.prog 17 #[.pointer (some ⟨b, 0, none⟩), .int .i64 x] w fun e w' => e = .returned (.tuple #[.bool (blankR s x).1, .int .i64 (blankR s x).2]) ∧ Keeps [] w w' := by
  obtain ⟨bw, be, dv, hf, h1, h2, h3⟩ := h
  exact Blank_any hf hgd hg x
theorem ob_counts (h : Ob w0 w b s L) (hg : s.Geo G P) :
    Calls Try.prog 26 #[.pointer (some ⟨b, 0, none⟩)] w fun e w' => ∃ v, e = .returned v ∧ LOut w w' v s.er.length s.er := by
  obtain ⟨bw, be, dv, hf, h1, h2, h3⟩ := h
  exact Counts_any hf hg

def wk0 : FS := FS.fresh 2 2 16
def wk1 : FS := (wk0.prog 50 [1]).2
def wk2 : FS := (cleanR wk1 2 2 1).2.2
theorem wk_a : (wk0.prog 50 [1]).1 = 0 := by decide +kernel
theorem wk_b : (cleanR wk1 2 2 1).1 = 1 ∧ (cleanR wk1 2 2 1).2.1 = 0 := by decide +kernel
theorem wk_c : blankR wk2 3 = (true, 0) := by decide +kernel
theorem wk_d : unevenR wk2.er = 1 ∧ unevenR [] = 0 := by decide +kernel
theorem wk_e : turnR 3 2 1 = (0, 0) := by decide +kernel
theorem wk0_good : wk0.Good 0 := FS.Good.fresh (by decide +kernel)
theorem wk1_good : wk1.Good 1 := wk0_good.prog 50 [1]
theorem wk1_geo : wk1.Geo 2 2 := ⟨by decide +kernel, by decide +kernel, by decide, by decide, by decide +kernel, by decide +kernel⟩
theorem wk2_geo : wk2.Geo 2 2 := ⟨by decide +kernel, by decide +kernel, by decide, by decide, by decide +kernel, by decide +kernel⟩
theorem wk2_good : wk2.Good (1 + 1024 * 2) := cleanL_good (l := pagesN 2 2) wk1_good (by decide +kernel)

set_option maxHeartbeats 1000000 in
theorem works_any (w : World) : Calls Try.prog 28 #[] w fun e w' => e = .returned (.bool true) ∧ Keeps [] w w' := by
  go_enter Try.func28, Try.ntmps28
  go_wp2_with fail
  refine (make_yes 2 2 16 _ (by decide +kernel)).mono ?_
  rintro e w1 ⟨b, rfl, hm⟩
  have o0 : Ob w w1 b wk0 [] := Ob.of_made (Keeps.refl _ _) hm
  go_wp2_with fail
  refine (ob_prog o0 wk0_good 50 1 (by omega)).mono ?_
  rintro e w2 ⟨he, o1⟩
  rw [wk_a] at he
  subst he
  go_wp2_with fail
  refine (ob_clean (s := wk1) o1 wk1_good wk1_geo 1 (by omega)).mono ?_
  rintro e w3 ⟨he, o2⟩
  rw [wk_b.1, wk_b.2] at he
  subst he
  go_wp2_with fail
  refine (Next_any 3 2 _ (by unfold I64; omega) (by unfold I64; omega)).mono ?_
  rintro e w4 ⟨he, rfl⟩
  rw [wk_e] at he
  subst he
  go_wp2_with fail
  refine (ob_blank (s := wk2) o2 wk2_good wk2_geo 3).mono ?_
  rintro e w4 ⟨he, k4⟩
  rw [wk_c] at he
  subst he
  go_wp2_with fail
  refine (ob_counts (s := wk2) (o2.keep k4) wk2_geo).mono ?_
  rintro e w5 ⟨v, rfl, a, c, rfl, hi, h2, h3, h4, k5⟩
  go_wp2_with fail
  refine (Uneven_any _ _ _ _ _ hi (Nat.le_trans h2 h3)).mono ?_
  rintro e w6 ⟨he, rfl⟩
  rw [wk_d.1] at he
  subst he
  go_wp2_with fail
  refine (Uneven_any none 0 0 [] _ (IntsAt.nil _) (by unfold maxLen; omega)).mono ?_
  rintro e w6 ⟨he, rfl⟩
  rw [wk_d.2] at he
  subst he
  go_wp2_with fail
  go_ret
  exact ⟨rfl, (o2.k0.trans0 k4).trans0 k5⟩

/-- WearVoid walked. -/
theorem void_any (x : Int) (w : World) : Calls Try.prog 8 #[.int .i64 x] w fun e w' => e = .returned (.bool true) ∧ Keeps [] w w' := by
  go_enter Try.func8, Try.ntmps8
  go_wp2_with fail
  refine (works_any _).mono ?_
  rintro e w1 ⟨rfl, k1⟩
  go_wp2_with fail
  refine (Pages_none x _).mono ?_
  rintro e w2 ⟨v, rfl, a2, c2, rfl, -, -, -, -, k2⟩
  go_wp2_with fail
  refine (Words_none x _).mono ?_
  rintro e w3 ⟨v, rfl, a3, c3, rfl, -, -, -, -, k3⟩
  go_wp2_with fail
  refine (Blank_none x _).mono ?_
  rintro e w4 ⟨rfl, k4⟩
  go_wp2_with fail
  refine (Clean_none x _).mono ?_
  rintro e w5 ⟨rfl, k5⟩
  go_wp2_with fail
  refine (Counts_none _).mono ?_
  rintro e w6 ⟨rfl, k6⟩
  go_wp2_with fail
  go_ret
  exact ⟨rfl, ((((k1.trans0 k2).trans0 k3).trans0 k4).trans0 k5).trans0 k6⟩

/-- WearTurns walked. -/
theorem turns_any (G g n : Int) (a : Option Addr) (m c : Nat) (l : List Int) (w : World) (hG : I64 G) (hg : I64 g) (hn : I64 n) (hi : IntsAt w a m l) (hmc : m ≤ c) (hc : c ≤ maxLen) :
    Calls Try.prog 4 #[.int .i64 G, .int .i64 g, .int .i64 n, .slice a m c] w fun e w' => e = .returned (.bool true) ∧ Keeps [] w w' := by
  obtain ⟨q, hq⟩ : ∃ q, q = min m 300 := ⟨_, rfl⟩
  have hqm : q ≤ m ∧ q ≤ 300 := by omega
  have HI := Lib.hid (hi.take hqm.1)
  have HL := Lib.hid (show (l.take q).length = q by rw [List.length_take, ← hi.1]; omega)
  obtain ⟨l', hl'⟩ : ∃ l', l' = l.take q := ⟨_, rfl⟩
  rw [← hl'] at HI HL
  obtain ⟨t1, t2, ht⟩ : ∃ t1 t2, turnR G g n = (t1, t2) := ⟨_, _, rfl⟩
  obtain ⟨u1, u2, hu⟩ : ∃ u1 u2, turnR G g 1 = (u1, u2) := ⟨_, _, rfl⟩
  have HT : Hid (∀ wx, Calls Try.prog 29 #[.int .i64 G, .int .i64 g, .int .i64 n] wx fun e w' => e = .returned (.tuple #[.int .i64 t1, .int .i64 t2]) ∧ wx = w') := Lib.hid (fun wx => by have h := Turn_any G g n wx hG hg hn; rwa [ht] at h)
  have HR : Hid (∀ wx, Calls Try.prog 30 #[.int .i64 G, .int .i64 g, .int .i64 n] wx fun e w' => e = .returned (.tuple #[.int .i64 t1, .int .i64 t2]) ∧ wx = w') := Lib.hid (fun wx => by have h := refTurn_any G g n wx hG hg hn; rwa [ht] at h)
  have HN : Hid (∀ wx, Calls Try.prog 31 #[.int .i64 G, .int .i64 g] wx fun e w' => e = .returned (.tuple #[.int .i64 u1, .int .i64 u2]) ∧ wx = w') := Lib.hid (fun wx => by have h := Next_any G g wx hG hg; rwa [hu] at h)
  have HS : Hid (∀ wx, Calls Try.prog 30 #[.int .i64 G, .int .i64 g, .int .i64 1] wx fun e w' => e = .returned (.tuple #[.int .i64 u1, .int .i64 u2]) ∧ wx = w') := Lib.hid (fun wx => by have h := refTurn_any G g 1 wx hG hg (by unfold I64; omega); rwa [hu] at h)
  have HMC := Lib.hid (And.intro hmc hc)
  have hc' := hc
  unfold maxLen at hc'
  clear hG hg hn hi ht hu hl' hc
  go_enter Try.func4, Try.ntmps4
  go_wp2_with fail
  refine (HT.out _).mono ?_
  rintro e w1 ⟨rfl, rfl⟩
  go_wp2_with fail
  refine (HR.out _).mono ?_
  rintro e w1 ⟨rfl, rfl⟩
  go_wp2_with fail
  refine (HN.out _).mono ?_
  rintro e w1 ⟨rfl, rfl⟩
  go_wp2_with fail
  refine (HS.out _).mono ?_
  rintro e w1 ⟨rfl, rfl⟩
  go_upto_region 5 with fail
  go_cut [3] from 43 to 47 (fun s3 wx => s3 = .slice a q c ∧ wx = w)
  case first =>
    have hq3 : (m < 300 ∧ q = m) ∨ (m = 300 ∧ q = 300) ∨ (300 < m ∧ q = 300) := by omega
    clear hq
    rcases hq3 with ⟨h, rfl⟩ | ⟨rfl, rfl⟩ | ⟨h, rfl⟩
    all_goals
      go_wp2_with fail
      all_goals (try (exfalso; omega))
      all_goals (go_meet; exact ⟨rfl, rfl⟩)
  case rest =>
  obtain ⟨rfl, rfl⟩ := hcut
  clear hq
  go_wp2_with (first
    | (go_at_call 33; refine (ints_any a q c l' _ HI.out (by omega)).mono ?_; rw [HL.out]; rintro e w2 ⟨v, rfl, g2, c2, rfl, -, hA, k2⟩; have I2 := Lib.hid (show IntsAt w2 (some ⟨g2, 0, none⟩) q l' by have h := hA.ints; rw [HL.out] at h; exact h); have K2 := Lib.hid k2; clear hA k2)
    | (go_at_call 32; refine (Uneven_any _ _ _ l' _ I2.out (by unfold maxLen; omega)).mono ?_; rintro e w3 ⟨rfl, rfl⟩)
    | (go_at_call 34; refine (refUneven_any a q c l' _ (HI.out.keep0 K2.out) (by unfold maxLen; omega)).mono ?_; rintro e w3 ⟨rfl, m3, rfl⟩)
    | (go_at_call 28; refine (works_any _).mono ?_; rintro e w4 ⟨rfl, k4⟩; have K4 := Lib.hid ((K2.out.drewN m3).trans0 k4); clear k4))
  go_ret
  exact ⟨rfl, K4.out⟩

end Go.Proofs.Ytcaphgokckkmfaa
