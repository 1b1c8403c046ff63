
/- Wear: whose turn it is, and how uneven counts are: the program's and the document's: their contracts. -/
import Derived.Test.YtcaphgokckkmfaaEc
namespace Go.Proofs.Ytcaphgokckkmfaa
open Go.RowKit
set_option maxRecDepth 100000
set_option linter.unusedVariables false
set_option linter.unusedSimpArgs false
variable {w w' : World}

/-- The n-th group behind a group, and the code. -/
def turnR (G g n : Int) : Int × Int := if 0 ≤ g ∧ g < G ∧ 0 ≤ n then (if G - g ≤ n.tmod G then n.tmod G - (G - g) else g + n.tmod G, 0) else (0, 2)

theorem Turn_any (G g n : Int) (w : World) (hG : I64 G) (hg : I64 g) (hn : I64 n) :
    Calls Try.prog 29 #[.int .i64 G, .int .i64 g, .int .i64 n] w fun e w' => e = .returned (.tuple #[.int .i64 (turnR G g n).1, .int .i64 (turnR G g n).2]) ∧ w = w' := by
  unfold I64 at hG hg hn
  by_cases hx : inB G g = true
  · obtain ⟨h1, h2⟩ := inB_iff.1 hx
    by_cases h3 : 0 ≤ n
    · obtain ⟨k, hk⟩ : ∃ k, n.tmod G = k := ⟨_, rfl⟩
      have hk0 : 0 ≤ k := by rw [← hk]; exact Int.tmod_nonneg _ h3
      have hk1 : k < G := by rw [← hk]; exact Int.tmod_lt_of_pos _ (by omega)
      have hG0 : (G == 0) = false := by simp; omega
      have hs : IntKind.i64.wrap (G - g) = G - g := IntWalk.i64_in _ (by omega)
      by_cases h4 : G - g ≤ k
      · have hr : turnR G g n = (k - (G - g), 0) := by unfold turnR; rw [if_pos ⟨h1, h2, h3⟩, hk, if_pos h4]
        have HR := Lib.hid hr
        have HX := Lib.hid hx
        clear hr hx
        go_enter Try.func29, Try.ntmps29
        go_wp2_with (go_at_call 57; refine (wamong_any _ _ _).mono ?_; rw [HX.out]; rintro e w' ⟨rfl, rfl⟩)
        go_ret2
        rw [HR.out]
        exact ⟨rfl, rfl⟩
      · have hr : turnR G g n = (g + k, 0) := by unfold turnR; rw [if_pos ⟨h1, h2, h3⟩, hk, if_neg h4]
        have HR := Lib.hid hr
        have HX := Lib.hid hx
        clear hr hx
        go_enter Try.func29, Try.ntmps29
        go_wp2_with (go_at_call 57; refine (wamong_any _ _ _).mono ?_; rw [HX.out]; rintro e w' ⟨rfl, rfl⟩)
        go_ret2
        rw [HR.out]
        exact ⟨rfl, rfl⟩
    · have hr : turnR G g n = (0, 2) := by unfold turnR; rw [if_neg (by omega)]
      have HR := Lib.hid hr
      have HX := Lib.hid hx
      clear hr hx
      go_enter Try.func29, Try.ntmps29
      go_wp2_with (go_at_call 57; refine (wamong_any _ _ _).mono ?_; rw [HX.out]; rintro e w' ⟨rfl, rfl⟩)
      go_ret2
      rw [HR.out]
      exact ⟨rfl, rfl⟩
  · have hx2 : inB G g = false := by simpa using hx
    have hr : turnR G g n = (0, 2) := by unfold turnR; rw [if_neg (fun h => hx (inB_iff.2 ⟨h.1, h.2.1⟩))]
    have HR := Lib.hid hr
    have HX := Lib.hid hx2
    clear hr hx hx2
    go_enter Try.func29, Try.ntmps29
    go_wp2_with (go_at_call 57; refine (wamong_any _ _ _).mono ?_; rw [HX.out]; rintro e w' ⟨rfl, rfl⟩)
    go_ret2
    rw [HR.out]
    exact ⟨rfl, rfl⟩
theorem Next_any (G g : Int) (w : World) (hG : I64 G) (hg : I64 g) :
    Calls Try.prog 31 #[.int .i64 G, .int .i64 g] w fun e w' => e = .returned (.tuple #[.int .i64 (turnR G g 1).1, .int .i64 (turnR G g 1).2]) ∧ w = w' := by
  have H := Lib.hid (Turn_any G g 1 w hG hg (by unfold I64; omega))
  go_enter Try.func31, Try.ntmps31
  go_wp2_with (go_at_call 29; refine H.out.mono ?_; rintro e w' ⟨rfl, rfl⟩)
  go_ret2
  exact ⟨rfl, rfl⟩
theorem refTurn_any (G g n : Int) (w : World) (hG : I64 G) (hg : I64 g) (hn : I64 n) :
    Calls Try.prog 30 #[.int .i64 G, .int .i64 g, .int .i64 n] w fun e w' => e = .returned (.tuple #[.int .i64 (turnR G g n).1, .int .i64 (turnR G g n).2]) ∧ w = w' := by
  unfold I64 at hG hg hn
  by_cases h0 : G < 1
  · have HR := Lib.hid (show turnR G g n = (0, 2) by unfold turnR; rw [if_neg (by omega)])
    go_enter Try.func30, Try.ntmps30
    go_wp2_with fail
    go_ret2
    rw [HR.out]
    exact ⟨rfl, rfl⟩
  by_cases h1 : g < 0
  · have HR := Lib.hid (show turnR G g n = (0, 2) by unfold turnR; rw [if_neg (by omega)])
    go_enter Try.func30, Try.ntmps30
    go_wp2_with fail
    go_ret2
    rw [HR.out]
    exact ⟨rfl, rfl⟩
  by_cases h2 : G ≤ g
  · have HR := Lib.hid (show turnR G g n = (0, 2) by unfold turnR; rw [if_neg (by omega)])
    go_enter Try.func30, Try.ntmps30
    go_wp2_with fail
    go_ret2
    rw [HR.out]
    exact ⟨rfl, rfl⟩
  by_cases h3 : n < 0
  · have HR := Lib.hid (show turnR G g n = (0, 2) by unfold turnR; rw [if_neg (by omega)])
    go_enter Try.func30, Try.ntmps30
    go_wp2_with fail
    go_ret2
    rw [HR.out]
    exact ⟨rfl, rfl⟩
  obtain ⟨k, hk⟩ : ∃ k, n.tmod G = k := ⟨_, rfl⟩
  have hk0 : 0 ≤ k := by rw [← hk]; exact Int.tmod_nonneg _ (by omega)
  have hk1 : k < G := by rw [← hk]; exact Int.tmod_lt_of_pos _ (by omega)
  have hG0 : (G == 0) = false := by simp; omega
  have hs : IntKind.i64.wrap (G - g) = G - g := IntWalk.i64_in _ (by omega)
  by_cases h4 : G - g ≤ k
  · have HR := Lib.hid (show turnR G g n = (k - (G - g), 0) by unfold turnR; rw [if_pos (by omega), hk, if_pos h4])
    go_enter Try.func30, Try.ntmps30
    go_wp2_with fail
    go_ret2
    rw [HR.out]
    exact ⟨rfl, rfl⟩
  · have HR := Lib.hid (show turnR G g n = (g + k, 0) by unfold turnR; rw [if_pos (by omega), hk, if_neg h4])
    go_enter Try.func30, Try.ntmps30
    go_wp2_with fail
    go_ret2
    rw [HR.out]
    exact ⟨rfl, rfl⟩

/-- The greatest, and the least, of the first so many. -/
def maxU (l : List Int) (i : Nat) : Int := (l.take i).foldl max (l.getD 0 0)
def minU (l : List Int) (i : Nat) : Int := (l.take i).foldl min (l.getD 0 0)
theorem maxU_succ {l : List Int} {i : Nat} (h : i < l.length) : maxU l (i + 1) = max (maxU l i) (l.getD i 0) := by
  unfold maxU
  rw [List.take_succ_eq_append_getElem h, List.foldl_append]
  simp [List.getD, h]
theorem minU_succ {l : List Int} {i : Nat} (h : i < l.length) : minU l (i + 1) = min (minU l i) (l.getD i 0) := by
  unfold minU
  rw [List.take_succ_eq_append_getElem h, List.foldl_append]
  simp [List.getD, h]
theorem maxU_one {l : List Int} (h : 0 < l.length) : maxU l 1 = l.getD 0 0 := by rw [maxU_succ h]; simp [maxU]
theorem minU_one {l : List Int} (h : 0 < l.length) : minU l 1 = l.getD 0 0 := by rw [minU_succ h]; simp [minU]
def unevenR (l : List Int) : Int := if l.length = 0 then 0 else wrap64 (maxU l l.length - minU l l.length)

theorem Max_any (a : Option Addr) (n c : Nat) (l : List Int) (w : World) (h : IntsAt w a n l) (h1 : 1 ≤ n) (hn : n ≤ maxLen) :
    Calls Try.prog 58 #[.slice a n c] w fun e w' => e = .returned (.int .i64 (maxU l n)) ∧ w = w' := by
  unfold maxLen at hn
  have hl := h.1
  obtain ⟨b, o, rfl, g0⟩ := list_cell h (Keeps.refl [] w) (show 0 < n by omega)
  rw [Nat.add_zero] at g0
  obtain ⟨x0, hx0⟩ : ∃ x, x = l.getD 0 0 := ⟨_, rfl⟩
  rw [← hx0] at g0
  have HS := Lib.hid (show maxU l 1 = x0 by rw [hx0]; exact maxU_one (by omega))
  have HI := Lib.hid h
  have hn1 : (1 : Int) ≤ (n : Int) := by omega
  have HLn := Lib.hid hl
  clear hx0 h hl
  go_enter Try.func58, Try.ntmps58
  go_wp2_with fail
  go_loop [3, 4] (fun vm vi => ∃ i : Nat, 1 ≤ i ∧ i ≤ n ∧ vi = .int .i64 (i : Int) ∧ vm = .int .i64 (maxU l i)) (fun _ vi => n - (intOf vi).toNat)
  case atStart => exact ⟨1, Nat.le_refl _, h1, rfl, by rw [HS.out]⟩
  case round =>
    obtain ⟨i, hi1, hi, rfl, rfl⟩ := hrel
    by_cases hlt : i < n
    · have hlti : (i : Int) < (n : Int) := by omega
      obtain ⟨b', o', e, gx⟩ := list_cell HI.out (Keeps.refl [] w) hlt
      injection e with e
      injection e with e1 e2 _
      subst e1; subst e2
      obtain ⟨x, hx⟩ : ∃ x, x = l.getD i 0 := ⟨_, rfl⟩
      obtain ⟨m, hm⟩ : ∃ m, m = maxU l i := ⟨_, rfl⟩
      rw [← hx] at gx
      rw [← hm]
      have HM := Lib.hid (show maxU l (i + 1) = max m x by rw [maxU_succ (by rw [← HLn.out]; exact hlt), hm, hx])
      clear hx hm
      rcases Int.lt_trichotomy m x with h | h | h
      · have HN := Lib.hid (show maxU l (i + 1) = x by rw [HM.out]; omega)
        go_wp2_with fail
        all_goals (first | omega | skip)
        go_round
        case rel => exact ⟨i + 1, by omega, by omega, by go_num, by rw [HN.out]⟩
        case measure => simp [intOf]; omega
      · subst h
        have HN := Lib.hid (show maxU l (i + 1) = m by rw [HM.out]; omega)
        go_wp2_with fail
        all_goals (first | omega | skip)
        go_round
        case rel => exact ⟨i + 1, by omega, by omega, by go_num, by rw [HN.out]⟩
        case measure => simp [intOf]; omega
      · have HN := Lib.hid (show maxU l (i + 1) = m by rw [HM.out]; omega)
        have hng : ¬ m < x := by omega
        go_wp2_with fail
        all_goals (first | omega | skip)
        go_round
        case rel => exact ⟨i + 1, by omega, by omega, by go_num, by rw [HN.out]⟩
        case measure => simp [intOf]; omega
    · have hin : i = n := by omega
      have HIn := Lib.hid hin
      clear hin
      go_wp2_with fail
      go_ret
      exact ⟨by rw [HIn.out]; rfl, rfl⟩

theorem Min_any (a : Option Addr) (n c : Nat) (l : List Int) (w : World) (h : IntsAt w a n l) (h1 : 1 ≤ n) (hn : n ≤ maxLen) :
    Calls Try.prog 59 #[.slice a n c] w fun e w' => e = .returned (.int .i64 (minU l n)) ∧ w = w' := by
  unfold maxLen at hn
  have hl := h.1
  obtain ⟨b, o, rfl, g0⟩ := list_cell h (Keeps.refl [] w) (show 0 < n by omega)
  rw [Nat.add_zero] at g0
  obtain ⟨x0, hx0⟩ : ∃ x, x = l.getD 0 0 := ⟨_, rfl⟩
  rw [← hx0] at g0
  have HS := Lib.hid (show minU l 1 = x0 by rw [hx0]; exact minU_one (by omega))
  have HI := Lib.hid h
  have hn1 : (1 : Int) ≤ (n : Int) := by omega
  have HLn := Lib.hid hl
  clear hx0 h hl
  go_enter Try.func59, Try.ntmps59
  go_wp2_with fail
  go_loop [3, 4] (fun vm vi => ∃ i : Nat, 1 ≤ i ∧ i ≤ n ∧ vi = .int .i64 (i : Int) ∧ vm = .int .i64 (minU l i)) (fun _ vi => n - (intOf vi).toNat)
  case atStart => exact ⟨1, Nat.le_refl _, h1, rfl, by rw [HS.out]⟩
  case round =>
    obtain ⟨i, hi1, hi, rfl, rfl⟩ := hrel
    by_cases hlt : i < n
    · have hlti : (i : Int) < (n : Int) := by omega
      obtain ⟨b', o', e, gx⟩ := list_cell HI.out (Keeps.refl [] w) hlt
      injection e with e
      injection e with e1 e2 _
      subst e1; subst e2
      obtain ⟨x, hx⟩ : ∃ x, x = l.getD i 0 := ⟨_, rfl⟩
      obtain ⟨m, hm⟩ : ∃ m, m = minU l i := ⟨_, rfl⟩
      rw [← hx] at gx
      rw [← hm]
      have HM := Lib.hid (show minU l (i + 1) = min m x by rw [minU_succ (by rw [← HLn.out]; exact hlt), hm, hx])
      clear hx hm
      rcases Int.lt_trichotomy m x with h | h | h
      · have HN := Lib.hid (show minU l (i + 1) = m by rw [HM.out]; omega)
        have hng : ¬ x < m := by omega
        go_wp2_with fail
        all_goals (first | omega | skip)
        go_round
        case rel => exact ⟨i + 1, by omega, by omega, by go_num, by rw [HN.out]⟩
        case measure => simp [intOf]; omega
      · subst h
        have HN := Lib.hid (show minU l (i + 1) = m by rw [HM.out]; omega)
        go_wp2_with fail
        all_goals (first | omega | skip)
        go_round
        case rel => exact ⟨i + 1, by omega, by omega, by go_num, by rw [HN.out]⟩
        case measure => simp [intOf]; omega
      · have HN := Lib.hid (show minU l (i + 1) = x by rw [HM.out]; omega)
        go_wp2_with fail
        all_goals (first | omega | skip)
        go_round
        case rel => exact ⟨i + 1, by omega, by omega, by go_num, by rw [HN.out]⟩
        case measure => simp [intOf]; omega
    · have hin : i = n := by omega
      have HIn := Lib.hid hin
      clear hin
      go_wp2_with fail
      go_ret
      exact ⟨by rw [HIn.out]; rfl, rfl⟩

theorem Uneven_any (a : Option Addr) (n c : Nat) (l : List Int) (w : World) (h : IntsAt w a n l) (hn : n ≤ maxLen) :
    Calls Try.prog 32 #[.slice a n c] w fun e w' => e = .returned (.int .i64 (unevenR l)) ∧ w = w' := by
  have hl := h.1
  by_cases h0 : n = 0
  · subst h0
    have HR := Lib.hid (show unevenR l = 0 by unfold unevenR; rw [if_pos hl.symm])
    go_enter Try.func32, Try.ntmps32
    go_wp2_with fail
    go_ret
    rw [HR.out]
    exact ⟨rfl, rfl⟩
  · have HR := Lib.hid (show unevenR l = wrap64 (maxU l n - minU l n) by unfold unevenR; rw [if_neg (by omega), ← hl])
    have H1 := Lib.hid (Max_any a n c l w h (by omega) hn)
    have H2 := Lib.hid (Min_any a n c l w h (by omega) hn)
    have hnb : ((n : Int) == 0) = false := by simp; omega
    obtain ⟨x, hx⟩ : ∃ x, x = maxU l n := ⟨_, rfl⟩
    obtain ⟨y, hy⟩ : ∃ y, y = minU l n := ⟨_, rfl⟩
    rw [← hx] at H1 HR
    rw [← hy] at H2 HR
    clear h h0 hl hx hy hn
    go_enter Try.func32, Try.ntmps32
    go_wp2_with (first
      | (go_at_call 58; refine H1.out.mono ?_; rintro e w' ⟨rfl, rfl⟩)
      | (go_at_call 59; refine H2.out.mono ?_; rintro e w' ⟨rfl, rfl⟩))
    go_ret
    rw [HR.out]
    exact ⟨rfl, rfl⟩

set_option maxHeartbeats 1000000 in
theorem refUneven_any (a : Option Addr) (n c : Nat) (l : List Int) (w : World) (h : IntsAt w a n l) (hn : n ≤ maxLen) :
    Calls Try.prog 34 #[.slice a n c] w fun e w' => e = .returned (.int .i64 (unevenR l)) ∧ ∃ m, w' = w.drewN m := by
  unfold maxLen at hn
  have hl := h.1
  by_cases h0 : n = 0
  · subst h0
    have HR := Lib.hid (show unevenR l = 0 by unfold unevenR; rw [if_pos hl.symm])
    go_enter Try.func34, Try.ntmps34
    go_wp2_with fail
    go_ret
    rw [HR.out]
    exact ⟨rfl, 0, rfl⟩
  · have HR := Lib.hid (show unevenR l = wrap64 (maxU l n - minU l n) by unfold unevenR; rw [if_neg (by omega), ← hl])
    have hnb : ((n : Int) == 0) = false := by simp; omega
    obtain ⟨b, o, rfl, g0⟩ := list_cell h (Keeps.refl [] w) (show 0 < n by omega)
    rw [Nat.add_zero] at g0
    obtain ⟨x0, hx0⟩ : ∃ x, x = l.getD 0 0 := ⟨_, rfl⟩
    rw [← hx0] at g0
    have HS := Lib.hid (show maxU l 0 = x0 ∧ minU l 0 = x0 by rw [hx0]; exact ⟨by simp [maxU], by simp [minU]⟩)
    have HI := Lib.hid h
    have hn1 : (0 : Int) < (n : Int) := by omega
    have HLn := Lib.hid hl
    clear hx0 h hl h0
    go_enter Try.func34, Try.ntmps34
    go_upto_region 3 with (fail)
    go_quiet (fail)
    go_wp2_with fail
    go_loopw [3, 4, 5] (fun vl vh vi wr => ∃ i m : Nat, i ≤ n ∧ vi = .int .i64 (i : Int) ∧ vl = .int .i64 (minU l i) ∧ vh = .int .i64 (maxU l i) ∧ wr = w.drewN m) (fun _ _ vi _ => n - (intOf vi).toNat)
    case atStart => exact ⟨0, _, Nat.zero_le _, rfl, by rw [HS.out.2], by rw [HS.out.1], rfl⟩
    case round =>
      obtain ⟨i, m, hi, rfl, rfl, rfl, rfl⟩ := hrel
      by_cases hlt : i < n
      · have hlti : (i : Int) < (n : Int) := by omega
        obtain ⟨b', o', e, gx⟩ := list_cell HI.out (Keeps.refl [] w) hlt
        injection e with e
        injection e with e1 e2 _
        subst e1; subst e2
        obtain ⟨x, hx⟩ : ∃ x, x = l.getD i 0 := ⟨_, rfl⟩
        obtain ⟨u, hu⟩ : ∃ u, u = maxU l i := ⟨_, rfl⟩
        obtain ⟨d, hd⟩ : ∃ d, d = minU l i := ⟨_, rfl⟩
        rw [← hx] at gx
        rw [← hu, ← hd]
        have HU := Lib.hid (show maxU l (i + 1) = max u x by rw [maxU_succ (by rw [← HLn.out]; exact hlt), hu, hx])
        have HD := Lib.hid (show minU l (i + 1) = min d x by rw [minU_succ (by rw [← HLn.out]; exact hlt), hd, hx])
        clear hx hu hd
        obtain ⟨u2, hu2, hud⟩ : ∃ u2, u2 = max u x ∧ ((u < x ∧ u2 = x) ∨ (u = x ∧ u2 = u) ∨ (x < u ∧ u2 = u)) := ⟨_, rfl, by omega⟩
        obtain ⟨d2, hd2, hdd⟩ : ∃ d2, d2 = min d x ∧ ((d < x ∧ d2 = d) ∨ (d = x ∧ d2 = d) ∨ (x < d ∧ d2 = x)) := ⟨_, rfl, by omega⟩
        rw [← hu2] at HU
        rw [← hd2] at HD
        clear hu2 hd2
        rcases hud with ⟨hu, rfl⟩ | ⟨rfl, rfl⟩ | ⟨hu, rfl⟩
        all_goals rcases hdd with ⟨hd, rfl⟩ | ⟨rfl, rfl⟩ | ⟨hd, rfl⟩
        all_goals
          go_upto_region 7 with (fail)
          go_region
          all_goals (go_wp2_with fail)
          all_goals (first | (exfalso; omega) | skip)
          all_goals
            go_roundw
            case rel => exact ⟨i + 1, _, by omega, by go_num, by rw [HD.out], by rw [HU.out], rfl⟩
            case measure => simp [intOf]; omega
      · have hin : i = n := by omega
        have HIn := Lib.hid hin
        clear hin
        go_wp2_with fail
        go_ret
        rw [HR.out]
        exact ⟨by rw [HIn.out]; rfl, _, rfl⟩

end Go.Proofs.Ytcaphgokckkmfaa
