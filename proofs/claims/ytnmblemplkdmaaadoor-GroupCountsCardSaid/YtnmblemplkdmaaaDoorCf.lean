
/- The document's own sums of words: their contracts. No condition. -/
import Derived.Test.YtnmblemplkdmaaaDoorCr
namespace Go.Proofs.YtnmblemplkdmaaaDoor
open Go.RowKit
set_option maxRecDepth 100000
set_option linter.unusedVariables false
variable {w w' : World} {F : List Nat}

theorem low_any (x : Int) (w : World) (h64 : I64 x) :
    Calls Tryd.prog 68 #[.int .i64 x] w fun e w' => e = .returned (.int .i64 (lo x)) ∧ w = w' := by
  have h1 := h64.1
  have h2 := h64.2
  clear h64
  obtain ⟨r, hr⟩ : ∃ r : Int, r = x.tmod 65536 := ⟨_, rfl⟩
  have hr1 : x.tmod 65536 = r := hr.symm
  have hm : x.tmod 65536 = if 0 ≤ x then x % 65536 else -((-x) % 65536) := by
    by_cases h : 0 ≤ x
    · rw [if_pos h, Int.tmod_eq_emod_of_nonneg h]
    · rw [if_neg h, ← Int.neg_neg x, Int.neg_tmod, Int.tmod_eq_emod_of_nonneg (by omega), Int.neg_neg]
  have b1 : -65536 < r := by rw [hr, hm]; split <;> omega
  have b2 : r < 65536 := by rw [hr, hm]; split <;> omega
  by_cases h : r < 0
  · have hfin : r + 65536 = lo x := by
      rw [hr, hm] at h
      rw [hr, hm]
      unfold lo
      split at h
      · omega
      · rw [if_neg (by omega)]; omega
    have HF := Lib.hid hfin
    clear hfin hr hm
    go_enter Tryd.func68, Tryd.ntmps68
    go_wp2
    go_ret
    exact ⟨by rw [HF.out]; rfl, rfl⟩
  · have hfin : r = lo x := by
      rw [hr, hm] at h
      rw [hr, hm]
      unfold lo
      split at h
      · rw [if_pos (by omega)]; omega
      · rw [if_neg (by omega)]; omega
    have HF := Lib.hid hfin
    clear hfin hr hm
    go_enter Tryd.func68, Tryd.ntmps68
    go_wp2
    go_ret
    exact ⟨by rw [HF.out]; rfl, rfl⟩

theorem xor_step (x y k : Nat) : (x ^^^ y) % 2 ^ (k + 1) = (x ^^^ y) % 2 ^ k + (if x / 2 ^ k % 2 ≠ y / 2 ^ k % 2 then 2 ^ k else 0) := by
  rw [Nat.mod_pow_succ]
  congr 1
  have e : ∀ z : Nat, z / 2 ^ k % 2 = (z.testBit k).toNat := by
    intro z
    rw [Nat.testBit_eq_decide_div_mod_eq]
    rcases Nat.mod_two_eq_zero_or_one (z / 2 ^ k) with h | h <;> simp [h]
  rw [e (x ^^^ y), e x, e y, Nat.testBit_xor]
  cases x.testBit k <;> cases y.testBit k <;> simp

def twoP (k : Nat) : Int := ((2 ^ k : Nat) : Int)
def xorP (x y k : Nat) : Int := (((x ^^^ y) % 2 ^ k : Nat) : Int)
def halfP (x k : Nat) : Int := ((x / 2 ^ k : Nat) : Int)
theorem twoP_le {k : Nat} (h : k ≤ 16) : 1 ≤ twoP k ∧ twoP k ≤ 65536 := by
  unfold twoP
  have h1 : 2 ^ k ≤ 2 ^ 16 := Nat.pow_le_pow_right (by omega) h
  have h2 : 0 < 2 ^ k := Nat.pow_pos (by omega)
  omega
theorem twoP_succ (k : Nat) : 2 * twoP k = twoP (k + 1) := by unfold twoP; rw [Nat.pow_succ]; omega
theorem halfP_le {x k : Nat} (h : x < 65536) : 0 ≤ halfP x k ∧ halfP x k ≤ 65535 := by
  unfold halfP
  have h2 : x / 2 ^ k ≤ 65535 := Nat.le_trans (Nat.div_le_self x (2 ^ k)) (by omega)
  exact ⟨Int.natCast_nonneg _, Int.ofNat_le.2 h2⟩
theorem halfP_succ (x k : Nat) : halfP x k / 2 = halfP x (k + 1) := by
  unfold halfP
  rw [Nat.pow_succ, ← Nat.div_div_eq_div_mul]
  omega
theorem xorP_le {x y k : Nat} (h : x < 65536) (h2 : y < 65536) : 0 ≤ xorP x y k ∧ xorP x y k ≤ 65535 := by
  unfold xorP
  have h1 : (x ^^^ y) % 2 ^ k ≤ x ^^^ y := Nat.mod_le _ _
  have h3 : x ^^^ y < 2 ^ 16 := Nat.xor_lt_two_pow (n := 16) h h2
  omega
theorem xorP_succ (x y k : Nat) : xorP x y (k + 1) = if halfP x k % 2 = halfP y k % 2 then xorP x y k else xorP x y k + twoP k := by
  unfold xorP halfP twoP
  rw [xor_step]
  by_cases h : x / 2 ^ k % 2 = y / 2 ^ k % 2
  · rw [if_neg (by omega), if_pos (by omega)]; omega
  · rw [if_pos h, if_neg (by omega)]; omega

set_option maxHeartbeats 1000000 in
theorem xor_any (x y : Nat) (w : World) (hx : x < 65536) (hy : y < 65536) : Calls Tryd.prog 69 #[.int .i64 x, .int .i64 y] w fun e w' => e = .returned (.int .i64 ((x ^^^ y : Nat) : Int)) ∧ w = w' := by
  have hfin : xorP x y 16 = ((x ^^^ y : Nat) : Int) := by
    unfold xorP
    rw [Nat.mod_eq_of_lt (Nat.xor_lt_two_pow (n := 16) hx hy)]
  have x0 : (x : Int) = halfP x 0 := by simp [halfP]
  have y0 : (y : Int) = halfP y 0 := by simp [halfP]
  rw [← hfin]
  obtain ⟨X, hX⟩ : ∃ X : Int, X = (x : Int) := ⟨_, rfl⟩
  obtain ⟨Y, hY⟩ : ∃ Y : Int, Y = (y : Int) := ⟨_, rfl⟩
  rw [← hX, ← hY]
  have X0 := Lib.hid (hX.trans x0)
  have Y0 := Lib.hid (hY.trans y0)
  have HLX := Lib.hid hx
  have HLY := Lib.hid hy
  clear hX hY x0 y0 hfin hx hy
  go_enter Tryd.func69, Tryd.ntmps69
  go_wp2
  go_loop [0, 1, 5, 6, 7] (fun va vb vo v1 vi => ∃ k : Nat, k ≤ 16 ∧ va = .int .i64 (halfP x k) ∧ vb = .int .i64 (halfP y k) ∧ vo = .int .i64 (xorP x y k) ∧ v1 = .int .i64 (twoP k) ∧ vi = .int .i64 k) (fun _ _ _ _ vi => 16 - (intOf vi).toNat)
  case atStart => exact ⟨0, by omega, by rw [X0.out], by rw [Y0.out], by simp [xorP, Nat.mod_one], rfl, rfl⟩
  case round =>
    obtain ⟨k, hk, rfl, rfl, rfl, rfl, rfl⟩ := hrel
    have hxk := halfP_le (k := k) HLX.out
    have hyk := halfP_le (k := k) HLY.out
    have hak := xorP_le (k := k) HLX.out HLY.out
    have htk := twoP_le hk
    obtain ⟨A, hA⟩ : ∃ A, A = halfP x k := ⟨_, rfl⟩
    obtain ⟨B, hB⟩ : ∃ B, B = halfP y k := ⟨_, rfl⟩
    obtain ⟨C, hC⟩ : ∃ C, C = xorP x y k := ⟨_, rfl⟩
    obtain ⟨D, hD⟩ : ∃ D, D = twoP k := ⟨_, rfl⟩
    rw [← hA, ← hB, ← hC, ← hD]
    rw [← hA] at hxk
    rw [← hB] at hyk
    rw [← hC] at hak
    rw [← hD] at htk
    have sA : A / 2 = halfP x (k + 1) := by rw [hA]; exact halfP_succ x k
    have sB : B / 2 = halfP y (k + 1) := by rw [hB]; exact halfP_succ y k
    have sD : 2 * D = twoP (k + 1) := by rw [hD]; exact twoP_succ k
    have sC : xorP x y (k + 1) = if A % 2 = B % 2 then C else C + D := by rw [hA, hB, hC, hD]; exact xorP_succ x y k
    have SA := Lib.hid sA
    have SB := Lib.hid sB
    have SC := Lib.hid sC
    have SD := Lib.hid sD
    have HC := Lib.hid hC
    clear sA sB sC sD hA hB hC hD
    by_cases hlt : k < 16
    · by_cases h1 : A % 2 = B % 2
      · have hb1 : (A % 2 != B % 2) = false := by simp [h1]
        have SC2 := Lib.hid (SC.out.trans (if_pos h1))
        clear h1
        go_wp2
        go_round
        case rel => exact ⟨k + 1, by omega, by rw [← SA.out], by rw [← SB.out], by rw [SC2.out], by rw [← SD.out], by go_num⟩
        case measure => simp [intOf]; omega
      · have hb1 : (A % 2 != B % 2) = true := by simp [h1]
        have SC2 := Lib.hid (SC.out.trans (if_neg h1))
        clear h1
        go_wp2
        go_round
        case rel => exact ⟨k + 1, by omega, by rw [← SA.out], by rw [← SB.out], by rw [SC2.out], by rw [← SD.out], by go_num⟩
        case measure => simp [intOf]; omega
    · have hk16 : xorP x y 16 = C := by rw [HC.out, show k = 16 from by omega]
      have HK := Lib.hid hk16
      clear hk16
      go_wp2
      go_ret
      exact ⟨by rw [HK.out]; rfl, rfl⟩

/-- Doubling, as the document says it. -/
theorem dbl_big {s : Nat} (h : s < 65536) (h1 : 32768 ≤ s) : (2 * (s - 32768)) ^^^ 4129 = CM.dbl s := by
  unfold CM.dbl
  have hb : s.testBit 15 = true := by rw [Nat.testBit_eq_decide_div_mod_eq, decide_eq_true_iff]; omega
  rw [if_pos hb, show 2 * (s - 32768) = 2 * s % 65536 by omega]
theorem xor_i (X Y : Int) (x y : Nat) (w : World) (hx : x < 65536) (hy : y < 65536) (eX : X = x) (eY : Y = y) : Calls Tryd.prog 69 #[.int .i64 X, .int .i64 Y] w fun e w' => e = .returned (.int .i64 ((x ^^^ y : Nat) : Int)) ∧ w = w' := by
  subst eX; subst eY; exact xor_any x y w hx hy

set_option maxHeartbeats 1000000 in
set_option maxRecDepth 100000 in
theorem refOn_any (s : Int) (a : Option Addr) (n c : Nat) (xs : List Int) (w : World) (h1 : I64 s) (hi : IntsAt w a n xs) (hx64 : ∀ x ∈ xs, I64 x) (hn : n ≤ maxLen) :
    Calls Tryd.prog 59 #[.int .i64 s, .slice a n c] w fun e w' => e = .returned (.int .i64 (crcI s xs)) ∧ w = w' := by
  unfold maxLen at hn
  have HI := Lib.hid hi
  have HNX := Lib.hid (show xs.length = n from hi.1.symm)
  have HX64 := Lib.hid hx64
  clear hi hx64
  go_enter Tryd.func59, Tryd.ntmps59
  go_wp2_with (go_at_call 68; refine (low_any s _ h1).mono ?_; rintro e w' ⟨rfl, rfl⟩)
  go_loop [5, 6, 7] (fun vs vi _ => ∃ k : Nat, k ≤ n ∧ vi = .int .i64 k ∧ vs = .int .i64 (CM.crc (lo s) ((xs.take k).map lo) : Nat)) (fun _ vi _ => n - (intOf vi).toNat)
  case atStart => exact ⟨0, Nat.zero_le _, rfl, rfl⟩
  case round =>
    obtain ⟨k, hk, rfl, rfl⟩ := hrel
    obtain ⟨s0, hs0⟩ : ∃ s0, s0 = CM.crc (lo s) ((xs.take k).map lo) := ⟨_, rfl⟩
    rw [← hs0]
    have hs0l : s0 < 65536 := by
      rw [hs0]
      refine CM.crc_lt (lo_lt s) (fun w hw => ?_)
      obtain ⟨x, _, rfl⟩ := List.mem_map.1 hw
      exact lo_lt x
    have H0 := Lib.hid hs0
    clear hs0
    by_cases hlt : k < n
    · have hkx : k < xs.length := by rw [HNX.out]; exact hlt
      rcases a with _ | ⟨lb, lo', ls⟩
      · have := HI.out.2.1 rfl; rw [this] at hkx; simp at hkx
      obtain ⟨rfl, hlc⟩ := HI.out.2.2 lb lo' ls rfl (List.ne_nil_of_length_pos (by omega))
      have hx := hlc k hkx
      have hxb := HX64.out (xs.getD k 0) (by simp [List.getD, hkx])
      obtain ⟨x, ex⟩ : ∃ x, x = xs.getD k 0 := ⟨_, rfl⟩
      rw [← ex] at hx hxb
      have HX := Lib.hid ex
      have hyl : s0 ^^^ lo x < 65536 := Nat.xor_lt_two_pow (n := 16) hs0l (lo_lt x)
      have HYL := Lib.hid hyl
      clear ex hlc hyl
      go_wp2_with (first
        | (go_at_call 68; refine (low_any x _ hxb).mono ?_; rintro e w' ⟨rfl, rfl⟩)
        | (go_at_call 69; refine (xor_any s0 (lo x) _ hs0l (lo_lt x)).mono ?_; rintro e w' ⟨rfl, rfl⟩))
      go_loop [5, 7] (fun vs vj => ∃ j : Nat, j ≤ 16 ∧ vj = .int .i64 j ∧ vs = .int .i64 (CM.dblN j (s0 ^^^ lo x) : Nat)) (fun _ vj => 16 - (intOf vj).toNat)
      case atStart => exact ⟨0, by omega, rfl, rfl⟩
      case round =>
        obtain ⟨j, hj, rfl, rfl⟩ := hrel
        obtain ⟨t, ht⟩ : ∃ t, t = CM.dblN j (s0 ^^^ lo x) := ⟨_, rfl⟩
        rw [← ht]
        have htl : t < 65536 := by rw [ht]; exact CM.dblN_lt HYL.out
        have HT2 := Lib.hid ht
        clear ht
        by_cases hj4 : j < 16
        · by_cases hbig : 32768 ≤ t
          · have hd := Lib.hid (dbl_big htl hbig)
            have hg : (32768 : Int) ≤ (t : Int) := by omega
            go_wp2_with (go_at_call 69; refine (xor_i _ _ (2 * (t - 32768)) 4129 _ (by omega) (by omega) (by omega) (by omega)).mono ?_; rintro e w' ⟨rfl, rfl⟩)
            go_round
            case rel =>
              refine ⟨j + 1, by omega, by go_num, ?_⟩
              rw [hd.out, HT2.out, CM.dblN_add j 1]; rfl
            case measure => simp [intOf]; omega
          · have hd := Lib.hid (CM.dbl_small (s := t) (by omega))
            have hg : ¬ (32768 : Int) ≤ (t : Int) := by omega
            go_wp2_with fail
            go_round
            case rel =>
              refine ⟨j + 1, by omega, by go_num, ?_⟩
              have e : ((CM.dblN (j + 1) (s0 ^^^ lo x) : Nat) : Int) = 2 * (t : Int) := by
                rw [CM.dblN_add j 1, ← HT2.out]
                show ((CM.dbl t : Nat) : Int) = _
                rw [hd.out]; omega
              rw [e]
            case measure => simp [intOf]; omega
        · have hj' : j = 16 := by omega
          have HJ := Lib.hid hj'
          clear hj'
          go_wp2
          go_round
          case rel =>
            refine ⟨k + 1, by omega, by go_num, ?_⟩
            rw [HT2.out, HJ.out, List.take_succ_eq_append_getElem hkx, List.map_append, CM.crc_append, ← H0.out]
            have e : xs[k] = x := by rw [HX.out]; simp [List.getD, hkx]
            rw [e]; rfl
          case measure => simp [intOf]; omega
    · have hfin : xs.take k = xs := List.take_of_length_le (by rw [HNX.out]; omega)
      have HF := Lib.hid hfin
      clear hfin
      go_wp2
      go_ret
      exact ⟨by rw [H0.out, HF.out]; rfl, rfl⟩

theorem crcOf_any (a : Option Addr) (n c : Nat) (xs : List Int) (w : World) (ht : Turns w) (hi : IntsAt w a n xs) (hn : n ≤ maxLen) :
    Calls Tryd.prog 58 #[.slice a n c] w fun e w' => e = .returned (.int .i64 (crcI 65535 xs)) ∧ w = w' := by
  have HT := Lib.hid ht
  have HI := Lib.hid hi
  clear ht hi
  go_enter Tryd.func58, Tryd.ntmps58
  go_wp2_with (go_at_call 67; refine (on_any _ _ _ _ _ _ HT.out HI.out hn).mono ?_; rintro e w' ⟨rfl, rfl⟩)
  go_ret
  exact ⟨rfl, rfl⟩
theorem refOf_any (a : Option Addr) (n c : Nat) (xs : List Int) (w : World) (hi : IntsAt w a n xs) (hx64 : ∀ x ∈ xs, I64 x) (hn : n ≤ maxLen) :
    Calls Tryd.prog 53 #[.slice a n c] w fun e w' => e = .returned (.int .i64 (crcI 65535 xs)) ∧ w = w' := by
  have HI := Lib.hid hi
  have HX := Lib.hid hx64
  clear hi hx64
  go_enter Tryd.func53, Tryd.ntmps53
  go_wp2_with (go_at_call 59; refine (refOn_any _ _ _ _ _ _ (by unfold I64; omega) HI.out HX.out hn).mono ?_; rintro e w' ⟨rfl, rfl⟩)
  go_ret
  exact ⟨rfl, rfl⟩
end Go.Proofs.YtnmblemplkdmaaaDoor
