/- The sum of words of which a bit is turned over: contracts. -/
import Derived.Test.YtogbkbcjanjbfaaDoorCt
import Derived.Test.YtogbkbcjanjbfaaDoorMk
namespace Go.Proofs.YtogbkbcjanjbfaaDoor
open Go.RowKit
set_option linter.unusedVariables false
variable {w w' : World} {F : List Nat}

def holdsB (size at_ : Int) : Bool := decide (1 ≤ size) && decide (size ≤ 256) && decide (0 ≤ at_) && decide (at_ < size)
theorem holdsB_iff {size at_ : Int} : holdsB size at_ = true ↔ 1 ≤ size ∧ size ≤ 256 ∧ 0 ≤ at_ ∧ at_ < size := by simp [holdsB]; omega

theorem holds_any (size at_ : Int) (w : World) :
    Calls Tryd.prog 25 #[.int .i64 size, .int .i64 at_] w fun e w' => e = .returned (.bool (holdsB size at_)) ∧ w = w' := by
  by_cases h1 : 1 ≤ size
  · by_cases h2 : size ≤ 256
    · by_cases h3 : 0 ≤ at_
      · by_cases h4 : at_ < size
        · have H := Lib.hid (show holdsB size at_ = true from by simp [holdsB]; omega)
          go_enter Tryd.func25, Tryd.ntmps25
          go_wp2
          go_ret
          exact ⟨by rw [H.out]; rfl, rfl⟩
        · have H := Lib.hid (show holdsB size at_ = false from by simp [holdsB]; omega)
          go_enter Tryd.func25, Tryd.ntmps25
          go_wp2
          go_ret
          exact ⟨by rw [H.out]; rfl, rfl⟩
      · have H := Lib.hid (show holdsB size at_ = false from by simp [holdsB]; omega)
        go_enter Tryd.func25, Tryd.ntmps25
        go_wp2
        go_ret
        exact ⟨by rw [H.out]; rfl, rfl⟩
    · have H := Lib.hid (show holdsB size at_ = false from by simp [holdsB]; omega)
      go_enter Tryd.func25, Tryd.ntmps25
      go_wp2
      go_ret
      exact ⟨by rw [H.out]; rfl, rfl⟩
  · have H := Lib.hid (show holdsB size at_ = false from by simp [holdsB]; omega)
    go_enter Tryd.func25, Tryd.ntmps25
    go_wp2
    go_ret
    exact ⟨by rw [H.out]; rfl, rfl⟩

def okT (size at_ bit : Int) : Bool := holdsB size at_ && decide (0 ≤ bit) && decide (bit < 16)
theorem okT_iff {size at_ bit : Int} : okT size at_ bit = true ↔ (1 ≤ size ∧ size ≤ 256 ∧ 0 ≤ at_ ∧ at_ < size) ∧ 0 ≤ bit ∧ bit < 16 := by simp [okT, holdsB_iff, and_assoc]
/-- A bit and nothing behind it. -/
def bitL (n : Nat) (bit : Int) : List Int := (List.replicate n 0).set 0 ((2 ^ bit.toNat : Nat) : Int)
def turnedV (sum : Int) (size at_ bit : Int) : Int := ((lo sum ^^^ crcI 0 (bitL (size - at_).toNat bit) : Nat) : Int)

theorem on_val (s : Int) (a : Option Addr) (n c : Nat) (xs : List Int) (w : World) (v : Int) (hv : v = crcI s xs) (ht : Turns w) (hi : IntsAt w a n xs) (hn : n ≤ maxLen) :
    Calls Tryd.prog 11 #[.int .i64 s, .slice a n c] w fun e w' => e = .returned (.int .i64 v) ∧ w = w' := by
  subst hv; exact on_any s a n c xs w ht hi hn

theorem turned_bad (sum size at_ bit : Int) (w : World) (h : okT size at_ bit = false) :
    Calls Tryd.prog 17 #[.int .i64 sum, .int .i64 size, .int .i64 at_, .int .i64 bit] w fun e w' => e = .returned (.tuple #[.int .i64 0, .int .i64 2]) ∧ w = w' := by
  by_cases h1 : holdsB size at_ = true
  · by_cases h2 : bit < 0
    · clear h
      go_enter Tryd.func17, Tryd.ntmps17
      go_wp2_with (go_at_call 25; refine (holds_any _ _ _).mono ?_; rintro e w' ⟨rfl, rfl⟩)
      go_ret2
      exact ⟨rfl, rfl⟩
    · have h3 : 16 ≤ bit := by
        simp only [okT, h1, Bool.true_and] at h
        simp at h; omega
      clear h
      go_enter Tryd.func17, Tryd.ntmps17
      go_wp2_with (go_at_call 25; refine (holds_any _ _ _).mono ?_; rintro e w' ⟨rfl, rfl⟩)
      go_ret2
      exact ⟨rfl, rfl⟩
  · have h2 : holdsB size at_ = false := by simpa using h1
    clear h h1
    go_enter Tryd.func17, Tryd.ntmps17
    go_wp2_with (go_at_call 25; refine (holds_any _ _ _).mono ?_; rintro e w' ⟨rfl, rfl⟩)
    go_ret2
    exact ⟨rfl, rfl⟩

theorem pow_bit {bit : Int} (h1 : 0 ≤ bit) (h2 : bit < 16) : ((2 ^ bit.toNat : Nat) : Int) = 2 ^ bit.toNat ∧ 1 ≤ 2 ^ bit.toNat ∧ 2 ^ bit.toNat ≤ 32768 := by
  have h3 : 2 ^ bit.toNat ≤ 2 ^ 15 := Nat.pow_le_pow_right (by omega) (by omega)
  have h4 : 0 < 2 ^ bit.toNat := Nat.pow_pos (by omega)
  exact ⟨by simp, by omega, by omega⟩
theorem bitL_new (w : World) {n : Nat} {bit : Int} (hn : 1 ≤ n) (b : Nat) (hb : b = w.heap.size) (B : Int) (hB : B = ((2 ^ bit.toNat : Nat) : Int)) : IntsAt (w.alloc (.cells ((ints (List.replicate n 0)).setIfInBounds 0 (.int .i64 B)) 3)) (some ⟨b, 0, none⟩) n (bitL n bit) := by
  subst hb; subst hB
  have h := ints_new w (bitL n bit) _ rfl 3
  rw [show (bitL n bit).length = n from by simp [bitL]] at h
  rw [ints_set]
  exact h

set_option maxRecDepth 100000 in
theorem turned_ok (sum size at_ bit : Int) (w : World) (ht : Turns w) (h : okT size at_ bit = true) :
    Calls Tryd.prog 17 #[.int .i64 sum, .int .i64 size, .int .i64 at_, .int .i64 bit] w fun e w' => e = .returned (.tuple #[.int .i64 (turnedV sum size at_ bit), .int .i64 0]) ∧ Keeps [] w w' := by
  obtain ⟨⟨a1, a2, a3, a4⟩, a5, a6⟩ := okT_iff.1 h
  have h1 : holdsB size at_ = true := holdsB_iff.2 ⟨a1, a2, a3, a4⟩
  obtain ⟨n, hn⟩ : ∃ n, n = (size - at_).toNat := ⟨_, rfl⟩
  have hn1 : (n : Int) = size - at_ := by omega
  have hn2 : 1 ≤ n ∧ n ≤ 256 := by omega
  have hmk := run_make_ints 22 Tryd.underlying22 n (by omega)
  rw [hn1] at hmk
  have h0 : (ints (List.replicate n 0))[0]? = some (.int .i64 0) := by
    rw [ints_get (by simp; omega)]
    simp only [List.getD, List.getElem?_replicate]
    split <;> rfl
  have hpos : 0 < n := hn2.1
  obtain ⟨e1, e2, e3⟩ := pow_bit a5 a6
  obtain ⟨B, hB⟩ : ∃ B : Int, B = ((2 ^ bit.toNat : Nat) : Int) := ⟨_, rfl⟩
  have hsh : wrap64 (2 ^ bit.toNat) = B := by rw [hB, ← e1]; exact IntWalk.wrap64_in _ (by omega)
  have hl := bits_low sum
  obtain ⟨V, hV⟩ : ∃ V : Int, V = crcI 0 (bitL n bit) := ⟨_, rfl⟩
  have hx := bits_xor16 (lo sum) (crcI 0 (bitL n bit)) (lo_lt _) crc_le
  rw [← hV] at hx
  obtain ⟨L, hL⟩ : ∃ L : Int, L = (lo sum : Int) := ⟨_, rfl⟩
  obtain ⟨R, hR⟩ : ∃ R : Int, R = ((lo sum ^^^ crcI 0 (bitL n bit) : Nat) : Int) := ⟨_, rfl⟩
  rw [← hL] at hl
  rw [← hL, ← hR] at hx
  have hfin : turnedV sum size at_ bit = R := by rw [hR, hn]; rfl
  rw [hfin]
  have HT := Lib.hid ht
  have HB := Lib.hid hB
  have HV := Lib.hid hV
  clear h ht hn1 hn e1 e2 e3 hB hV hL hR hfin
  go_enter Tryd.func17, Tryd.ntmps17
  go_wp2_with (first
    | (go_at_call 25; refine (holds_any _ _ _).mono ?_; rintro e w' ⟨rfl, rfl⟩)
    | (go_at_call 11; refine (on_val 0 _ n n (bitL n bit) _ V HV.out (HT.out.keep ((Keeps.refl _ _).alloc _)) (bitL_new w hn2.1 _ rfl B HB.out) (by unfold maxLen; omega)).mono ?_; rintro e w' ⟨rfl, rfl⟩))
  go_ret2
  exact ⟨rfl, (Keeps.refl _ _).alloc _⟩

theorem refTurned_bad (sum size at_ bit : Int) (w : World) (h : okT size at_ bit = false) :
    Calls Tryd.prog 18 #[.int .i64 sum, .int .i64 size, .int .i64 at_, .int .i64 bit] w fun e w' => e = .returned (.tuple #[.int .i64 0, .int .i64 2]) ∧ w = w' := by
  have hq : size < 1 ∨ 256 < size ∨ at_ < 0 ∨ size ≤ at_ ∨ bit < 0 ∨ 15 < bit := by
    refine Decidable.byContradiction fun hc => ?_
    have : okT size at_ bit = true := okT_iff.2 (by omega)
    rw [this] at h; cases h
  clear h
  by_cases h1 : size < 1
  · clear hq
    go_enter Tryd.func18, Tryd.ntmps18
    go_wp2
    go_ret2
    exact ⟨rfl, rfl⟩
  by_cases h2 : 256 < size
  · clear hq
    go_enter Tryd.func18, Tryd.ntmps18
    go_wp2
    go_ret2
    exact ⟨rfl, rfl⟩
  by_cases h3 : at_ < 0
  · clear hq
    go_enter Tryd.func18, Tryd.ntmps18
    go_wp2
    go_ret2
    exact ⟨rfl, rfl⟩
  by_cases h4 : size ≤ at_
  · clear hq
    go_enter Tryd.func18, Tryd.ntmps18
    go_wp2
    go_ret2
    exact ⟨rfl, rfl⟩
  by_cases h5 : bit < 0
  · clear hq
    go_enter Tryd.func18, Tryd.ntmps18
    go_wp2
    go_ret2
    exact ⟨rfl, rfl⟩
  have h6 : 15 < bit := by omega
  clear hq
  go_enter Tryd.func18, Tryd.ntmps18
  go_wp2
  go_ret2
  exact ⟨rfl, rfl⟩

theorem refOn_val (s : Int) (a : Option Addr) (n c : Nat) (xs : List Int) (w : World) (v : Int) (hv : v = crcI s xs) (h1 : I64 s) (hi : IntsAt w a n xs) (hx64 : ∀ x ∈ xs, I64 x) (hn : n ≤ maxLen) :
    Calls Tryd.prog 12 #[.int .i64 s, .slice a n c] w fun e w' => e = .returned (.int .i64 v) ∧ w = w' := by
  subst hv; exact refOn_any s a n c xs w h1 hi hx64 hn
theorem low_val (x : Int) (w : World) (h64 : I64 x) (v : Int) (hv : v = lo x) :
    Calls Tryd.prog 23 #[.int .i64 x] w fun e w' => e = .returned (.int .i64 v) ∧ w = w' := by
  subst hv; exact low_any x w h64
theorem xor_val (X Y : Int) (x y : Nat) (w : World) (hx : x < 65536) (hy : y < 65536) (eX : X = x) (eY : Y = y) (v : Int) (hv : v = ((x ^^^ y : Nat) : Int)) : Calls Tryd.prog 24 #[.int .i64 X, .int .i64 Y] w fun e w' => e = .returned (.int .i64 v) ∧ w = w' := by
  subst hv; exact xor_i X Y x y w hx hy eX eY

set_option maxRecDepth 100000 in
theorem refTurned_ok (sum size at_ bit : Int) (w : World) (h64 : I64 sum) (h : okT size at_ bit = true) :
    Calls Tryd.prog 18 #[.int .i64 sum, .int .i64 size, .int .i64 at_, .int .i64 bit] w fun e w' => e = .returned (.tuple #[.int .i64 (turnedV sum size at_ bit), .int .i64 0]) ∧ Keeps [] w w' := by
  obtain ⟨⟨a1, a2, a3, a4⟩, a5, a6⟩ := okT_iff.1 h
  obtain ⟨n, hn⟩ : ∃ n, n = (size - at_).toNat := ⟨_, rfl⟩
  have hn1 : (n : Int) = size - at_ := by omega
  have hn2 : 1 ≤ n ∧ n ≤ 256 := by omega
  have hmk := run_make_ints 22 Tryd.underlying22 n (by omega)
  rw [hn1] at hmk
  have h0 : (ints (List.replicate n 0))[0]? = some (.int .i64 0) := by
    rw [ints_get (by simp; omega)]
    simp only [List.getD, List.getElem?_replicate]
    split <;> rfl
  have hpos : 0 < n := hn2.1
  obtain ⟨e1, e2, e3⟩ := pow_bit a5 a6
  obtain ⟨B, hB⟩ : ∃ B : Int, B = ((2 ^ bit.toNat : Nat) : Int) := ⟨_, rfl⟩
  obtain ⟨V, hV⟩ : ∃ V : Int, V = crcI 0 (bitL n bit) := ⟨_, rfl⟩
  obtain ⟨L, hL⟩ : ∃ L : Int, L = (lo sum : Int) := ⟨_, rfl⟩
  obtain ⟨R, hR⟩ : ∃ R : Int, R = ((lo sum ^^^ crcI 0 (bitL n bit) : Nat) : Int) := ⟨_, rfl⟩
  have hfin : turnedV sum size at_ bit = R := by rw [hR, hn]; rfl
  rw [hfin]
  have hl64 : ∀ x ∈ bitL n bit, I64 x := by
    intro x hx
    unfold bitL at hx
    rcases List.mem_or_eq_of_mem_set hx with hx | rfl
    · rw [List.eq_of_mem_replicate hx]; unfold I64; omega
    · unfold I64; omega
  have HB := Lib.hid hB
  have HV := Lib.hid hV
  have HL := Lib.hid hL
  have HR := Lib.hid hR
  have H64 := Lib.hid h64
  have HL64 := Lib.hid hl64
  clear h hn1 hn e1 e2 e3 hB hV hL hR hfin h64 hl64
  go_enter Tryd.func18, Tryd.ntmps18
  go_wp2
  go_loop [10, 11] (fun v1 vi => ∃ k : Nat, (k : Int) ≤ bit ∧ vi = .int .i64 k ∧ v1 = .int .i64 ((2 ^ k : Nat) : Int)) (fun _ vi => bit.toNat - (intOf vi).toNat)
  case atStart => exact ⟨0, by omega, rfl, rfl⟩
  case round =>
    obtain ⟨k, hk, rfl, rfl⟩ := hrel
    have hp2 : 2 ^ k ≤ 2 ^ 15 := Nat.pow_le_pow_right (by omega) (by omega)
    have hsucc : ((2 ^ (k + 1) : Nat) : Int) = 2 * ((2 ^ k : Nat) : Int) := by rw [Nat.pow_succ]; omega
    obtain ⟨D, hD⟩ : ∃ D : Int, D = ((2 ^ k : Nat) : Int) := ⟨_, rfl⟩
    rw [← hD] at hsucc ⊢
    have hp3 : (2 ^ k : Nat) ≤ 32768 := hp2
    have hD1 : 0 ≤ D ∧ D ≤ 32768 := by rw [hD]; exact ⟨Int.natCast_nonneg _, Int.ofNat_le.2 hp3⟩
    have HD := Lib.hid hD
    have HS := Lib.hid hsucc
    clear hD hsucc hp2 hp3
    by_cases hlt : (k : Int) < bit
    · go_wp2
      go_round
      case rel => exact ⟨k + 1, by omega, by go_num, by rw [HS.out]⟩
      case measure => simp [intOf]; omega
    · have hDB : D = B := by rw [HD.out, HB.out, show k = bit.toNat by omega]
      have HDB := Lib.hid hDB
      clear hDB
      go_wp2_with (first
        | (go_at_call 23; refine (low_val _ _ H64.out L HL.out).mono ?_; rintro e w' ⟨rfl, rfl⟩)
        | (go_at_call 12; refine (refOn_val 0 _ n n (bitL n bit) _ V HV.out (by unfold I64; omega) (bitL_new w hn2.1 _ rfl D (HDB.out.trans HB.out)) HL64.out (by unfold maxLen; omega)).mono ?_; rintro e w' ⟨rfl, rfl⟩)
        | (go_at_call 24; refine (xor_val _ _ (lo sum) (crcI 0 (bitL n bit)) _ (lo_lt _) crc_le HL.out HV.out R HR.out).mono ?_; rintro e w' ⟨rfl, rfl⟩))
      go_ret2
      exact ⟨rfl, (Keeps.refl _ _).alloc _⟩
end Go.Proofs.YtogbkbcjanjbfaaDoor
