
/- The sums of words of the program: their contracts. No condition but the table that the program's text lays. -/
import Derived.Test.YtihpmnnbiabggaaDoorCm
import Derived.Lib.LaidTab
namespace Go.Proofs.YtihpmnnbiabggaaDoor
open Go.RowKit
set_option maxRecDepth 100000
set_option linter.unusedVariables false
variable {w w' : World} {F : List Nat}

/-- A number's lowest sixteen bits. -/
def lo (x : Int) : Nat := (x % 65536).toNat
theorem lo_lt (x : Int) : lo x < 65536 := by unfold lo; omega
theorem lo_nat {n : Nat} (h : n < 65536) : lo (n : Int) = n := by unfold lo; omega
theorem bits_low (x : Int) : bits .and .i64 x 65535 = (lo x : Int) := by
  show IntKind.i64.wrap ((BitVec.ofInt 64 x &&& BitVec.ofInt 64 65535).toNat : Int) = _
  have e1 : (BitVec.ofInt 64 65535).toNat = 2 ^ 16 - 1 := by decide
  have e2 : (BitVec.ofInt 64 x).toNat = (x % 18446744073709551616).toNat := by rw [BitVec.toNat_ofInt]; rfl
  rw [BitVec.toNat_and, e1, Nat.and_two_pow_sub_one_eq_mod, e2, IntKind.wrap_i64]
  unfold lo
  omega
theorem bits_xor16 (a b : Nat) (ha : a < 65536) (hb : b < 65536) : bits .xor .i64 (a : Int) (b : Int) = ((a ^^^ b : Nat) : Int) := by
  have hx : a ^^^ b < 2 ^ 16 := Nat.xor_lt_two_pow (n := 16) ha hb
  have e : ∀ n : Nat, n < 65536 → (BitVec.ofInt 64 (n : Int)).toNat = n := by
    intro n hn
    rw [BitVec.ofInt_natCast, BitVec.toNat_ofNat]; exact Nat.mod_eq_of_lt (by omega)
  show IntKind.i64.wrap ((BitVec.ofInt 64 (a : Int) ^^^ BitVec.ofInt 64 (b : Int)).toNat : Int) = _
  rw [BitVec.toNat_xor, e a ha, e b hb, IntKind.wrap_i64]
  omega

/-- The table lies where its initialiser laid it. -/
def Turns (w : World) : Prop := ∀ i, i < 16 → w.cell? ⟨0, i, none⟩ = some (.int .i64 (CM.turnsL.getD i 0 : Nat)) ∧ 0 < w.heap.size
theorem Turns.keep (h : Turns w) (hk : Keeps [] w w') : Turns w' := fun i hi => ⟨(hk.cell (h i hi).2 (by simp)).trans (h i hi).1, Nat.lt_of_lt_of_le (h i hi).2 hk.size⟩

theorem turns_lt : ∀ i : Nat, CM.turnsL.getD i 0 < 65536 := by
  intro i
  by_cases h : i < 16
  · exact (show ∀ i : Nat, i < 16 → CM.turnsL.getD i 0 < 65536 from by decide) i h
  · simp only [List.getD]
    rw [List.getElem?_eq_none (by simp [CM.turnsL]; omega)]
    decide
/-- Four bits at once. -/
theorem four_step {s : Nat} (h : s < 65536) : bits .xor .i64 (bits .and .i64 ((s : Int) * 16) 65535) ((CM.turnsL.getD (s / 4096) 0 : Nat) : Int) = ((CM.dblN 4 s : Nat) : Int) := by
  rw [bits_low, bits_xor16 _ _ (lo_lt _) (turns_lt _), CM.dblN_four h]
  congr 2

def crcI (s : Int) (xs : List Int) : Nat := CM.crc (lo s) (xs.map lo)
theorem crc_le {s : Int} {xs : List Int} : crcI s xs < 65536 := by
  unfold crcI
  refine CM.crc_lt (lo_lt s) (fun w hw => ?_)
  obtain ⟨x, _, rfl⟩ := List.mem_map.1 hw
  exact lo_lt x

set_option maxHeartbeats 1000000 in
theorem on_any (s : Int) (a : Option Addr) (n c : Nat) (xs : List Int) (w : World) (ht : Turns w) (hi : IntsAt w a n xs) (hn : n ≤ maxLen) :
    Calls Tryd.prog 47 #[.int .i64 s, .slice a n c] w fun e w' => e = .returned (.int .i64 (crcI s xs)) ∧ w = w' := by
  unfold maxLen at hn
  have hl := bits_low s
  obtain ⟨L, hL⟩ : ∃ L : Int, L = (lo s : Int) := ⟨_, rfl⟩
  rw [← hL] at hl
  have HL := Lib.hid hL
  have HI := Lib.hid hi
  have HNX := Lib.hid (show xs.length = n from hi.1.symm)
  have HT := Lib.hid ht
  clear hL hi ht
  go_enter Tryd.func47, Tryd.ntmps47
  go_wp2
  go_loop [0, 11] (fun vs vi => ∃ k : Nat, k ≤ n ∧ vi = .int .i64 k ∧ vs = .int .i64 (CM.crc (lo s) ((xs.take k).map lo) : Nat)) (fun _ vi => n - (intOf vi).toNat)
  case atStart => exact ⟨0, Nat.zero_le _, rfl, by rw [HL.out]; rfl⟩
  case round =>
    obtain ⟨k, hk, rfl, rfl⟩ := hrel
    have hkm : k ≤ 9223372036854775807 := by omega
    obtain ⟨s0, hs0⟩ : ∃ s0, s0 = CM.crc (lo s) ((xs.take k).map lo) := ⟨_, rfl⟩
    rw [← hs0]
    have hs0l : s0 < 65536 := by
      rw [hs0]
      refine CM.crc_lt (lo_lt s) (fun w hw => ?_)
      obtain ⟨x, _, rfl⟩ := List.mem_map.1 hw
      exact lo_lt x
    have H0 := Lib.hid hs0
    clear hs0
    by_cases hlt : k < n
    · have hkx : k < xs.length := by rw [HNX.out]; exact hlt
      rcases a with _ | ⟨lb, lo', ls⟩
      · have := HI.out.2.1 rfl; rw [this] at hkx; simp at hkx
      obtain ⟨rfl, hlc⟩ := HI.out.2.2 lb lo' ls rfl (List.ne_nil_of_length_pos (by omega))
      have hx := hlc k hkx
      obtain ⟨x, ex⟩ : ∃ x, x = xs.getD k 0 := ⟨_, rfl⟩
      rw [← ex] at hx
      have hb := bits_low x
      have hxr := bits_xor16 s0 (lo x) hs0l (lo_lt x)
      obtain ⟨V, hV⟩ : ∃ V : Int, V = (lo x : Int) := ⟨_, rfl⟩
      obtain ⟨S, hS⟩ : ∃ S : Int, S = (s0 : Int) := ⟨_, rfl⟩
      obtain ⟨Y, hY⟩ : ∃ Y : Int, Y = ((s0 ^^^ lo x : Nat) : Int) := ⟨_, rfl⟩
      rw [← hV] at hb
      rw [← hV, ← hS, ← hY] at hxr
      rw [← hS]
      have HY := Lib.hid hY
      have HX := Lib.hid ex
      have hyl : s0 ^^^ lo x < 65536 := Nat.xor_lt_two_pow (n := 16) hs0l (lo_lt x)
      have HYL := Lib.hid hyl
      clear hV hS hY ex hlc hyl
      go_wp2
      go_loop [0, 19] (fun vs vj => ∃ j : Nat, j ≤ 4 ∧ vj = .int .i64 j ∧ vs = .int .i64 (CM.dblN (4 * j) (s0 ^^^ lo x) : Nat)) (fun _ vj => 4 - (intOf vj).toNat)
      case atStart => exact ⟨0, by omega, rfl, by rw [HY.out]; rfl⟩
      case round =>
        obtain ⟨j, hj, rfl, rfl⟩ := hrel
        obtain ⟨t, ht⟩ : ∃ t, t = CM.dblN (4 * j) (s0 ^^^ lo x) := ⟨_, rfl⟩
        rw [← ht]
        have htl : t < 65536 := by rw [ht]; exact CM.dblN_lt HYL.out
        have h4 := four_step htl
        have hc := (HT.out (t / 4096) (by omega)).1
        obtain ⟨T, hT⟩ : ∃ T : Int, T = (t : Int) := ⟨_, rfl⟩
        obtain ⟨U, hU⟩ : ∃ U : Int, U = ((CM.turnsL.getD (t / 4096) 0 : Nat) : Int) := ⟨_, rfl⟩
        obtain ⟨R, hR⟩ : ∃ R : Int, R = ((CM.dblN 4 t : Nat) : Int) := ⟨_, rfl⟩
        rw [← hU] at hc
        rw [← hU, ← hT, ← hR] at h4
        rw [← hT]
        have e1 : t / 4096 = (T / 4096).toNat := by rw [hT]; omega
        rw [e1] at hc
        have t0 : 0 ≤ T := by rw [hT]; omega
        have t1 : T ≤ 65535 := by rw [hT]; omega
        have t2 : 0 ≤ T / 4096 := by omega
        have t3 : T / 4096 < 16 := by omega
        have HR := Lib.hid hR
        have HT2 := Lib.hid ht
        have HT3 := Lib.hid hT
        clear hT hU hR ht e1
        by_cases hj4 : j < 4
        · go_wp2
          go_round
          case rel =>
            refine ⟨j + 1, by omega, by go_num, ?_⟩
            rw [HR.out, HT2.out, ← CM.dblN_add, show 4 * j + 4 = 4 * (j + 1) by omega]
          case measure => simp [intOf]; omega
        · have hj' : j = 4 := by omega
          have HJ := Lib.hid hj'
          clear hj'
          go_wp2
          go_round
          case rel =>
            refine ⟨k + 1, by omega, by go_num, ?_⟩
            rw [HT3.out, HT2.out, HJ.out, List.take_succ_eq_append_getElem hkx, List.map_append, CM.crc_append, ← H0.out]
            have e : xs[k] = x := by rw [HX.out]; simp [List.getD, hkx]
            rw [e]; rfl
          case measure => simp [intOf]; omega
    · have hfin : xs.take k = xs := List.take_of_length_le (by rw [HNX.out]; omega)
      have HF := Lib.hid hfin
      clear hfin
      go_wp2
      go_ret
      exact ⟨by rw [H0.out, HF.out]; rfl, rfl⟩
end Go.Proofs.YtihpmnnbiabggaaDoor
