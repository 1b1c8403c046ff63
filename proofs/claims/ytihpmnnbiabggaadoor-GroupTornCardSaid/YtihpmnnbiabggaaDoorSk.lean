
/- slot: Blank, the program's and the document's: contracts. No condition. -/
import Derived.Test.YtihpmnnbiabggaaDoorAp
namespace Go.Proofs.YtihpmnnbiabggaaDoor
open Go.RowKit
set_option maxRecDepth 100000
set_option linter.unusedVariables false

/-- Are there words, all blank? -/
def blankB (xs : List Int) : Bool := decide (0 < xs.length) && xs.all (· == 65535)

set_option maxHeartbeats 1000000 in
theorem blank_any (a : Option Addr) (n c : Nat) (xs : List Int) (w : World) (hi : IntsAt w a n xs) (hn : n ≤ maxLen) :
    Calls Tryd.prog 21 #[.slice a n c] w fun e w' => e = .returned (.bool (blankB xs)) ∧ w = w' := by
  unfold maxLen at hn
  have HI := Lib.hid hi
  have HLEN := Lib.hid (show n = xs.length from hi.1)
  clear hi
  go_enter Tryd.func21, Tryd.ntmps21
  go_wp2_with fail
  go_loop [4, 7] (fun v4 vi => ∃ k : Nat, k ≤ n ∧ vi = .int .i64 k ∧ ∀ i, i < k → xs.getD i 0 = 65535) (fun _ vi => n - (intOf vi).toNat)
  case atStart => exact ⟨0, Nat.zero_le _, rfl, by intro i hi; omega⟩
  case round =>
    obtain ⟨k, hk, rfl, hall⟩ := hrel
    have HALL := Lib.hid hall
    clear hall
    by_cases hlt : k < n
    · have hkx : k < xs.length := by rw [← HLEN.out]; exact hlt
      rcases a with _ | ⟨b, o, sp⟩
      · have := HI.out.2.1 rfl; rw [this] at hkx; simp at hkx
      obtain ⟨rfl, hlc⟩ := HI.out.2.2 b o sp rfl (List.ne_nil_of_length_pos (by omega))
      have hx := hlc k hkx
      obtain ⟨x, ex⟩ : ∃ x, x = xs.getD k 0 := ⟨_, rfl⟩
      rw [← ex] at hx
      have EX := Lib.hid ex
      have HKX := Lib.hid hkx
      clear ex hlc hkx
      by_cases he : x = 65535
      · have hb : (x != 65535) = false := by simp [he]
        have HE := Lib.hid he
        clear he
        go_wp2_with fail
        go_round
        case rel =>
          refine ⟨k + 1, by omega, by go_num, ?_⟩
          intro i hi
          by_cases h : i < k
          · exact HALL.out i h
          · obtain rfl : i = k := by omega
            rw [← EX.out]; exact HE.out
        case measure => simp [intOf]; omega
      · have hb : (x != 65535) = true := by simp [he]
        have hfin : blankB xs = false := by
          unfold blankB
          rw [Bool.and_eq_false_iff]
          right
          rw [List.all_eq_false]
          refine ⟨xs[k]'HKX.out, List.getElem_mem _, ?_⟩
          have e : xs[k]'HKX.out = x := by rw [EX.out]; simp [List.getD, HKX.out]
          rw [e]
          simpa using he
        have HF := Lib.hid hfin
        clear he hfin
        go_wp2_with fail
        go_ret
        exact ⟨by rw [HF.out]; rfl, rfl⟩
    · have hfin : blankB xs = decide (0 < xs.length) := by
        unfold blankB
        have : xs.all (· == 65535) = true := by
          refine List.all_eq_true.2 fun x hx => ?_
          obtain ⟨i, hi, rfl⟩ := List.mem_iff_getElem.1 hx
          have := HALL.out i (by have := HLEN.out; omega)
          simpa [List.getD, hi] using this
        rw [this, Bool.and_true]
      have hfin2 : blankB xs = decide (0 < n) := by rw [hfin, ← HLEN.out]
      have HF := Lib.hid hfin2
      clear hfin hfin2
      go_wp2_with fail
      go_ret
      exact ⟨by rw [HF.out]; rfl, rfl⟩

end Go.Proofs.YtihpmnnbiabggaaDoor
