
/- GroupScans walked. No condition but lengths, that all are numbers of 64 bits, and the table of the sums. -/
import Derived.Test.YtnmblemplkdmaaaDoorWa
import Derived.Test.YtnmblemplkdmaaaDoorSi
import Derived.Test.YtnmblemplkdmaaaDoorRp
namespace Go.Proofs.YtnmblemplkdmaaaDoor
open Go.RowKit Go.Shelf
set_option linter.unusedVariables false
set_option linter.unusedSimpArgs false
set_option maxRecDepth 100000

theorem take_64 {xs : List Int} {k : Nat} (h : ∀ x ∈ xs, I64 x) : ∀ x ∈ xs.take k, I64 x := fun x hx => h x (List.mem_of_mem_take hx)

set_option maxHeartbeats 4000000 in
theorem gscans_any (a : Option Addr) (n c : Nat) (xs : List Int) (m : Int) (w : World) (ht : Turns w) (hi : IntsAt w a n xs) (hn : n ≤ c) (hc : c ≤ maxLen) (h64 : ∀ x ∈ xs, I64 x) (hm : I64 m) :
    Calls Tryd.prog 3 #[.slice a n c, .int .i64 m] w fun e w' => e = .returned (.bool true) ∧ Keeps [] w w' := by
  have hfn := fewN_le n
  have hit := hi.take (k := fewN n) hfn.1
  have h64t := take_64 (k := fewN n) h64
  obtain ⟨ys, hys⟩ : ∃ ys, ys = xs.take (fewN n) := ⟨_, rfl⟩
  rw [← hys] at hit h64t
  obtain ⟨M, hM⟩ : ∃ M, M = fewN n := ⟨_, rfl⟩
  have hMb : M ≤ n ∧ M ≤ 480 := by rw [hM]; exact hfn
  rw [← hM] at hit
  obtain ⟨S, hS⟩ : ∃ S, S = scanR ys := ⟨_, rfl⟩
  have hSl : S.live.length = 44 := by rw [hS]; exact (fits_scan ys).live
  have HT := Lib.hid ht
  have HI := Lib.hid hit
  have H64 := Lib.hid h64t
  have HMB := Lib.hid hMb
  have HM := Lib.hid hM
  have HN := Lib.hid hn
  have HC := Lib.hid hc
  have HS := Lib.hid hS
  have HSL := Lib.hid hSl
  have HMM := Lib.hid hm
  have HYL := Lib.hid hit.1
  clear ht hi hit h64 h64t hys hfn hMb hM hn hc hS hSl hm
  go_enter Tryd.func3, Tryd.ntmps3
  go_wp2_with (first
    | (go_at_call 9; refine (few_any _ _ _ _ HN.out HC.out).mono ?_; rw [← HM.out]; rintro e w' ⟨rfl, rfl⟩)
    | (go_at_call 10; refine (ints_any _ _ _ ys _ HI.out (by have := HMB.out; omega)).mono ?_; rw [← HYL.out]; rintro e w1 ⟨v, rfl, g, c', rfl, hg, hA, k1⟩; have HA := Lib.hid hA; have K1 := Lib.hid k1; clear hg hA k1)
    | (go_at_call 12; refine (scan_any _ M c' ys _ (HT.out.keep K1.out) (by rw [HYL.out]; exact HA.out.ints) (by rw [HYL.out]; exact HA.out.le) HA.out.cm H64.out).mono ?_; rw [← HS.out]; rintro e w2 ⟨rfl, k2⟩; have HA2 := Lib.hid (HA.out.keep k2 (by simp)); have K2 := Lib.hid (K1.out.trans0 k2); clear k2)
    | (go_at_call 13; refine (refScan_any _ M c ys _ (HI.out.keep0 K2.out) (by have := HMB.out; have := HN.out; omega) HC.out H64.out).mono ?_; rw [← HS.out]; rintro e w3 ⟨rfl, k3⟩; have HA3 := Lib.hid (HA2.out.keep k3 (by simp)); have K3 := Lib.hid (K2.out.trans0 k3); clear k3)
    | (go_at_call 11; refine (same_any S _ HSL.out).mono ?_; rintro e w4 ⟨rfl, k4⟩; have HA4 := Lib.hid (HA3.out.keep k4 (by simp)); have K4 := Lib.hid (K3.out.trans0 k4); clear k4)
    | (go_at_call 14; refine (Slots_any m _ HMM.out).mono ?_; rintro e w' ⟨rfl, rfl⟩)
    | (go_at_call 15; refine (refSlots_any m _ HMM.out).mono ?_; rintro e w' ⟨rfl, rfl⟩)
    | (go_at_call 16; refine (sameInts_any _ _ M M _ _ ys ys _ (by have h := HA4.out.ints; rw [← HYL.out] at h; exact h) (HI.out.keep0 K4.out) (by have := HMB.out; unfold maxLen; omega) (by have := HMB.out; unfold maxLen; omega)).mono ?_; rintro e w5 ⟨he, nq, hw⟩; rw [decide_eq_true rfl] at he; subst he; have K5 := Lib.hid (show Keeps [] w w5 by rw [hw]; exact K4.out.drewN nq); clear hw)
    | (go_at_call 17; refine (works_any _ (HT.out.keep K5.out)).mono ?_; rintro e w6 ⟨rfl, k6⟩; have K6 := Lib.hid (K5.out.trans0 k6); clear k6))
  go_ret
  exact ⟨rfl, K6.out⟩

end Go.Proofs.YtnmblemplkdmaaaDoor
