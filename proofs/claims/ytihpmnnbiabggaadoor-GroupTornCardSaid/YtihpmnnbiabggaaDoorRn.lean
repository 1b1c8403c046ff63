
/- group: the document's Slots, at, counts: contracts. No condition but lengths, and that all are numbers of 64 bits. -/
import Derived.Test.YtihpmnnbiabggaaDoorRj
namespace Go.Proofs.YtihpmnnbiabggaaDoor
open Go.RowKit Go.Shelf
set_option linter.unusedVariables false
set_option linter.unusedSimpArgs false
set_option maxRecDepth 100000

theorem ahead_len {xs : List Int} {k m : Nat} (hk : k ≤ xs.length / 16) (hm : m ≤ k) : (aheadL xs k m).length = m := by rw [ahead_slots hk hm]; simp
theorem ahead_get {xs : List Int} {k m j : Nat} (hk : k ≤ xs.length / 16) (hm : m ≤ k) (hj : j < m) : (aheadL xs k m).getD j [] = slotA xs (k - m + j) := by
  unfold aheadL lastN
  have hl : ((slotsL xs).take k).length = k := by rw [List.length_take, slotsL_len]; omega
  rw [hl]
  simp only [List.getD]
  rw [List.getElem?_drop, List.getElem?_take, if_pos (by omega), slotsL_get (by omega)]
  rfl
theorem ahead_drop {xs : List Int} {k m j : Nat} (hk : k ≤ xs.length / 16) (hm : m ≤ k) (hj : j < m) : (aheadL xs k m).drop j = slotA xs (k - m + j) :: (aheadL xs k m).drop (j + 1) := by
  rw [drop_get (by rw [ahead_len hk hm]; exact hj), ahead_get hk hm hj]
theorem RecAt.whole {w : World} {g : Nat} {l : List Int} (h : RecAt w g l) : w.rangeAt g 0 (l.map (.int .i64)) := fun j v hv => by
  have hj := (List.getElem?_eq_some_iff.1 hv).1
  simp at hj
  rw [map_get hj] at hv
  injection hv with hv
  rw [← hv, Nat.zero_add, h.cell j hj]
theorem counts_is {xs : List Int} {f : Fnd} {k m : Nat} {q : Int} {first : Bool} {R : Int × List Int} (hk : k < xs.length / 16) (hR : R = readR (slotA xs k)) (h0 : R.1 = 0) (hI : isR R.2 = ((m : Int), first, true)) (hq : q = R.2.getD 1 0) :
    countsB ((slotsL xs).take k) f (slotA xs k) = (decide (m ≤ k) && (recsOk q (-1) (aheadL xs k m) && followsB f q m first)) := by
  unfold countsB followsB aheadL
  rw [← hR, hI, ← hq, decide_eq_true h0]
  simp only [Int.toNat_natCast, Bool.true_and]
  rw [List.length_take, slotsL_len, Nat.min_eq_left (by omega), (decide_eq_decide.2 Int.ofNat_le : decide ((m : Int) ≤ (k : Int)) = decide (m ≤ k))]

end Go.Proofs.YtihpmnnbiabggaaDoor
