
/- A record as a parameter, opened: thirteen numbers. No condition. -/
import Derived.Test.YtihpmnnbiabggaaDoorZz
import Derived.Test.YtihpmnnbiabggaaDoorSa
import Derived.Deep.Strs
namespace Go.Proofs.YtihpmnnbiabggaaDoor
open Go.ChangeShapes Go.WideShapes Go.ChangeAt Go.RowKit
set_option maxRecDepth 100000
set_option linter.unusedVariables false

theorem cellsRec : Tryd.prog.cellsOf 50 = 13 := by kernel_rfl
theorem cellsPay : Tryd.prog.cellsOf 25 = 11 := by kernel_rfl

/-- Cells that each read as a number. -/
theorem cells_ints {H : Type} {enc : TypeId × Value → H} {W : World} {cs : List Value} {n : Nat} (hl : cs.length = n)
    (h : ∀ i, i < n → ∃ (y : DataW H × List MemPlace) (k : Nat), DataW.trod enc Tryd.prog W 0 (fun _ => true) true k 3 ((cs.drop i).take 1) = some y) :
    ∃ l : List Int, cs = l.map (Value.int .i64) ∧ ∀ x ∈ l, I64 x := by
  induction n generalizing cs with
  | zero => exact ⟨[], by simpa using hl, by simp⟩
  | succ n ih =>
    cases cs with
    | nil => simp at hl
    | cons v cs =>
      obtain ⟨y, k, h0⟩ := h 0 (by omega)
      obtain ⟨x, hx, -, hw⟩ := DataW.trod_int Tryd.underlying3 h0
      obtain ⟨l, rfl, hl2⟩ := ih (by simpa using hl) (fun i hi => by simpa using h (i + 1) (by omega))
      simp only [List.drop_zero, List.take_succ_cons, List.take_zero, List.cons.injEq, and_true] at hx
      subst hx
      refine ⟨x :: l, rfl, fun z hz => ?_⟩
      rcases List.mem_cons.1 hz with rfl | hz
      · have := bounds_i64 hw
        unfold I64
        omega
      · exact hl2 z hz

theorem open_rec {H : Type} {enc : TypeId × Value → H} {W : World} {base : Nat} {v : Value} {d : DataW H} {p : List MemPlace} (hv : Value.okWide Tryd.prog W .any base 50 v) (h : DataW.Trod enc Tryd.prog W 0 (fun _ => true) true 50 v d p) :
    ∃ l : List Int, v = .agg (ints l) ∧ l.length = 13 ∧ ∀ x ∈ l, I64 x := by
  obtain ⟨cs, rfl, hsz⟩ := okWide_struct Tryd.underlying50 hv
  rw [cellsRec] at hsz
  obtain ⟨fuel, hf⟩ := h
  have hf' : DataW.trod enc Tryd.prog W 0 (fun _ => true) true fuel 50 cs.toList = some (d, p) := hf
  obtain ⟨y0, y1, y2, n, -, hlen, g0, g1, g2⟩ := Go.Deep.trod_struct3 Tryd.underlying50 hf'
  rw [cellsInt] at g0 g1
  rw [cellsPay] at g2
  obtain ⟨xs, m, -, -, -, hxl, hxs⟩ := DataW.trod_array Tryd.underlying25 g2
  rw [cellsInt] at hxs
  have hcl : cs.toList.length = 13 := by simpa using hsz
  obtain ⟨l, hl, h64⟩ := cells_ints (enc := enc) (W := W) hcl (fun i hi => by
    rcases i with _ | _ | i
    · exact ⟨y0, n, g0⟩
    · exact ⟨y1, n, g1⟩
    · have h2 := hxs i (by omega)
      have h3 : i < xs.length := by omega
      rw [List.getElem?_eq_getElem h3, Nat.mul_one] at h2
      refine ⟨xs[i], m, ?_⟩
      rw [← h2]
      congr 1
      rw [List.drop_take, List.drop_drop, List.take_take]
      rw [show min 1 (11 - i) = 1 by omega, show 2 + i = i + 1 + 1 by omega])
  refine ⟨l, ?_, ?_, h64⟩
  · rw [show cs = ints l by unfold ints; rw [← hl]]
  · have := congrArg List.length hl
    rw [hcl, List.length_map] at this
    exact this.symm

end Go.Proofs.YtihpmnnbiabggaaDoor
