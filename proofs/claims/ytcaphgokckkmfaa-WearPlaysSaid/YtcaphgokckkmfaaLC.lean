
/- One raw write of the flash: the contracts of write, of the closures and of writer. -/
import Derived.Test.YtcaphgokckkmfaaLB
import Derived.RegionTactic
import Derived.BigRegion
import Derived.Outline
import Derived.Deep.RegionLaw
import Derived.Deep.RegionWith
namespace Go.Proofs.Ytcaphgokckkmfaa
open Go.RowKit
set_option maxRecDepth 100000
set_option linter.unusedVariables false

theorem write_erase (bw n c k : Nat) (v : Int) (old : Value) (w : World) (hn : n ≤ maxLen) (hk : k < n) (hc : w.cell? ⟨bw, k, none⟩ = some old) (hf : w.frozen? ⟨bw, k, none⟩ = false) :
    Calls Try.prog 68 #[.slice (some ⟨bw, 0, none⟩) n c, .agg #[.bool true, .int .i64 k, .int .i64 v]] w fun e w' =>
      e = .returned (.tuple #[]) ∧ w'.Alike ((w.setCell ⟨bw, k, none⟩ (.int .i64 65535)).alloc (.cells #[.bool true, .int .i64 k, .int .i64 v] 80)) := by
  unfold maxLen at hn
  have hl := World.block_lt_of_cell? _ _ hc
  simp only at hl
  go_enter Try.func68, Try.ntmps68
  go_wp2
  exact bodyPost_ret (results_none rfl _ _ _) rfl ⟨rfl, rfl, rfl, rfl⟩

theorem write_prog (bw n c k : Nat) (v old : Int) (w : World) (hn : n ≤ maxLen) (hk : k < n) (hc : w.cell? ⟨bw, k, none⟩ = some (.int .i64 old)) (hf : w.frozen? ⟨bw, k, none⟩ = false) :
    Calls Try.prog 68 #[.slice (some ⟨bw, 0, none⟩) n c, .agg #[.bool false, .int .i64 k, .int .i64 v]] w fun e w' =>
      e = .returned (.tuple #[]) ∧ w'.Alike ((w.setCell ⟨bw, k, none⟩ (.int .i64 (bits .and .i64 old v))).alloc (.cells #[.bool false, .int .i64 k, .int .i64 v] 80)) := by
  unfold maxLen at hn
  have hl := World.block_lt_of_cell? _ _ hc
  simp only at hl
  go_enter Try.func68, Try.ntmps68
  go_wp2
  go_region
  all_goals (go_end0; exact ⟨rfl, rfl, rfl, rfl⟩)

theorem erase1_any (k0 : Int) (i : Int) (pf : Nat) (w : World) (hc : w.cell? ⟨pf, 0, none⟩ = some (.int .i64 k0)) (h0 : 0 ≤ k0) (h1 : k0 ≤ 1000000) (h2 : 0 ≤ i) (h3 : i ≤ 1000000) :
    Calls Try.prog 70 #[.int .i64 i, .pointer (some ⟨pf, 0, none⟩)] w fun e w' =>
      e = .returned (.agg #[.bool true, .int .i64 (k0 + i), .int .i64 65535]) ∧ Keeps [] w w' := by
  have hl := World.block_lt_of_cell? _ _ hc
  simp only at hl
  go_enter Try.func70, Try.ntmps70
  go_wp2
  exact bodyPost_ret (v := .agg #[.bool true, .int .i64 (k0 + i), .int .i64 65535]) (by simp [results, Try.results70, go_sem]) rfl ⟨rfl, (Keeps.refl _ _).alloc _⟩
theorem prog1_any (k0 : Int) (i : Nat) (pf pv bv ov n c : Nat) (x : Int) (w : World) (hc : w.cell? ⟨pf, 0, none⟩ = some (.int .i64 k0)) (hv : w.cell? ⟨pv, 0, none⟩ = some (.slice (some ⟨bv, ov, none⟩) n c))
    (hx : w.cell? ⟨bv, ov + i, none⟩ = some (.int .i64 x)) (h0 : 0 ≤ k0) (h1 : k0 ≤ 1000000) (h2 : i < n) (h3 : i ≤ 1000000) (hn : n ≤ maxLen) :
    Calls Try.prog 44 #[.int .i64 i, .pointer (some ⟨pf, 0, none⟩), .pointer (some ⟨pv, 0, none⟩)] w fun e w' =>
      e = .returned (.agg #[.bool false, .int .i64 (k0 + i), .int .i64 x]) ∧ Keeps [] w w' := by
  unfold maxLen at hn
  have hl := World.block_lt_of_cell? _ _ hc
  simp only at hl
  have hl2 := World.block_lt_of_cell? _ _ hv
  simp only at hl2
  have hl3 := World.block_lt_of_cell? _ _ hx
  simp only at hl3
  go_enter Try.func44, Try.ntmps44
  go_wp2
  go_region
  all_goals go_wp2
  all_goals exact bodyPost_ret (v := .agg #[.bool false, .int .i64 (k0 + i), .int .i64 x]) (by simp [results, Try.results44, go_sem]) rfl ⟨rfl, ((Keeps.refl _ _).alloc _).drew⟩
theorem writer_any (p : Addr) (w : World) :
    Calls Try.prog 61 #[.pointer (some p)] w fun e w' =>
      e = .returned (.func (.func 67) #[] #[.pointer (some ⟨w.heap.size, 0, none⟩)]) ∧ w.alloc (.cells #[.pointer (some p)] 23) = w' := by
  go_enter Try.func61, Try.ntmps61
  go_wp2
  go_ret
  exact ⟨rfl, rfl⟩

/-- The cut has come: nothing is written, and the power is gone. -/
theorem raw_cut (p b : Nat) (r1 : Bool) (r2 r3 : Int) (o3 : Value) (w : World) (hp : w.cell? ⟨p, 0, none⟩ = some (.pointer (some ⟨b, 0, none⟩)))
    (h4 : w.cell? ⟨b, 4, none⟩ = some (.int .i64 0)) (h5 : w.cell? ⟨b, 5, none⟩ = some o3) (hf : w.frozen? ⟨b, 5, none⟩ = false) :
    Calls Try.prog 67 #[.agg #[.bool r1, .int .i64 r2, .int .i64 r3], .pointer (some ⟨p, 0, none⟩)] w fun e w' =>
      e = .returned (.bool false) ∧ w'.Alike ((w.setCell ⟨b, 5, none⟩ (.bool true)).alloc (.cells #[.bool r1, .int .i64 r2, .int .i64 r3] 80)) := by
  have hl := World.block_lt_of_cell? _ _ hp
  simp only at hl
  have hl2 := World.block_lt_of_cell? _ _ h4
  simp only at hl2
  go_enter Try.func67, Try.ntmps67
  go_wp2
  go_ret
  exact ⟨rfl, rfl, rfl, rfl⟩
end Go.Proofs.Ytcaphgokckkmfaa
