/- FlashVoid walked: a flash that no call made has and does nothing. For every n. -/
import Derived.Test.YtjebflafbkmokaaG
import Derived.Test.YtjebflafbkmokaaP
namespace Go.Proofs.Ytjebflafbkmokaa
open Go.RowKit
set_option linter.unusedVariables false

theorem noflash_keep {w w' : World} {z : Nat} (h : w.cell? ⟨z, 0, none⟩ = some (.slice none 0 0)) (hk : Keeps [] w w') : NoFlash w' (some ⟨z, 0, none⟩) :=
  .inr ⟨z, 0, rfl, (hk.cell (World.block_lt_of_cell? _ _ h) (by simp)).trans h⟩

set_option maxRecDepth 100000 in
set_option maxHeartbeats 2000000 in
theorem void_any (n : Int) (w : World) : Calls Try.prog 8 #[.int .i64 n] w fun e w' => e = .returned (.bool true) ∧ Keeps [] w w' := by
  go_enter Try.func8, Try.ntmps8
  go_wp2_with fail
  refine (works_any _).mono ?_
  rintro e w1 ⟨rfl, k1⟩
  go_wp2_with fail
  refine (read_no _ _ _ (.inl rfl)).mono ?_
  rintro e w2 ⟨rfl, rfl⟩
  have hz : (w1.alloc (.cells #[.slice none 0 0, .int .i64 0, .int .i64 0, .int .i64 0, .int .i64 0, .bool false, .slice none 0 0, .slice none 0 0] 69)).cell? ⟨w1.heap.size, 0, none⟩ = some (.slice none 0 0) := World.cell?_alloc_new w1 _ 69 0
  have HZ := Lib.hid (fun wx (hk : Keeps [] _ wx) => noflash_keep hz hk)
  have kz : Keeps [] w (w1.alloc (.cells #[.slice none 0 0, .int .i64 0, .int .i64 0, .int .i64 0, .int .i64 0, .bool false, .slice none 0 0, .slice none 0 0] 69)) := k1.alloc _
  clear hz
  go_wp2_with fail
  refine (read_no _ _ _ (HZ.out _ (Keeps.refl _ _))).mono ?_
  rintro e w2 ⟨rfl, rfl⟩
  go_wp2_with fail
  refine (program_no _ _ _ _ _ _ (.inl rfl)).mono ?_
  rintro e w2 ⟨rfl, k2⟩
  have z2 := (show Keeps [] _ _ from ((Keeps.refl [] (w1.alloc (.cells #[.slice none 0 0, .int .i64 0, .int .i64 0, .int .i64 0, .int .i64 0, .bool false, .slice none 0 0, .slice none 0 0] 69))).alloc _).trans0 k2)
  go_wp2_with fail
  refine (program_no _ _ _ _ _ _ (HZ.out _ z2)).mono ?_
  rintro e w3 ⟨rfl, k3⟩
  have z3 := z2.trans0 k3
  go_wp2_with fail
  refine (erase_no _ _ _ (.inl rfl)).mono ?_
  rintro e w4 ⟨rfl, rfl⟩
  go_wp2_with fail
  refine (erase_no _ _ _ (HZ.out _ z3)).mono ?_
  rintro e w4 ⟨rfl, rfl⟩
  go_wp2_with fail
  refine (cut_no _ _ _ (.inl rfl)).mono ?_
  rintro e w4 ⟨rfl, rfl⟩
  go_wp2_with fail
  refine (cut_no _ _ _ (HZ.out _ z3)).mono ?_
  rintro e w4 ⟨rfl, rfl⟩
  go_wp2_with fail
  refine (power_no _ _ (.inl rfl)).mono ?_
  rintro e w4 ⟨rfl, rfl⟩
  go_wp2_with fail
  refine (power_no _ _ (HZ.out _ z3)).mono ?_
  rintro e w4 ⟨rfl, rfl⟩
  go_wp2_with fail
  refine (load_no _ _ _ (.inl rfl)).mono ?_
  rintro e w4 ⟨rfl, rfl⟩
  go_wp2_with fail
  refine (load_no _ _ _ (HZ.out _ z3)).mono ?_
  rintro e w4 ⟨rfl, rfl⟩
  go_wp2_with fail
  refine (image_no _ _ (.inl rfl)).mono ?_
  rintro e w4 ⟨rfl, rfl⟩
  go_wp2_with fail
  refine (image_no _ _ (HZ.out _ z3)).mono ?_
  rintro e w4 ⟨rfl, rfl⟩
  go_wp2_with fail
  refine (size_no _ _ (.inl rfl)).mono ?_
  rintro e w4 ⟨rfl, rfl⟩
  go_wp2_with fail
  refine (size_no _ _ (HZ.out _ z3)).mono ?_
  rintro e w4 ⟨rfl, rfl⟩
  go_wp2_with fail
  refine (writes_no _ _ (.inl rfl)).mono ?_
  rintro e w4 ⟨rfl, rfl⟩
  go_wp2_with fail
  refine (writes_no _ _ (HZ.out _ z3)).mono ?_
  rintro e w4 ⟨rfl, rfl⟩
  go_wp2_with fail
  refine (erases_no _ _ _ (.inl rfl)).mono ?_
  rintro e w4 ⟨rfl, rfl⟩
  go_wp2_with fail
  refine (erases_no _ _ _ (HZ.out _ z3)).mono ?_
  rintro e w4 ⟨rfl, rfl⟩
  go_wp2_with fail
  refine (since_no _ _ _ (.inl rfl)).mono ?_
  rintro e w4 ⟨rfl, rfl⟩
  go_wp2_with fail
  refine (since_no _ _ _ (HZ.out _ z3)).mono ?_
  rintro e w4 ⟨rfl, rfl⟩
  go_wp2_with fail
  refine (geometry_no _ _ (.inl rfl)).mono ?_
  rintro e w4 ⟨rfl, k4⟩
  have z4 := z3.trans0 k4
  go_wp2_with fail
  refine (geometry_no _ _ (HZ.out _ z4)).mono ?_
  rintro e w5 ⟨rfl, k5⟩
  have z5 := z4.trans0 k5
  go_wp2_with fail
  refine (geometry_no _ _ (.inl rfl)).mono ?_
  rintro e w6 ⟨rfl, k6⟩
  have z6 := z5.trans0 k6
  go_wp2_with fail
  go_ret
  exact ⟨rfl, kz.trans0 z6⟩

end Go.Proofs.Ytjebflafbkmokaa
