
/- The calls of a flash that only read, and Cut and Power: their contracts. -/
import Derived.Test.YtcaphgokckkmfaaLD
namespace Go.Proofs.Ytcaphgokckkmfaa
open Go.RowKit
set_option maxRecDepth 100000
set_option linter.unusedVariables false

/-- A pointer to no flash: nil, or to a plain Flash. -/
def NoFlash (w : World) (p : Option Addr) : Prop := p = none ∨ ∃ b o, p = some ⟨b, o, none⟩ ∧ w.cell? ⟨b, o, none⟩ = some (.slice none 0 0)

theorem made_no {w : World} {p : Option Addr} (h : NoFlash w p) : Calls Try.prog 40 #[.pointer p] w fun e w' => e = .returned (.bool false) ∧ w = w' := by
  rcases h with rfl | ⟨b, o, rfl, h⟩
  · exact made_nil w
  · exact made_zero b o w h

theorem writes_no (p : Option Addr) (w : World) (h : NoFlash w p) : Calls Try.prog 36 #[.pointer p] w fun e w' => e = .returned (.int .i64 0) ∧ w = w' := by
  go_enter Try.func36, Try.ntmps36
  go_wp2_with (go_at_call 40; refine (made_no h).mono ?_; rintro e w' ⟨rfl, rfl⟩)
  go_ret
  exact ⟨rfl, rfl⟩
theorem image_no (p : Option Addr) (w : World) (h : NoFlash w p) : Calls Try.prog 27 #[.pointer p] w fun e w' => e = .returned (.slice none 0 0) ∧ w = w' := by
  go_enter Try.func27, Try.ntmps27
  go_wp2_with (go_at_call 40; refine (made_no h).mono ?_; rintro e w' ⟨rfl, rfl⟩)
  go_ret
  exact ⟨rfl, rfl⟩
theorem erases_no (p : Option Addr) (n : Int) (w : World) (h : NoFlash w p) : Calls Try.prog 66 #[.pointer p, .int .i64 n] w fun e w' => e = .returned (.int .i64 0) ∧ w = w' := by
  go_enter Try.func66, Try.ntmps66
  go_wp2_with (go_at_call 40; refine (made_no h).mono ?_; rintro e w' ⟨rfl, rfl⟩)
  go_ret
  exact ⟨rfl, rfl⟩
theorem read_no (p : Option Addr) (n : Int) (w : World) (h : NoFlash w p) : Calls Try.prog 65 #[.pointer p, .int .i64 n] w fun e w' => e = .returned (.tuple #[.int .i64 0, .int .i64 1]) ∧ w = w' := by
  go_enter Try.func65, Try.ntmps65
  go_wp2_with (go_at_call 40; refine (made_no h).mono ?_; rintro e w' ⟨rfl, rfl⟩)
  go_ret2
  exact ⟨rfl, rfl⟩
theorem cut_no (p : Option Addr) (n : Int) (w : World) (h : NoFlash w p) : Calls Try.prog 19 #[.pointer p, .int .i64 n] w fun e w' => e = .returned (.int .i64 1) ∧ w = w' := by
  go_enter Try.func19, Try.ntmps19
  go_wp2_with (go_at_call 40; refine (made_no h).mono ?_; rintro e w' ⟨rfl, rfl⟩)
  go_ret
  exact ⟨rfl, rfl⟩
theorem erase_no (p : Option Addr) (n : Int) (w : World) (h : NoFlash w p) : Calls Try.prog 64 #[.pointer p, .int .i64 n] w fun e w' => e = .returned (.int .i64 1) ∧ w = w' := by
  go_enter Try.func64, Try.ntmps64
  go_wp2_with (go_at_call 40; refine (made_no h).mono ?_; rintro e w' ⟨rfl, rfl⟩)
  go_ret
  exact ⟨rfl, rfl⟩
theorem power_no (p : Option Addr) (w : World) (h : NoFlash w p) : Calls Try.prog 20 #[.pointer p] w fun e w' => e = .returned (.int .i64 1) ∧ w = w' := by
  go_enter Try.func20, Try.ntmps20
  go_wp2_with (go_at_call 40; refine (made_no h).mono ?_; rintro e w' ⟨rfl, rfl⟩)
  go_ret
  exact ⟨rfl, rfl⟩
theorem geometry_no (p : Option Addr) (w : World) (h : NoFlash w p) : Calls Try.prog 49 #[.pointer p] w fun e w' => e = .returned (.agg #[.int .i64 0, .int .i64 0, .int .i64 0]) ∧ Keeps [] w w' := by
  have h2 : NoFlash (w.alloc (.cells #[.int .i64 0, .int .i64 0, .int .i64 0] 28)) p := by
    rcases h with rfl | ⟨b, o, rfl, h⟩
    · exact .inl rfl
    · exact .inr ⟨b, o, rfl, (World.cell?_alloc_lt _ _ _ (World.block_lt_of_cell? _ _ h)).trans h⟩
  go_enter Try.func49, Try.ntmps49
  go_wp2_with (go_at_call 40; refine (made_no h2).mono ?_; rintro e w' ⟨rfl, rfl⟩)
  exact bodyPost_ret (v := .agg #[.int .i64 0, .int .i64 0, .int .i64 0]) (by simp [results, Try.results49, go_sem]) rfl ⟨rfl, (Keeps.refl _ _).alloc _⟩
theorem program_no (p : Option Addr) (n : Int) (a : Option Addr) (m c : Nat) (w : World) (h : NoFlash w p) : Calls Try.prog 13 #[.pointer p, .int .i64 n, .slice a m c] w fun e w' => e = .returned (.int .i64 1) ∧ Keeps [] w w' := by
  have h2 : ∀ o1 o2, NoFlash ((w.alloc o1).alloc o2) p := by
    intro o1 o2
    rcases h with rfl | ⟨b, o, rfl, h⟩
    · exact .inl rfl
    · have hb := World.block_lt_of_cell? _ _ h
      simp only at hb
      exact .inr ⟨b, o, rfl, (World.cell?_alloc_lt _ _ _ (by simp; omega)).trans ((World.cell?_alloc_lt _ _ _ hb).trans h)⟩
  have H2 := Lib.hid h2
  clear h2
  go_enter Try.func13, Try.ntmps13
  go_wp2_with (go_at_call 40; refine (made_no (H2.out _ _)).mono ?_; rintro e w' ⟨rfl, rfl⟩)
  go_ret
  exact ⟨rfl, ((Keeps.refl _ _).alloc _).alloc _⟩

end Go.Proofs.Ytcaphgokckkmfaa
