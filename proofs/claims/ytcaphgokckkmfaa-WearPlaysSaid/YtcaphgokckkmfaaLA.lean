
/- The small functions of the flash that only read: their contracts. No condition but the cells they read. -/
import Derived.Test.YtcaphgokckkmfaaKp
import Derived.WalkKit
import Derived.WalkSpells
import Derived.WalkLawsBesides
import Derived.Lib.Hide
import Derived.BigQuiet
import Derived.Deep.QuietTactic
namespace Go.Proofs.Ytcaphgokckkmfaa
open Go.RowKit
set_option maxRecDepth 100000

def fwithinB (l h n : Int) : Bool := decide (l ≤ n) && decide (n ≤ h)

theorem fwithin_any (l h n : Int) (w : World) :
    Calls Try.prog 60 #[.int .i64 l, .int .i64 h, .int .i64 n] w fun e w' => e = .returned (.bool (fwithinB l h n)) ∧ w = w' := by
  by_cases h1 : l ≤ n
  · by_cases h2 : n ≤ h
    · go_enter Try.func60, Try.ntmps60
      go_wp2
      go_ret
      exact ⟨by simp [fwithinB, h1, h2], rfl⟩
    · go_enter Try.func60, Try.ntmps60
      go_wp2
      go_ret
      exact ⟨by simp [fwithinB, h1, h2], rfl⟩
  · have H := Lib.hid (show fwithinB l h n = false from by unfold fwithinB; rw [decide_eq_false h1]; rfl)
    go_enter Try.func60, Try.ntmps60
    go_wp2
    go_ret
    exact ⟨by rw [H.out]; rfl, rfl⟩

theorem made_nil (w : World) :
    Calls Try.prog 40 #[.pointer none] w fun e w' => e = .returned (.bool false) ∧ w = w' := by
  go_enter Try.func40, Try.ntmps40
  go_wp2
  go_ret
  exact ⟨rfl, rfl⟩
theorem made_zero (b o : Nat) (w : World) (h0 : w.cell? ⟨b, o, none⟩ = some (.slice none 0 0)) :
    Calls Try.prog 40 #[.pointer (some ⟨b, o, none⟩)] w fun e w' => e = .returned (.bool false) ∧ w = w' := by
  have q := fun (w : World) (a : Option Addr) (n c : Nat) => run_neq_slice_nil_any (P := Try.prog) w 71 3 a n c 0 0 Try.underlying71
  go_enter Try.func40, Try.ntmps40
  go_wp2
  go_ret
  exact ⟨rfl, rfl⟩
theorem made_yes (b o : Nat) (a : Addr) (n c : Nat) (w : World) (h0 : w.cell? ⟨b, o, none⟩ = some (.slice (some a) n c)) :
    Calls Try.prog 40 #[.pointer (some ⟨b, o, none⟩)] w fun e w' => e = .returned (.bool true) ∧ w = w' := by
  have q := fun (w : World) (a : Option Addr) (n c : Nat) => run_neq_slice_nil_any (P := Try.prog) w 71 3 a n c 0 0 Try.underlying71
  go_enter Try.func40, Try.ntmps40
  go_wp2
  go_ret
  exact ⟨rfl, rfl⟩

theorem fholds_any (v : Option Addr) (n c : Nat) (at_ many : Int) (w : World) (hn : n ≤ maxLen) (hm : 0 ≤ many) (hm2 : many ≤ 9223372036854775807) :
    Calls Try.prog 41 #[.slice v n c, .int .i64 at_, .int .i64 many] w fun e w' => e = .returned (.bool (fwithinB 0 ((n : Int) - many) at_)) ∧ w = w' := by
  unfold maxLen at hn
  go_enter Try.func41, Try.ntmps41
  go_wp2_with (go_at_call 60; refine (fwithin_any _ _ _ _).mono ?_; rintro e w' ⟨rfl, rfl⟩)
  go_ret
  exact ⟨rfl, rfl⟩

theorem fhas_any (b o : Nat) (a : Option Addr) (n c : Nat) (page : Int) (w : World) (hn : n ≤ maxLen) (h7 : w.cell? ⟨b, o + 7, none⟩ = some (.slice a n c)) :
    Calls Try.prog 69 #[.pointer (some ⟨b, o, none⟩), .int .i64 page] w fun e w' => e = .returned (.bool (fwithinB 0 ((n : Int) - 1) page)) ∧ w = w' := by
  unfold maxLen at hn
  go_enter Try.func69, Try.ntmps69
  go_wp2_with (go_at_call 60; refine (fwithin_any _ _ _ _).mono ?_; rintro e w' ⟨rfl, rfl⟩)
  go_ret
  exact ⟨rfl, rfl⟩
end Go.Proofs.Ytcaphgokckkmfaa
