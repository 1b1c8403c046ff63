
/- slot: look, whole, Read: contracts. No condition but the table of the sums, and that all are numbers of 64 bits. -/
import Derived.Test.YtihpmnnbiabggaaDoorSc
import Derived.Test.YtihpmnnbiabggaaDoorSe
import Derived.Test.YtihpmnnbiabggaaDoorSk
namespace Go.Proofs.YtihpmnnbiabggaaDoor
open Go.RowKit
set_option maxRecDepth 100000
set_option linter.unusedVariables false

theorem kind_any (a : Option Addr) (n c : Nat) (xs : List Int) (w : World) (hi : IntsAt w a n xs) (h1 : 1 ≤ n) :
    Calls Tryd.prog 40 #[.slice a n c] w fun e w' => e = .returned (.int .i64 (wrap64 (xs.getD 0 0 - 23040))) ∧ w = w' := by
  rcases a with _ | ⟨b, o, sp⟩
  · have := hi.2.1 rfl; have h2 := hi.1; rw [this] at h2; simp at h2; omega
  obtain ⟨rfl, hlc⟩ := hi.2.2 b o sp rfl (List.ne_nil_of_length_pos (by have := hi.1; omega))
  have hx := hlc 0 (by have := hi.1; omega)
  rw [Nat.add_zero] at hx
  obtain ⟨x, ex⟩ : ∃ x, x = xs.getD 0 0 := ⟨_, rfl⟩
  rw [← ex] at hx ⊢
  clear ex hlc hi
  go_enter Tryd.func40, Tryd.ntmps40
  go_wp2_with fail
  go_ret
  exact ⟨rfl, rfl⟩

/-- Words that are there have an address that is none in the midst of a variable. -/
theorem IntsAt.addr {a : Option Addr} {n : Nat} {xs : List Int} {w : World} (hi : IntsAt w a n xs) (h1 : 1 ≤ n) : ∃ b o, a = some ⟨b, o, none⟩ := by
  rcases a with _ | ⟨b, o, sp⟩
  · have := hi.2.1 rfl; have h2 := hi.1; rw [this] at h2; simp at h2; omega
  obtain ⟨rfl, _⟩ := hi.2.2 b o sp rfl (List.ne_nil_of_length_pos (by have := hi.1; omega))
  exact ⟨b, o, rfl⟩

theorem sequence_any (a : Option Addr) (n c : Nat) (xs : List Int) (w : World) (hi : IntsAt w a n xs) (hn : n ≤ c) (hc : c ≤ maxLen) (h1 : 1 < n) :
    Calls Tryd.prog 41 #[.slice a n c] w fun e w' => e = .returned (.int .i64 (getR 2 false (xs.drop 1)).2) ∧ Keeps [] w w' := by
  obtain ⟨b, o, rfl⟩ := hi.addr (Nat.le_of_lt h1)
  have HD := Lib.hid (hi.drop (Nat.le_of_lt h1))
  have HC := Lib.hid (show c - 1 ≤ maxLen by omega)
  have HN := Lib.hid (show n - 1 ≤ c - 1 by omega)
  obtain ⟨r1, hr1⟩ : ∃ r, r = (getR 2 false (xs.drop 1)).1 := ⟨_, rfl⟩
  obtain ⟨r2, hr2⟩ : ∃ r, r = (getR 2 false (xs.drop 1)).2 := ⟨_, rfl⟩
  rw [← hr2]
  have R1 := Lib.hid hr1
  have R2 := Lib.hid hr2
  clear hi hr1 hr2
  unfold maxLen at hc
  go_enter Tryd.func41, Tryd.ntmps41
  go_wp2_with fail
  refine (GetPlain_any 2 _ _ _ _ _ HD.out HN.out HC.out).mono ?_
  rintro e w2 ⟨he, k2⟩
  rw [← R1.out, ← R2.out] at he
  subst he
  have K2 := Lib.hid k2
  clear k2
  go_wp2_with fail
  go_ret
  exact ⟨rfl, K2.out⟩

theorem lpayload_any (a : Option Addr) (n c : Nat) (xs : List Int) (w : World) (hi : IntsAt w a n xs) (hn : n ≤ c) (hc : c ≤ maxLen) (h1 : 14 ≤ n) :
    Calls Tryd.prog 42 #[.slice a n c] w fun e w' => e = .returned (.agg (ints ((xs.drop 3).take 11))) ∧ Keeps [] w w' := by
  obtain ⟨b, o, rfl⟩ := hi.addr (by omega)
  have h0 : PayAt (w.alloc (.cells (ints (zer 11)) 25)) w.heap.size (zer 11) := heap_alloc_new w _
  have k0 : Keeps [] w (w.alloc (.cells (ints (zer 11)) 25)) := (Keeps.refl _ _).alloc _
  have hd := IntsAt.take ((hi.drop (show 3 ≤ n by omega)).keep0 k0) (show 11 ≤ n - 3 by omega)
  have hl : payL ((xs.drop 3).take 11) = (xs.drop 3).take 11 := by
    have h2 := hi.1
    unfold payL
    rw [List.take_of_length_le (by simp; omega), show 11 - ((xs.drop 3).take 11).length = 0 by simp; omega]
    simp
  have HLEN := Lib.hid (show ((xs.drop 3).take 11).length = 11 by have h2 := hi.1; simp; omega)
  have HD := Lib.hid hd
  have HL := Lib.hid hl
  clear hd hi hl
  unfold maxLen at hc
  go_enter Tryd.func42, Tryd.ntmps42
  go_upto_region 1 with fail
  simp only [zeros11]
  generalize w.alloc (.cells (ints (zer 11)) 25) = w0 at *
  go_wp2_with fail
  refine (payload_any _ _ _ _ _ HD.out).mono ?_
  rintro e w2 ⟨he, k2⟩
  rw [HL.out] at he
  subst he
  have h2 : PayAt w2 w.heap.size (zer 11) := k2.held h0 (by simp)
  have K2 := Lib.hid (k0.trans0 k2)
  clear k2 h0 k0
  go_wp2_with (first
    | (refine st_pay _ _ h2 (zer_len _) HLEN.out rfl rfl rfl rfl ?_; intro w4 h4 k4 s4; simp only [Act.put]))
  refine bodyPost_ret (ret_pay rfl h4 HLEN.out rfl) rfl ⟨rfl, K2.out.trans k4 (by simp)⟩

end Go.Proofs.YtihpmnnbiabggaaDoor
