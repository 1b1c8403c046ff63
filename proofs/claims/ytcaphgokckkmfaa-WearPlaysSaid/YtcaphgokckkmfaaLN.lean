
/- Make: its contract, and that of what it calls. -/
import Derived.Test.YtcaphgokckkmfaaLM
import Derived.Test.YtcaphgokckkmfaaMk
import Derived.Laws.MakeOwn
namespace Go.Proofs.Ytcaphgokckkmfaa
open Go.RowKit
set_option maxRecDepth 100000
set_option linter.unusedVariables false
variable {w w' : World} {g c : Nat} {xs ys : List Int} {F : List Nat}

def frightB (g p n : Int) : Bool := fwithinB 1 8 g && fwithinB 1 8 p && fwithinB 16 1024 n

theorem fright_any (g p n : Int) (w : World) : Calls Try.prog 37 #[.agg #[.int .i64 g, .int .i64 p, .int .i64 n]] w fun e w' =>
    e = .returned (.bool (frightB g p n)) ∧ w.alloc (.cells #[.int .i64 g, .int .i64 p, .int .i64 n] 28) = w' := by
  by_cases h1 : fwithinB 1 8 g = true
  · by_cases h2 : fwithinB 1 8 p = true
    · have H := Lib.hid (show frightB g p n = fwithinB 16 1024 n from by simp [frightB, h1, h2])
      go_enter Try.func37, Try.ntmps37
      go_wp2_with (go_at_call 60; refine (fwithin_any _ _ _ _).mono ?_; rintro e w' ⟨rfl, rfl⟩)
      go_ret
      exact ⟨by rw [H.out]; rfl, rfl⟩
    · have h2' : fwithinB 1 8 p = false := by simpa using h2
      have H := Lib.hid (show frightB g p n = false from by simp [frightB, h2'])
      clear h2
      go_enter Try.func37, Try.ntmps37
      go_wp2_with (go_at_call 60; refine (fwithin_any _ _ _ _).mono ?_; rintro e w' ⟨rfl, rfl⟩)
      go_ret
      exact ⟨by rw [H.out]; rfl, rfl⟩
  · have h1' : fwithinB 1 8 g = false := by simpa using h1
    have H := Lib.hid (show frightB g p n = false from by simp [frightB, h1'])
    clear h1
    go_enter Try.func37, Try.ntmps37
    go_wp2_with (go_at_call 60; refine (fwithin_any _ _ _ _).mono ?_; rintro e w' ⟨rfl, rfl⟩)
    go_ret
    exact ⟨by rw [H.out]; rfl, rfl⟩

set_option maxHeartbeats 400000 in
theorem fblank_any (n : Nat) (w : World) (hn : n ≤ 1000000) : Calls Try.prog 38 #[.int .i64 n] w fun e w' =>
    e = .returned (.slice (some ⟨w.heap.size, 0, none⟩) n n) ∧ w'.heap[w.heap.size]? = some (.cells (ints (List.replicate n 65535)) 3 (0, 0)) ∧ Keeps [] w w' := by
  have hmk := run_make_ints 71 Try.underlying71 n hn
  go_enter Try.func38, Try.ntmps38
  go_wp2
  clear hmk
  go_loopw [9] (fun v wr => ∃ (k : Nat) (ys : List Int), k ≤ n ∧ v = .int .i64 k ∧ ys.length = n ∧ ys.take k = List.replicate k 65535 ∧ wr.heap[w.heap.size]? = some (.cells (ints ys) 3 (0, 0)) ∧ Keeps [] w wr) (fun v _ => n - (intOf v).toNat)
  case atStart => exact ⟨0, List.replicate n 0, Nat.zero_le _, rfl, by simp, rfl, heap_alloc_new w _, (Keeps.refl _ _).alloc _⟩
  case round =>
    obtain ⟨k, ys, hk, rfl, hyl, htk, hb, hkeep⟩ := hrel
    have hsz := hkeep.size
    by_cases hlt : k < n
    · have hc := cell_of_block hb (ints_get (show k < ys.length by omega))
      have hf := frozen_of_block hb k
      obtain ⟨x, hx⟩ : ∃ x, x = ys.getD k 0 := ⟨_, rfl⟩
      rw [← hx] at hc
      have HY := Lib.hid hyl
      have HT := Lib.hid htk
      have HB := Lib.hid hb
      clear hx hyl htk hb
      go_wp2
      go_roundw
      case rel =>
        have hyl := HY.out
        refine ⟨k + 1, ys.set k 65535, by omega, by go_num, by simpa using hyl, ?_, ?_, hkeep.setCell (.inr (by simp)) _⟩
        · rw [List.take_succ_eq_append_getElem (by simp; omega), List.take_set_of_le (Nat.le_refl _), HT.out]
          simp [List.replicate_succ']
        · rw [heap_setCell_same HB.out, ints_set]
      case measure => simp [intOf]; omega
    · have HB := Lib.hid hb
      have hfin : ys = List.replicate n 65535 := by
        have : k = n := by omega
        subst this
        rwa [List.take_of_length_le (by omega)] at htk
      have HF := Lib.hid hfin
      clear hb hfin htk
      go_wp2
      go_ret
      exact ⟨rfl, by rw [← HF.out]; exact HB.out, hkeep⟩

end Go.Proofs.Ytcaphgokckkmfaa
