/- slot: the statements' own fixed whole (works). No condition but the table of the sums. -/
import Derived.Test.YtiklmjhaioglaaaDoorSz
namespace Go.Proofs.YtiklmjhaioglaaaDoor
open Go.RowKit
set_option linter.unusedVariables false

def exL : List Int := 1 :: 65537 :: zer 11
theorem ex_right : rightB exL = true := by decide
theorem ex_64 : ∀ x ∈ exL, I64 x := by
  intro x hx
  simp only [exL, zer, List.mem_cons, List.mem_replicate] at hx
  unfold I64
  omega
theorem ex_read : readR (wordsL exL) = (0, exL) := read_words rfl ex_right
theorem ex_words : (wordsL exL).getD 0 0 = 23041 ∧ (wordsL exL).getD 1 0 = 1 ∧ (wordsL exL).getD 2 0 = 1 ∧ (wordsL exL).getD 3 0 = 0 ∧ (wordsL exL).getD 15 0 = 21930 := ⟨by decide, by decide, by decide, by decide, words_last rfl⟩
theorem words_64 {l : List Int} (hb : rightB l = true) : ∀ x ∈ wordsL l, I64 x := by
  intro x hx
  have := words_words hb x hx
  unfold I64; omega
theorem ex_commit : commitR 3 2 true = (0, commitL 3 2 true) := by decide
theorem ex_is : isR (commitL 3 2 true) = (2, true, true) := by decide
theorem ex_commit_64 : ∀ x ∈ commitL 3 2 true, I64 x := commit_64 3 2 true (by unfold I64; omega) (by unfold I64; omega)

set_option maxHeartbeats 4000000 in
theorem works_any (w : World) (ht : Turns w) :
    Calls Tryd.prog 15 #[] w fun e w' => e = .returned (.bool true) ∧ Keeps [] w w' := by
  have HT := Lib.hid ht
  clear ht
  go_enter Tryd.func15, Tryd.ntmps15
  go_wp2_with (first
    | (simp only [lit2])
    | (go_at_call 8; refine (words_yes exL _ HT.out rfl ex_64 ex_right).mono ?_; rintro e w1 ⟨g, cc, rfl, hg, hA, k1⟩; have HA := Lib.hid hA; have K1 := Lib.hid k1; have HT1 := Lib.hid (HT.out.keep k1); clear hg hA k1)
    | (go_at_call 17; refine (read_any _ 16 cc (wordsL exL) _ HT1.out HA.out.ints HA.out.le HA.out.cm (words_64 ex_right)).mono ?_; rw [ex_read]; rintro e w2 ⟨rfl, k2⟩; have HA2 := Lib.hid (HA.out.keep k2 (by simp)); have K2 := Lib.hid (K1.out.trans0 k2); have hn2 := heap_alloc_new w2 (.cells (ints (zer 13)) 24); have ka2 := Lib.hid ((Keeps.refl [] w2).alloc (.cells (ints (zer 13)) 24)); have hks2 := K2.out.size; clear k2)
    | (simp only [zeros13])
    | (refine st_rec _ _ (l := zer 13) (l' := exL) hn2 (zer_len _) rfl rfl rfl rfl rfl ?_; intro w3 h3 k3 s3; simp only [Act.put]; have kk : Keeps [] w2 w3 := ka2.out.trans k3 (by intro y hy; right; simp at hy; omega); have K3 := Lib.hid (K2.out.trans0 kk); have HA3 := Lib.hid (HA2.out.keep kk (by simp)); have R3 := Lib.hid h3; have hlt3 := lt_of_block h3; clear hn2 kk h3 k3)
    | (go_at_call 10; refine (commit_any 3 2 true _ (by unfold I64; omega)).mono ?_; rw [ex_commit]; rintro e w4 ⟨rfl, k4⟩; have HA4 := Lib.hid (HA3.out.keep k4 (by simp)); have K4 := Lib.hid (K3.out.trans0 k4); have R4 := Lib.hid (R3.out.keep k4 (by simp)); have hn4 := heap_alloc_new w4 (.cells (ints (zer 13)) 24); have ka4 := Lib.hid ((Keeps.refl [] w4).alloc (.cells (ints (zer 13)) 24)); have hks4 := K4.out.size; clear k4)
    | (refine st_rec _ _ (l := zer 13) (l' := commitL 3 2 true) hn4 (zer_len _) rfl rfl rfl rfl rfl ?_; intro w5 h5 k5 s5; simp only [Act.put]; have kk : Keeps [] w4 w5 := ka4.out.trans k5 (by intro y hy; right; simp at hy; omega); have K5 := Lib.hid (K4.out.trans0 kk); have HA5 := Lib.hid (HA4.out.keep kk (by simp)); have R5 := Lib.hid (R4.out.keep kk (by simp)); clear hn4 kk k5)
    | (refine ld_rec _ h5 rfl rfl rfl rfl ?_; simp only [Act.put]; clear h5)
    | (go_at_call 12; refine (isCommit_any (commitL 3 2 true) _ rfl ex_commit_64).mono ?_; rw [ex_is]; rintro e w6 ⟨rfl, k6⟩; have A6 := HA5.out.keep k6 (by simp); have K6 := Lib.hid (K5.out.trans0 k6); have r6 := (R5.out.keep k6 (by simp)).cell 1 (by decide); have q0 := A6.cell (i := 0) (by rw [wordsL_len rfl]; decide); have q1 := A6.cell (i := 1) (by rw [wordsL_len rfl]; decide); have q2 := A6.cell (i := 2) (by rw [wordsL_len rfl]; decide); have q3 := A6.cell (i := 3) (by rw [wordsL_len rfl]; decide); have q15 := A6.cell (i := 15) (by rw [wordsL_len rfl]; decide); rw [ex_words.1] at q0; rw [ex_words.2.1] at q1; rw [ex_words.2.2.1] at q2; rw [ex_words.2.2.2.1] at q3; rw [ex_words.2.2.2.2] at q15; have r6' : w6.cell? ⟨w2.heap.size, 1, none⟩ = some (.int .i64 65537) := r6; clear k6 r6 A6)
    | (go_at_call 20; refine (blank_any _ 1 1 [65535] _ (ints_new1 _ _ _) (by unfold maxLen; omega)).mono ?_; rintro e w7 ⟨rfl, rfl⟩))
  go_ret
  exact ⟨rfl, K6.out.alloc _⟩

end Go.Proofs.YtiklmjhaioglaaaDoor
