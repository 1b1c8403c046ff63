/- The statements' lists of words; what is right: their contracts. -/
import Derived.Test.YtogbkbcjanjbfaaDoorCf
namespace Go.Proofs.YtogbkbcjanjbfaaDoor
open Go.RowKit
set_option linter.unusedVariables false
variable {w w' : World} {F : List Nat}

theorem few_any (a : Option Addr) (n c : Nat) (w : World) (hn : n ≤ c) (hc : c ≤ maxLen) :
    Calls Tryd.prog 9 #[.slice a n c] w fun e w' => e = .returned (.slice a (min n 300) c) ∧ w = w' := by
  unfold maxLen at hc
  by_cases h : n ≤ 300
  · have e : min n 300 = n := by omega
    rw [e]
    have h2 : (n : Int) ≤ 300 := by omega
    clear e
    go_enter Tryd.func9, Tryd.ntmps9
    go_wp2
    go_ret
    exact ⟨rfl, rfl⟩
  · have e : min n 300 = 300 := by omega
    rw [e]
    have h2 : ¬ (n : Int) ≤ 300 := by omega
    clear e
    go_enter Tryd.func9, Tryd.ntmps9
    go_wp2
    go_ret
    exact ⟨rfl, rfl⟩
/-- A list's first three hundred numbers, as words. -/
def wordsL (xs : List Int) : List Int := (xs.take 300).map fun x => amongI x 65536
theorem wordsL_in {xs : List Int} : ∀ x ∈ wordsL xs, 0 ≤ x ∧ x < 65536 := by
  intro x hx
  obtain ⟨y, _, rfl⟩ := List.mem_map.1 hx
  exact amongI_lt y 65536 (by omega) (by omega)

set_option maxHeartbeats 1000000 in
set_option maxRecDepth 100000 in
theorem words_any (a : Option Addr) (n c : Nat) (xs : List Int) (w : World) (hi : IntsAt w a n xs) (hn : n ≤ maxLen) :
    Calls Tryd.prog 19 #[.slice a n c] w fun e w' => ∃ v, e = .returned v ∧ ∃ g c', v = .slice (some ⟨g, 0, none⟩) (wordsL xs).length c' ∧ w.heap.size ≤ g ∧ Arr w' g c' (wordsL xs) ∧ Keeps [] w w' := by
  unfold maxLen at hn
  have HI := Lib.hid hi
  have HLEN := Lib.hid (show n = xs.length from hi.1)
  clear hi
  obtain ⟨i0, hi, hz0, hz1, hz2⟩ := info_parts Tryd.info3
  go_enter Tryd.func19, Tryd.ntmps19
  go_wp2
  go_loopw [3, 4] (fun v6 v7 wx => ∃ (j g c : Nat), j ≤ n ∧ j ≤ 300 ∧ v7 = .int .i64 j ∧ v6 = .slice (some ⟨g, 0, none⟩) j c ∧ Arr wx g c ((xs.take j).map fun x => amongI x 65536) ∧ w.heap.size ≤ g ∧ Keeps [] w wx) (fun _ v7 _ => 300 - (intOf v7).toNat)
  case atStart =>
    refine ⟨0, w.heap.size, 0, Nat.zero_le _, by omega, rfl, rfl, ?_⟩
    exact ⟨⟨⟨#[], heap_alloc_new w _, by simp, rfl⟩, by simp, by unfold maxLen; omega⟩, Nat.le_refl _, (Keeps.refl _ _).alloc _⟩
  case round =>
    obtain ⟨j, g, cc, hj, hj8, rfl, rfl, hA, hg, hk⟩ := hrel
    by_cases hjb : j < n ∧ j < 300
    · obtain ⟨hj1, hj2⟩ := hjb
      have hjx : j < xs.length := by have := HLEN.out; omega
      have hli := HI.out.keep0 hk
      rcases a with _ | ⟨lb, lo', ls⟩
      · have := hli.2.1 rfl; rw [this] at hjx; simp at hjx
      obtain ⟨rfl, hlc⟩ := hli.2.2 lb lo' ls rfl (List.ne_nil_of_length_pos (by omega))
      have hx := hlc j hjx
      obtain ⟨x, ex⟩ : ∃ x, x = xs.getD j 0 := ⟨_, rfl⟩
      rw [← ex] at hx
      have EX := Lib.hid ex
      have hyl : ((xs.take j).map fun x => amongI x 65536).length = j := by simp; omega
      have hown := ownsRow_keep (F := []) (hA.own hg j hyl.symm) ((Keeps.refl _ _).alloc (.cells #[.int .i64 (amongI x 65536)] 3)) (by simp)
      have HO := Lib.hid hown
      have HYL := Lib.hid hyl
      have HA := Lib.hid hA
      have hks := hk.size
      clear ex hlc hli hown hyl hA
      go_wp2_with (first
        | (go_at_call 20; refine (among_any _ _ _ (by omega) (by omega)).mono ?_; rintro e w' ⟨rfl, rfl⟩)
        | (at_builtin; refine wpList_append_new _ rfl (.tmp 16) (.tmp 22) 22 rfl w.heap.size 3 i0 (.int .i64 0) 1 8 Tryd.underlying22 hi hz0 hz1 hz2 rfl (by decide) (.slice (some ⟨g, 0, none⟩) j cc) j _ rfl HO.out ⟨wr.heap.size, 0, none⟩ 1 1 [.int .i64 (amongI x 65536)] rfl rfl (cell_one_new _ _ _) (by simp [Value.oneCell']) (by unfold maxLen; omega) (by omega) (by simp; omega) ?_; intro v' w' q1 q2 q3 q4))
      have htk : (xs.take (j + 1)).map (fun x => amongI x 65536) = (xs.take j).map (fun x => amongI x 65536) ++ [amongI x 65536] := by
        rw [List.take_succ_eq_append_getElem hjx, List.map_append, EX.out]
        simp [List.getD, hjx]
      have hv : v' ≠ .slice none 0 0 := fun e => absurd (q3.1 e).2 (by omega)
      have q1' : w'.ownsRow w.heap.size 3 1 v' (j + 1) (((xs.take (j + 1)).map (fun x => amongI x 65536)).map (.int .i64)) := by rw [htk, List.map_append]; exact q1
      obtain ⟨g', c', rfl, hg', hA'⟩ := Arr.of_own q1' hv
      have hl1 : ((xs.take (j + 1)).map (fun x => amongI x 65536)).length = j + 1 := by rw [htk, List.length_append, HYL.out]; rfl
      have hku : Keeps [] w w' := ((hk.alloc _).grown q2 (by intro k e; injection e with e; right; rw [← e]; exact hg))
      refine ⟨⟨j + 1, g', c', by omega, by omega, by go_num, by rw [hl1], hA', hg', hku⟩, by simp [intOf]; omega⟩
    · have haw : (xs.take j).map (fun x => amongI x 65536) = wordsL xs := by
        unfold wordsL
        by_cases h8 : j = 300
        · rw [h8]
        · have : ¬ j < n := fun h => hjb ⟨h, by omega⟩
          have h2 := HLEN.out
          rw [List.take_of_length_le (by omega), List.take_of_length_le (by omega)]
      rw [haw] at hA
      have hjl : j = (wordsL xs).length := by rw [← haw]; have h2 := HLEN.out; simp; omega
      have HA := Lib.hid hA
      have HJL := Lib.hid hjl
      clear haw hA hjl
      by_cases hj1 : j < n
      · have hj2 : ¬ j < 300 := fun h => hjb ⟨hj1, h⟩
        clear hjb
        go_wp2
        go_ret
        exact ⟨_, rfl, g, cc, by rw [HJL.out]; rfl, hg, HA.out, hk⟩
      · clear hjb
        go_wp2
        go_ret
        exact ⟨_, rfl, g, cc, by rw [HJL.out]; rfl, hg, HA.out, hk⟩
end Go.Proofs.YtogbkbcjanjbfaaDoor
