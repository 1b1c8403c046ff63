/- wide: Add: the contract: the sum, gone round within 128 bits. No condition but that all are numbers of their kinds. -/
import Derived.Test.YtdanmeemoifapaaWc
import Derived.Deep.Light
namespace Go.Proofs.Ytdanmeemoifapaa
open Go.RowKit
set_option linter.unusedVariables false

/-- A number gone round within 128 bits. -/
def w128 (n : Int) : Int := (n + 170141183460469231731687303715884105728) % 340282366920938463463374607431768211456 - 170141183460469231731687303715884105728
theorem w128_I (n : Int) : I128 (w128 n) := by unfold I128 w128; omega
theorem w128_in {n : Int} (h : I128 n) : w128 n = n := by unfold I128 at h; unfold w128; omega
theorem w128_add (a b : Int) : w128 (w128 a + b) = w128 (a + b) := by unfold w128; omega
/-- A sum of numbers. -/
def plainSum (l : List Int) : Int := l.foldl (· + ·) 0
theorem plainSum_snoc (l : List Int) (x : Int) : plainSum (l ++ [x]) = plainSum l + x := by unfold plainSum; rw [List.foldl_append]; rfl
theorem plainSum_take (l : List Int) (k : Nat) (h : k < l.length) : plainSum (l.take (k + 1)) = plainSum (l.take k) + l.getD k 0 := by
  rw [List.take_succ_eq_append_getElem h, plainSum_snoc]
  congr 1
  simp [List.getD, h]

/-- The cells of a slice of wide numbers. -/
def NumsAt (w : World) (g : Nat) (l : List Int) : Prop := ∀ i, i < l.length → w.cell? ⟨g, i * 2, none⟩ = some (.int .i64 (l.getD i 0 / 18446744073709551616)) ∧ w.cell? ⟨g, i * 2 + 1, none⟩ = some (.int .u64 (l.getD i 0 % 18446744073709551616))

theorem NumsAt.lt {w : World} {g : Nat} {l : List Int} (h : NumsAt w g l) (hl : 0 < l.length) : g < w.heap.size := block_lt_of_cell (h 0 hl).1

theorem NumsAt.keep {w w' : World} {g : Nat} {l : List Int} (h : NumsAt w g l) (k : Keeps [] w w') : NumsAt w' g l := by
  intro i hi
  have hg := h.lt (by omega)
  exact ⟨(k.cell hg (by simp)).trans (h i hi).1, (k.cell hg (by simp)).trans (h i hi).2⟩

theorem add_nil (w : World) : Calls Try.prog 14 #[.slice none 0 0] w fun e w' => e = .returned (num 0) ∧ Keeps [] w w' := by
  go_enter Try.func14, Try.ntmps14
  go_wp2_with fail
  go_loop [10] (fun v => v = .int .i64 0) (fun v => 1 - (intOf v).toNat)
  case atStart => rfl
  case round =>
    subst hrel
    go_wp2_with fail
    simp [bodyPost, results, Try.results14, go_sem]
    exact ⟨rfl, ((Keeps.refl _ _).alloc _).alloc _⟩

structure Lp (w wx : World) (g : Nat) (l : List Int) (s : Int) : Prop where
  k : Keeps [] w wx
  r0 : wx.heap[w.heap.size]? = some (.cells #[.int .i64 0, .int .u64 0] 25 (0, 0))
  r1 : wx.heap[w.heap.size + 1]? = some (.cells #[.int .i64 (s / 18446744073709551616), .int .u64 (s % 18446744073709551616)] 25 (0, 0))

set_option maxHeartbeats 1000000 in
theorem add_any (l : List Int) (g n c : Nat) (w : World) (hl : ∀ x ∈ l, I128 x) (hn : n = l.length) (hn1 : n < 1000000) (h : NumsAt w g l) :
    Calls Try.prog 14 #[.slice (some ⟨g, 0, none⟩) n c] w fun e w' => e = .returned (num (w128 (plainSum l))) ∧ Keeps [] w w' := by
  obtain ⟨S, hS⟩ : ∃ x, x = w128 (plainSum l) := ⟨_, rfl⟩
  rw [← hS]
  have HFS := Lib.hid hS
  have HN := Lib.hid hn
  have HH := Lib.hid h
  have HI := Lib.hid hl
  clear hn h hl hS
  go_enter Try.func14, Try.ntmps14
  go_wp2_with fail
  go_loopw [10] (fun v wx => ∃ k : Nat, k ≤ n ∧ v = .int .i64 k ∧ Lp w wx g l (w128 (plainSum (l.take k)))) (fun v _ => n - (intOf v).toNat)
  case atStart =>
    refine ⟨0, Nat.zero_le _, rfl, ((Keeps.refl _ _).alloc _).alloc _, ?_, ?_⟩
    · exact heap_alloc2_old w _ _
    · exact heap_alloc2_new w _ _
  case round =>
    obtain ⟨k, hk, rfl, hL⟩ := hrel
    by_cases hlt : k < n
    · obtain ⟨c1, c2⟩ := HH.out.keep hL.k k (by have := HN.out; omega)
      have b0 := cell_of_block hL.r1 (o := 0) (v := .int .i64 (w128 (plainSum (l.take k)) / 18446744073709551616)) (by simp)
      have b1 := cell_of_block hL.r1 (o := 1) (v := .int .u64 (w128 (plainSum (l.take k)) % 18446744073709551616)) (by simp)
      have f0 := frozen_of_block hL.r1 0
      have f1 := frozen_of_block hL.r1 1
      have hI : I128 (l.getD k 0) := HI.out _ (by
        have hkl : k < l.length := by have := HN.out; omega
        simp only [List.getD, List.getElem?_eq_getElem hkl, Option.getD_some]
        exact List.getElem_mem hkl)
      have hsI := w128_I (plainSum (l.take k))
      have hpt := plainSum_take l k (by have := HN.out; omega)
      obtain ⟨x, hx⟩ : ∃ x, x = l.getD k 0 := ⟨_, rfl⟩
      obtain ⟨s, hs⟩ : ∃ x, x = w128 (plainSum (l.take k)) := ⟨_, rfl⟩
      rw [← hx] at c1 c2 hI hpt
      rw [← hs] at b0 b1 hsI
      have hL2 := hL
      rw [← hs] at hL2
      obtain ⟨xh, hxh⟩ : ∃ y, y = x / 18446744073709551616 := ⟨_, rfl⟩
      obtain ⟨xl, hxl⟩ : ∃ y, y = x % 18446744073709551616 := ⟨_, rfl⟩
      obtain ⟨sh, hsh⟩ : ∃ y, y = s / 18446744073709551616 := ⟨_, rfl⟩
      obtain ⟨sl, hsl⟩ : ∃ y, y = s % 18446744073709551616 := ⟨_, rfl⟩
      rw [← hxh] at c1
      rw [← hxl] at c2
      rw [← hsh] at b0
      rw [← hsl] at b1
      unfold I128 at hI hsI
      have x1 : 0 ≤ xl := by omega
      have s1 : 0 ≤ sl := by omega
      have x2 : xl < 18446744073709551616 := by omega
      have s2 : sl < 18446744073709551616 := by omega
      have hsz : w.heap.size + 1 < wr.heap.size := lt_of_block hL.r1
      have b0' : ∀ o, (wr.alloc o).cell? ⟨w.heap.size + 1, 0, none⟩ = some (.int .i64 sh) := fun o => (World.cell?_alloc_past _ _ _ hsz).trans b0
      have b1' : ∀ o, (wr.alloc o).cell? ⟨w.heap.size + 1, 1, none⟩ = some (.int .u64 sl) := fun o => (World.cell?_alloc_past _ _ _ hsz).trans b1
      have f0' : ∀ o, (wr.alloc o).frozen? ⟨w.heap.size + 1, 0, none⟩ = false := fun o => (World.frozen?_alloc_past _ _ _ hsz).trans f0
      have f1' : ∀ o, (wr.alloc o).frozen? ⟨w.heap.size + 1, 1, none⟩ = false := fun o => (World.frozen?_alloc_past _ _ _ hsz).trans f1
      have HL := Lib.hid hL2
      have HX := Lib.hid hx
      have HS := Lib.hid hs
      have HXH := Lib.hid hxh
      have HXL := Lib.hid hxl
      have HSH := Lib.hid hsh
      have HSL := Lib.hid hsl
      have HPT := Lib.hid hpt
      have HXI := Lib.hid hI
      have HSI := Lib.hid hsI
      clear hL hL2 hx hs hxh hxl hsh hsl hpt hI hsI
      go_wp2_with fail
      refine (add_bits sl xl _ s1 x1).mono ?_
      rintro e w1 ⟨rfl, rfl⟩
      go_wp2_with fail
      go_roundw
      case rel =>
        have hL := HL.out
        have e1 : w128 (plainSum (l.take (k + 1))) / 18446744073709551616 = wrap64 (wrap64 (sh + xh) + (sl + xl) / 18446744073709551616) ∧ w128 (plainSum (l.take (k + 1))) % 18446744073709551616 = (sl + xl) % 18446744073709551616 := by
          rw [HPT.out, ← w128_add, ← HS.out]
          have h1 := HXH.out
          have h2 := HXL.out
          have h3 := HSH.out
          have h4 := HSL.out
          have h5 := HXI.out
          have h6 := HSI.out
          unfold w128 wrap64
          omega
        refine ⟨k + 1, by omega, by go_num, ?_, ?_, ?_⟩
        · exact Keeps.alloc (Keeps.setCell (Keeps.setCell hL.k (.inr (by simp)) _) (.inr (by simp)) _) _
        · exact heap_alloc_held ((heap_setCell_other (by simp) _).trans ((heap_setCell_other (by simp) _).trans hL.r0)) _
        · rw [e1.1, e1.2]
          exact heap_alloc_held (heap_setCell_same (heap_setCell_same hL.r1 _) _) _
      case measure => simp [intOf]; omega
    · have hkn : l.take k = l := List.take_of_length_le (by have := HN.out; omega)
      rw [hkn] at hL
      rw [← HFS.out] at hL
      have b0 := cell_of_block hL.r1 (o := 0) (v := .int .i64 (S / 18446744073709551616)) (by simp)
      have b1 := cell_of_block hL.r1 (o := 1) (v := .int .u64 (S % 18446744073709551616)) (by simp)
      have a0 := cell_of_block hL.r0 (o := 0) (v := .int .i64 0) (by simp)
      have a1 := cell_of_block hL.r0 (o := 1) (v := .int .u64 0) (by simp)
      have f0 := frozen_of_block hL.r0 0
      have f1 := frozen_of_block hL.r0 1
      have HL := Lib.hid hL
      clear hL hkn
      go_wp2_with fail
      have q0 : ∀ v, (wr.setCell ⟨w.heap.size, 0, none⟩ v).cell? ⟨w.heap.size, 0, none⟩ = some v := fun v => World.cell?_setCell_same _ _ _ a0
      have q2 : ∀ v u, ((wr.setCell ⟨w.heap.size, 0, none⟩ v).setCell ⟨w.heap.size, 1, none⟩ u).cell? ⟨w.heap.size, 1, none⟩ = some u := fun v u => World.cell?_setCell_same _ _ _ ((World.cell?_setCell_other _ _ _ _ (by simp)).trans a1)
      simp [bodyPost, results, Try.results14, go_sem, q0, q2]
      exact ⟨rfl, Keeps.setCell (Keeps.setCell HL.out.k (.inr (by simp)) _) (.inr (by simp)) _⟩
end Go.Proofs.Ytdanmeemoifapaa
