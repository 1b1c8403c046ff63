
/- Make of the document's own flash, and which geometries may be: their contracts. -/
import Derived.Test.YtcaphgokckkmfaaMB
import Derived.Test.YtcaphgokckkmfaaLN
import Derived.Test.YtcaphgokckkmfaaLO
namespace Go.Proofs.Ytcaphgokckkmfaa
open Go.RowKit
set_option maxRecDepth 100000
set_option linter.unusedVariables false
variable {w w' : World} {F : List Nat} {b gw cw be : Nat} {lv : Value} {s : FS}

set_option maxHeartbeats 1000000 in
theorem refRight_any (g p n : Int) (w : World) : Calls Try.prog 39 #[.agg #[.int .i64 g, .int .i64 p, .int .i64 n]] w fun e w' =>
    e = .returned (.bool (frightB g p n)) ∧ w.alloc (.cells #[.int .i64 g, .int .i64 p, .int .i64 n] 28) = w' := by
  by_cases h1 : 1 ≤ g
  · by_cases h2 : g ≤ 8
    · by_cases h3 : 1 ≤ p
      · by_cases h4 : p ≤ 8
        · by_cases h5 : 16 ≤ n
          · by_cases h6 : n ≤ 1024
            · have H := Lib.hid (show frightB g p n = true from by simp only [frightB, Bool.and_eq_true, fwithinB_iff]; omega)
              go_enter Try.func39, Try.ntmps39
              go_wp2
              go_ret
              exact ⟨by rw [H.out]; rfl, rfl⟩
            · have H := Lib.hid (show frightB g p n = false from by cases h : frightB g p n; rfl; simp only [frightB, Bool.and_eq_true, fwithinB_iff] at h; omega)
              go_enter Try.func39, Try.ntmps39
              go_wp2
              go_ret
              exact ⟨by rw [H.out]; rfl, rfl⟩
          · have H := Lib.hid (show frightB g p n = false from by cases h : frightB g p n; rfl; simp only [frightB, Bool.and_eq_true, fwithinB_iff] at h; omega)
            go_enter Try.func39, Try.ntmps39
            go_wp2
            go_ret
            exact ⟨by rw [H.out]; rfl, rfl⟩
        · have H := Lib.hid (show frightB g p n = false from by cases h : frightB g p n; rfl; simp only [frightB, Bool.and_eq_true, fwithinB_iff] at h; omega)
          go_enter Try.func39, Try.ntmps39
          go_wp2
          go_ret
          exact ⟨by rw [H.out]; rfl, rfl⟩
      · have H := Lib.hid (show frightB g p n = false from by cases h : frightB g p n; rfl; simp only [frightB, Bool.and_eq_true, fwithinB_iff] at h; omega)
        go_enter Try.func39, Try.ntmps39
        go_wp2
        go_ret
        exact ⟨by rw [H.out]; rfl, rfl⟩
    · have H := Lib.hid (show frightB g p n = false from by cases h : frightB g p n; rfl; simp only [frightB, Bool.and_eq_true, fwithinB_iff] at h; omega)
      go_enter Try.func39, Try.ntmps39
      go_wp2
      go_ret
      exact ⟨by rw [H.out]; rfl, rfl⟩
  · have H := Lib.hid (show frightB g p n = false from by cases h : frightB g p n; rfl; simp only [frightB, Bool.and_eq_true, fwithinB_iff] at h; omega)
    go_enter Try.func39, Try.ntmps39
    go_wp2
    go_ret
    exact ⟨by rw [H.out]; rfl, rfl⟩

def MadeRf (w w' : World) (s : FS) (b : Nat) : Prop := ∃ gw cw be, Rf w' b gw cw be (.slice none 0 0) s ∧ w.heap.size ≤ b ∧ w.heap.size ≤ gw ∧ w.heap.size ≤ be ∧ Keeps [] w w'

theorem refMake_bad (g p n : Int) (w : World) (h : frightB g p n = false) : Calls Try.prog 11 #[.agg #[.int .i64 g, .int .i64 p, .int .i64 n]] w fun e w' =>
    e = .returned (.tuple #[.pointer none, .int .i64 2]) ∧ Keeps [] w w' := by
  go_enter Try.func11, Try.ntmps11
  go_wp2_with (go_at_call 39; refine (refRight_any _ _ _ _).mono ?_; rintro e w' ⟨rfl, rfl⟩)
  go_ret2
  exact ⟨rfl, ((Keeps.refl _ _).alloc _).alloc _⟩

/-- In the loop that makes the words. -/
structure Mk (w wr : World) (b k : Nat) (g p n : Int) (wv : Value) : Prop where
  hb : wr.heap[b]? = some (.cells #[.int .i64 g, .int .i64 p, .int .i64 n, wv, .slice none 0 0, .slice none 0 0, .int .i64 (-1), .bool false] 48 (0, 0))
  own : wr.ownsRow (b + 1) 3 1 wv k ((List.replicate k (65535 : Int)).map (.int .i64))
  keep : Keeps [] w wr
  g0 : wr.cell? ⟨w.heap.size, 0, none⟩ = some (.int .i64 g)
  g1 : wr.cell? ⟨w.heap.size, 1, none⟩ = some (.int .i64 p)
  g2 : wr.cell? ⟨w.heap.size, 2, none⟩ = some (.int .i64 n)
  hbw : w.heap.size < b

theorem own_arr {w : World} {base tt : Nat} {v : Value} (h : w.ownsRow base 3 1 v tt ((List.replicate tt (65535 : Int)).map (.int .i64))) (h1 : 1 ≤ tt) : ∃ g c, v = .slice (some ⟨g, 0, none⟩) tt c ∧ base ≤ g ∧ Arr w g c (List.replicate tt 65535) := by
  have hne : v ≠ .slice none 0 0 := by
    rintro rfl
    rcases h.2 with ⟨_, h⟩ | ⟨g, cap', _, h, _⟩
    · omega
    · cases h
  have := Arr.of_own h hne
  simpa using this

theorem own_slice_succ {w : World} {base e size : Nat} {v : Value} {n : Nat} {xs : List Value} (h : w.ownsRow base e size v (n + 1) xs) : ∃ g c, v = .slice (some ⟨g, 0, none⟩) (n + 1) c := by
  rcases h.2 with ⟨_, h⟩ | ⟨g, cap', _, h, _⟩
  · omega
  · exact ⟨g, cap', h⟩

theorem Mk.step {w wr w' : World} {b k : Nat} {g p n : Int} {wv v' : Value} {o : Obj} (h : Mk w wr b k g p n wv) (hg : (wr.alloc o).grownBy w' wv.ownBlock)
    (ho : w'.ownsRow (b + 1) 3 1 v' (k + 1) ((List.replicate k (65535 : Int)).map (.int .i64) ++ [.int .i64 65535])) (hn : ∀ j, v'.ownBlock = some j → wv.ownBlock = some j ∨ (wr.alloc o).heap.size ≤ j) :
    Mk w (w'.setCell ⟨b, 3, none⟩ v') b (k + 1) g p n v' := by
  have hbn : ∀ j, wv.ownBlock = some j → b + 1 ≤ j := fun j e => (h.own.lt j e).1
  have hwn : b ∉ wv.ownBlock.toList := by intro e; have := hbn b (by simpa using e); omega
  have hws : w.heap.size ∉ wv.ownBlock.toList := by intro e; have := hbn _ (by simpa using e); have := h.hbw; omega
  have hk : Keeps wv.ownBlock.toList wr w' := (((Keeps.refl _ _).alloc o).grown hg (by intro k e; rw [e]; simp))
  have l0 := lt_of_block h.hb
  have hbw := h.hbw
  have hlw : w.heap.size < wr.heap.size := by omega
  have cc : ∀ i v, wr.cell? ⟨w.heap.size, i, none⟩ = some v → (w'.setCell ⟨b, 3, none⟩ v').cell? ⟨w.heap.size, i, none⟩ = some v := by
    intro i v e
    exact ((Keeps.refl [b] w').setCell (.inl (by simp)) v').cell (p := ⟨w.heap.size, i, none⟩) (by have := hk.size; simp; omega) (by simp; omega) |>.trans ((hk.cell (p := ⟨w.heap.size, i, none⟩) hlw hws).trans e)
  refine ⟨?_, ?_, ?_, cc _ _ h.g0, cc _ _ h.g1, cc _ _ h.g2, hbw⟩
  · have := heap_setCell_same (o := 3) (hk.held h.hb hwn) v'
    simpa using this
  · rw [List.replicate_succ', List.map_append]
    refine ownsRow_setCell ho ?_ _
    intro e
    rcases hn b e with h1 | h1
    · have := hbn b h1; omega
    · simp at h1; omega
  · have hk2 : Keeps [] w w' := h.keep.trans hk (by intro x hx; right; have := hbn x (by simpa using hx); omega)
    exact hk2.setCell (.inr (by simp; omega)) _

theorem Mk.fin {w wr : World} {b tt pg : Nat} {g p n : Int} {wv : Value} (h : Mk w wr b tt g p n wv) (h1 : 1 ≤ tt) :
    MadeRf w ((wr.setCell ⟨b, 5, none⟩ (.slice (some ⟨wr.heap.size, 0, none⟩) pg pg)).alloc (.cells (ints (List.replicate pg 0)) 3))
      { w := List.replicate tt 65535, g := g, p := p, n := n, cut := -1, off := false, done := [], er := List.replicate pg 0 } b := by
  obtain ⟨gw, cw, rfl, hgb, hA⟩ := own_arr h.own h1
  have l0 := lt_of_block h.hb
  have l1 := hA.lt
  have hbw := h.hbw
  have hsz := h.keep.size
  have hk1 : Keeps [b] wr (wr.setCell ⟨b, 5, none⟩ (.slice (some ⟨wr.heap.size, 0, none⟩) pg pg)) := (Keeps.refl _ _).setCell (.inl (by simp)) _
  have hb' := heap_setCell_same (o := 5) h.hb (.slice (some ⟨wr.heap.size, 0, none⟩) pg pg)
  have he' := heap_alloc_new (wr.setCell ⟨b, 5, none⟩ (.slice (some ⟨wr.heap.size, 0, none⟩) pg pg)) (.cells (ints (List.replicate pg 0)) 3)
  rw [World.size_setCell] at he'
  refine ⟨gw, cw, wr.heap.size, ⟨?_, ?_, he', World.ownsRow_nil _ _ _ _, by omega, by omega, by omega, by simp [Value.ownBlock]⟩, by omega, by omega, hsz, ?_⟩
  · refine heap_alloc_held ?_ _
    simpa using hb'
  · exact (hA.keep hk1 (by simp; omega)).keep (F := []) ((Keeps.refl _ _).alloc _) (by simp)
  · exact (h.keep.setCell (.inr (by simp; omega)) _).alloc _

set_option maxHeartbeats 2000000 in
theorem refMake_yes (g p n : Int) (w : World) (h : frightB g p n = true) : Calls Try.prog 11 #[.agg #[.int .i64 g, .int .i64 p, .int .i64 n]] w fun e w' =>
    ∃ b, e = .returned (.tuple #[.pointer (some ⟨b, 0, none⟩), .int .i64 0]) ∧ MadeRf w w' (FS.fresh g p n) b := by
  have hr := h
  simp only [frightB, Bool.and_eq_true, fwithinB_iff] at hr
  obtain ⟨⟨⟨g1, g2⟩, p1, p2⟩, n1, n2⟩ := hr
  have q0 : 0 ≤ g * p := Int.mul_nonneg (by omega) (by omega)
  have q1 : g * p ≤ 8 * 8 := Int.le_trans (Int.mul_le_mul_of_nonneg_right g2 (by omega)) (Int.mul_le_mul_of_nonneg_left p2 (by omega))
  obtain ⟨pg, hpg⟩ := Int.eq_ofNat_of_zero_le q0
  have q2 : 0 ≤ (pg : Int) * n := Int.mul_nonneg (by omega) (by omega)
  have q3 : (pg : Int) * n ≤ 64 * 1024 := Int.le_trans (Int.mul_le_mul_of_nonneg_right (show (pg : Int) ≤ 64 by omega) (by omega)) (Int.mul_le_mul_of_nonneg_left n2 (by omega))
  have q4 : 1 ≤ (pg : Int) := by rw [← hpg]; have := Int.mul_le_mul g1 p1 (by omega) (by omega); omega
  have q5 : 16 ≤ (pg : Int) * n := by have := Int.mul_le_mul q4 n1 (by omega) (by omega); omega
  obtain ⟨tt, htt⟩ := Int.eq_ofNat_of_zero_le q2
  have hfr : FS.fresh g p n = { w := List.replicate tt 65535, g := g, p := p, n := n, cut := -1, off := false, done := [], er := List.replicate pg 0 } := by
    unfold FS.fresh; rw [hpg, htt]; simp
  have HFR := Lib.hid hfr
  have htt2 : tt ≤ 1000000 := by omega
  have htt3 : 16 ≤ tt := by omega
  have hpg2 : pg ≤ 1000000 := by omega
  have hmk := run_make_ints 38 Try.underlying38 pg hpg2
  have HMK := Lib.hid hmk
  obtain ⟨i0, hi, hz0, hz1, hz2⟩ := info_parts Try.info3
  clear hfr hmk
  go_enter Try.func11, Try.ntmps11
  go_wp2_with (go_at_call 39; refine (refRight_any _ _ _ _).mono ?_; rintro e w' ⟨rfl, rfl⟩)
  go_loopw [5] (fun v wr => ∃ (k : Nat) (wv : Value), k ≤ tt ∧ v = .int .i64 k ∧ Mk w wr (w.heap.size + 1 + 1) k g p n wv) (fun v _ => tt - (intOf v).toNat)
  case atStart =>
    refine ⟨0, .slice none 0 0, Nat.zero_le _, rfl, ?_, ?_, ((((Keeps.refl _ _).alloc _).alloc _).alloc _), ?_, ?_, ?_, by omega⟩
    · have := heap_alloc_new ((w.alloc (.cells #[.int .i64 g, .int .i64 p, .int .i64 n] 28)).alloc (.cells #[.int .i64 g, .int .i64 p, .int .i64 n] 28)) (.cells #[.int .i64 g, .int .i64 p, .int .i64 n, .slice none 0 0, .slice none 0 0, .slice none 0 0, .int .i64 (-1), .bool false] 48)
      simpa using this
    · exact World.ownsRow_nil _ _ _ _
    · exact (World.cell?_alloc_lt _ _ _ (by simp; omega)).trans ((World.cell?_alloc_lt _ _ _ (by simp)).trans (World.cell?_alloc_new w _ 28 0))
    · exact (World.cell?_alloc_lt _ _ _ (by simp; omega)).trans ((World.cell?_alloc_lt _ _ _ (by simp)).trans (World.cell?_alloc_new w _ 28 1))
    · exact (World.cell?_alloc_lt _ _ _ (by simp; omega)).trans ((World.cell?_alloc_lt _ _ _ (by simp)).trans (World.cell?_alloc_new w _ 28 2))
  case round =>
    obtain ⟨k, wv, hk, rfl, hM⟩ := hrel
    have a0 := hM.g0
    have a1 := hM.g1
    have a2 := hM.g2
    have a3 : wr.cell? ⟨w.heap.size + 1 + 1, 3, none⟩ = some wv := cell_of_block hM.hb rfl
    have a4 := frozen_of_block hM.hb 3
    have a5 : wr.cell? ⟨w.heap.size + 1 + 1, 5, none⟩ = some (.slice none 0 0) := cell_of_block hM.hb rfl
    have a6 := frozen_of_block hM.hb 5
    have l0 := lt_of_block hM.hb
    by_cases hlt : k < tt
    · have hown := ownsRow_keep (F := []) hM.own ((Keeps.refl _ _).alloc (.cells #[.int .i64 65535] 3)) (by simp)
      have HO := Lib.hid hown
      clear hown
      have hbn : ∀ j, wv.ownBlock = some j → w.heap.size + 1 + 1 + 1 ≤ j := fun j e => (hM.own.lt j e).1
      have hwn : wv.ownBlock ≠ some (w.heap.size + 1 + 1) := by intro e; have := hbn _ e; omega
      go_wp2_with (at_builtin; refine wpList_append_new _ rfl (.tmp 28) (.tmp 29) 38 rfl (w.heap.size + 1 + 1 + 1) 3 i0 (.int .i64 0) 1 8 Try.underlying38 hi hz0 hz1 hz2 rfl (by decide) wv k _ rfl HO.out ⟨wr.heap.size, 0, none⟩ 1 1 [.int .i64 65535] rfl rfl (cell_one_new _ _ _) (by simp [Value.oneCell']) (by unfold maxLen; omega) (by omega) (by simp; omega) ?_; intro v' w' q1 q2 q3 q4; have G1 := Lib.hid q1; have G2 := Lib.hid q2; have G4 := Lib.hid q4; have r3 : w'.cell? ⟨w.heap.size + 1 + 1, 3, none⟩ = some wv := (World.cell?_of_block (q2.block _ (by simp; omega) (fun e => hwn e.symm))).trans ((World.cell?_alloc_lt _ _ _ l0).trans a3); have r4 : w'.frozen? ⟨w.heap.size + 1 + 1, 3, none⟩ = false := (World.frozen?_of_block (q2.block _ (by simp; omega) (fun e => hwn e.symm))).trans ((World.frozen?_of_block (Below.heap_alloc _ _ _ l0)).trans a4); obtain ⟨g', cap', rfl⟩ := own_slice_succ q1; clear q1 q2 q3 q4)
      go_roundw
      case rel =>
        refine ⟨k + 1, _, by omega, by go_num, hM.step G2.out G1.out G4.out⟩
      case measure => simp [intOf]; omega
    · have hkk : k = tt := by omega
      have hmk := HMK.out
      clear HMK
      go_wp2_with fail
      go_ret2
      refine ⟨_, rfl, ?_⟩
      rw [HFR.out]
      rw [hkk] at hM
      exact hM.fin (by omega)

end Go.Proofs.Ytcaphgokckkmfaa
