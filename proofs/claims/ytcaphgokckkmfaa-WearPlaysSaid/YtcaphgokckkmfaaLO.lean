
/- Make of a flash: its contract. -/
import Derived.Test.YtcaphgokckkmfaaLN
namespace Go.Proofs.Ytcaphgokckkmfaa
open Go.RowKit
set_option maxRecDepth 100000
set_option linter.unusedVariables false
variable {w w' : World} {c : Nat} {xs ys : List Int} {F : List Nat}

def FS.fresh (g p n : Int) : FS :=
  { w := List.replicate (g * p * n).toNat 65535, g := g, p := p, n := n, cut := -1, off := false, done := [], er := List.replicate (g * p).toNat 0 }

def MadeFl (w w' : World) (s : FS) (b : Nat) : Prop := ∃ bw be, Fl w' b bw be (.slice none 0 0) s ∧ w.heap.size ≤ b ∧ w.heap.size ≤ bw ∧ w.heap.size ≤ be ∧ Keeps [] w w'

theorem MadeFl.gen {w wx : World} {kb ke tt pg : Nat} {g p n : Int} (hbw : wx.heap[kb]? = some (.cells (ints (List.replicate tt 65535)) 3 (0, 0))) (hbe : wx.heap[ke]? = some (.cells (ints (List.replicate pg 0)) 3 (0, 0)))
    (hne : kb ≠ ke) (hk : Keeps [] w wx) (h1 : w.heap.size ≤ kb) (h2 : w.heap.size ≤ ke) :
    MadeFl w (wx.alloc (.cells #[.slice (some ⟨kb, 0, none⟩) tt tt, .int .i64 g, .int .i64 p, .int .i64 n, .int .i64 (-1), .bool false, .slice none 0 0, .slice (some ⟨ke, 0, none⟩) pg pg] 74))
      { w := List.replicate tt 65535, g := g, p := p, n := n, cut := -1, off := false, done := [], er := List.replicate pg 0 } wx.heap.size := by
  have l1 := lt_of_block hbw
  have l2 := lt_of_block hbe
  refine ⟨kb, ke, ⟨?_, heap_alloc_held hbw _, heap_alloc_held hbe _, World.ownsRow_nil _ _ _ _, by omega, by omega, hne, by simp [Value.ownBlock]⟩, hk.size, h1, h2, hk.alloc _⟩
  rw [heap_alloc_new]
  simp [flCells]

theorem MadeFl.one {w wb : World} {kb tt pg : Nat} {g p n : Int} (hbw : wb.heap[kb]? = some (.cells (ints (List.replicate tt 65535)) 3 (0, 0))) (hk : Keeps [] w wb) (h1 : w.heap.size ≤ kb) :
    MadeFl w ((wb.alloc (.cells (ints (List.replicate pg 0)) 3)).alloc (.cells #[.slice (some ⟨kb, 0, none⟩) tt tt, .int .i64 g, .int .i64 p, .int .i64 n, .int .i64 (-1), .bool false, .slice none 0 0, .slice (some ⟨wb.heap.size, 0, none⟩) pg pg] 74))
      { w := List.replicate tt 65535, g := g, p := p, n := n, cut := -1, off := false, done := [], er := List.replicate pg 0 } (wb.heap.size + 1) := by
  have l1 := lt_of_block hbw
  have h := MadeFl.gen (g := g) (p := p) (n := n) (heap_alloc_held hbw (.cells (ints (List.replicate pg 0)) 3)) (heap_alloc_new wb (.cells (ints (List.replicate pg 0)) 3)) (by omega) (hk.alloc _) h1 hk.size
  rw [World.size_alloc] at h
  exact h

theorem MadeFl.two {w wb : World} {A : Obj} {tt pg : Nat} {g p n : Int} (hbw : wb.heap[w.heap.size + 1 + 1 + 1]? = some (.cells (ints (List.replicate tt 65535)) 3 (0, 0)))
    (hk : Keeps [] (((w.alloc A).alloc A).alloc (.cells (ints (List.replicate pg 0)) 3)).drew wb) :
    MadeFl w (wb.alloc (.cells #[.slice (some ⟨w.heap.size + 1 + 1 + 1, 0, none⟩) tt tt, .int .i64 g, .int .i64 p, .int .i64 n, .int .i64 (-1), .bool false, .slice none 0 0, .slice (some ⟨w.heap.size + 1 + 1, 0, none⟩) pg pg] 74))
      { w := List.replicate tt 65535, g := g, p := p, n := n, cut := -1, off := false, done := [], er := List.replicate pg 0 } wb.heap.size := by
  have hk0 : Keeps [] w wb := ((((Keeps.refl _ _).alloc _).alloc _).alloc _).drew.trans0 hk
  have he := heap_alloc_new ((w.alloc A).alloc A) (.cells (ints (List.replicate pg 0)) 3)
  simp only [World.size_alloc] at he
  exact MadeFl.gen hbw (hk.held (by exact he) (by simp)) (by omega) hk0 (by omega) (by omega)

theorem make_bad (g p n : Int) (w : World) (h : frightB g p n = false) : Calls Try.prog 9 #[.agg #[.int .i64 g, .int .i64 p, .int .i64 n]] w fun e w' =>
    e = .returned (.tuple #[.pointer none, .int .i64 2]) ∧ Keeps [] w w' := by
  go_enter Try.func9, Try.ntmps9
  go_wp2_with (go_at_call 37; refine (fright_any _ _ _ _).mono ?_; rintro e w' ⟨rfl, rfl⟩)
  go_ret2
  exact ⟨rfl, ((Keeps.refl _ _).alloc _).alloc _⟩

set_option maxHeartbeats 1000000 in
theorem make_yes (g p n : Int) (w : World) (h : frightB g p n = true) : Calls Try.prog 9 #[.agg #[.int .i64 g, .int .i64 p, .int .i64 n]] w fun e w' =>
    ∃ b, e = .returned (.tuple #[.pointer (some ⟨b, 0, none⟩), .int .i64 0]) ∧ MadeFl w w' (FS.fresh g p n) b := by
  have hr := h
  simp only [frightB, Bool.and_eq_true, fwithinB_iff] at hr
  obtain ⟨⟨⟨g1, g2⟩, p1, p2⟩, n1, n2⟩ := hr
  have q0 : 0 ≤ g * p := Int.mul_nonneg (by omega) (by omega)
  have q1 : g * p ≤ 8 * 8 := Int.le_trans (Int.mul_le_mul_of_nonneg_right g2 (by omega)) (Int.mul_le_mul_of_nonneg_left p2 (by omega))
  obtain ⟨pg, hpg⟩ := Int.eq_ofNat_of_zero_le q0
  have q2 : 0 ≤ (pg : Int) * n := Int.mul_nonneg (by omega) (by omega)
  have q3 : (pg : Int) * n ≤ 64 * 1024 := Int.le_trans (Int.mul_le_mul_of_nonneg_right (show (pg : Int) ≤ 64 by omega) (by omega)) (Int.mul_le_mul_of_nonneg_left n2 (by omega))
  obtain ⟨tt, htt⟩ := Int.eq_ofNat_of_zero_le q2
  have hfr : FS.fresh g p n = { w := List.replicate tt 65535, g := g, p := p, n := n, cut := -1, off := false, done := [], er := List.replicate pg 0 } := by
    unfold FS.fresh; rw [hpg, htt]; simp
  have HFR := Lib.hid hfr
  have htt2 : tt ≤ 1000000 := by omega
  have hpg2 : pg ≤ 1000000 := by omega
  have hmk := run_make_ints 38 Try.underlying38 pg hpg2
  clear hfr
  have hw1 : IntKind.i64.wrap (tt : Int) = tt := by rw [IntKind.wrap_i64]; omega
  go_enter Try.func9, Try.ntmps9
  go_upto_region 4 with (go_at_call 37; refine (fright_any _ _ _ _).mono ?_; rintro e w' ⟨rfl, rfl⟩)
  go_cut [5] (fun s5 wx => ∃ b, s5 = .pointer (some ⟨b, 0, none⟩) ∧ MadeFl w wx (FS.fresh g p n) b)
  case first =>
    go_region_with (
      go_at_call 38
      (with_reducible refine (fblank_any tt _ htt2).mono ?_)
      rintro e wb ⟨rfl, hb1, hb2⟩
      have hkW := (show Keeps [] (w.alloc (.cells #[.int .i64 g, .int .i64 p, .int .i64 n] 28)) _ from (by repeat (first | exact Keeps.refl _ _ | apply Keeps.drew | apply Keeps.alloc))).trans0 hb2
      have k0 : wb.cell? ⟨w.heap.size, 0, none⟩ = some (.int .i64 g) := (hkW.cell (p := ⟨w.heap.size, 0, none⟩) (by simp) (by simp)).trans (World.cell?_alloc_new w _ 28 0)
      have k1 : wb.cell? ⟨w.heap.size, 1, none⟩ = some (.int .i64 p) := (hkW.cell (p := ⟨w.heap.size, 1, none⟩) (by simp) (by simp)).trans (World.cell?_alloc_new w _ 28 1)
      have k2 : wb.cell? ⟨w.heap.size, 2, none⟩ = some (.int .i64 n) := (hkW.cell (p := ⟨w.heap.size, 2, none⟩) (by simp) (by simp)).trans (World.cell?_alloc_new w _ 28 2)
      have hbl : w.heap.size < wb.heap.size := World.block_lt_of_cell? _ _ k0
      have HB1 := Lib.hid hb1
      have HB2 := Lib.hid hb2
      clear hb1 hb2)
    all_goals go_wp2_with fail
    all_goals go_meet
    all_goals
      have hb1 := HB1.out
      have hb2 := HB2.out
      have hsz := hb2.size
      simp at hb1 hsz
      have hk0 : Keeps [] w wb := (show Keeps [] w _ from (by repeat (first | exact Keeps.refl _ _ | apply Keeps.drew | apply Keeps.alloc))).trans0 hb2
      rw [HFR.out]
      first
      | exact ⟨_, rfl, MadeFl.one hb1 hk0 (by omega)⟩
      | exact ⟨_, rfl, MadeFl.two hb1 hb2⟩
  case rest =>
    obtain ⟨b, rfl, hm⟩ := hcut
    go_wp2
    go_ret2
    exact ⟨b, rfl, hm⟩

end Go.Proofs.Ytcaphgokckkmfaa
