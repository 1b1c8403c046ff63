
/- The document's own flash in memory; one raw write of it. -/
import Derived.Test.YtcaphgokckkmfaaMA
import Derived.Test.YtcaphgokckkmfaaLR
namespace Go.Proofs.Ytcaphgokckkmfaa
open Go.RowKit
set_option maxRecDepth 100000
set_option linter.unusedVariables false
variable {w w' : World} {F : List Nat}

/-- The document's flash in memory: block b; its words in block gw (room for cw), its raw writes lv, its counts in block be. -/
structure Rf (w : World) (b gw cw be : Nat) (lv : Value) (s : FS) : Prop where
  hb : w.heap[b]? = some (.cells #[.int .i64 s.g, .int .i64 s.p, .int .i64 s.n, .slice (some ⟨gw, 0, none⟩) s.w.length cw, lv, .slice (some ⟨be, 0, none⟩) s.er.length s.er.length, .int .i64 s.cut, .bool s.off] 48 (0, 0))
  hw : Arr w gw cw s.w
  he : w.heap[be]? = some (.cells (ints s.er) 3 (0, 0))
  hd : w.ownsRow 0 80 3 lv s.done.length (rawCells s.done)
  n1 : b ≠ gw
  n2 : b ≠ be
  n3 : gw ≠ be
  nd : ∀ k, lv.ownBlock = some k → k ≠ b ∧ k ≠ gw ∧ k ≠ be

variable {b gw cw be : Nat} {lv : Value} {s : FS}

theorem Rf.keep (h : Rf w b gw cw be lv s) (hk : Keeps F w w') (hn : ∀ k ∈ foot b gw be lv, k ∉ F) : Rf w' b gw cw be lv s :=
  ⟨hk.held h.hb (hn _ (by simp [foot])), h.hw.keep hk (hn _ (by simp [foot])), hk.held h.he (hn _ (by simp [foot])),
    ownsRow_keep h.hd hk (fun k e => hn k (by simp [foot, e])), h.n1, h.n2, h.n3, h.nd⟩
theorem Rf.keep0 (h : Rf w b gw cw be lv s) (hk : Keeps [] w w') : Rf w' b gw cw be lv s := h.keep hk (by simp)
theorem Rf.lt (h : Rf w b gw cw be lv s) : ∀ k ∈ foot b gw be lv, k < w.heap.size := by
  intro k hk
  simp only [foot, List.mem_cons, Option.mem_toList] at hk
  rcases hk with rfl | rfl | rfl | hk
  · exact lt_of_block h.hb
  · exact h.hw.lt
  · exact lt_of_block h.he
  · exact (h.hd.lt k hk).2
theorem Rf.dvb (h : Rf w b gw cw be lv s) : lv.ownBlock ≠ some b ∧ lv.ownBlock ≠ some gw ∧ lv.ownBlock ≠ some be :=
  ⟨fun e => (h.nd _ e).1 rfl, fun e => (h.nd _ e).2.1 rfl, fun e => (h.nd _ e).2.2 rfl⟩

theorem Rf.c0 (h : Rf w b gw cw be lv s) : w.cell? ⟨b, 0, none⟩ = some (.int .i64 s.g) := cell_of_block h.hb rfl
theorem Rf.c1 (h : Rf w b gw cw be lv s) : w.cell? ⟨b, 1, none⟩ = some (.int .i64 s.p) := cell_of_block h.hb rfl
theorem Rf.c2 (h : Rf w b gw cw be lv s) : w.cell? ⟨b, 2, none⟩ = some (.int .i64 s.n) := cell_of_block h.hb rfl
theorem Rf.c3 (h : Rf w b gw cw be lv s) : w.cell? ⟨b, 3, none⟩ = some (.slice (some ⟨gw, 0, none⟩) s.w.length cw) := cell_of_block h.hb rfl
theorem Rf.c4 (h : Rf w b gw cw be lv s) : w.cell? ⟨b, 4, none⟩ = some lv := cell_of_block h.hb rfl
theorem Rf.c5 (h : Rf w b gw cw be lv s) : w.cell? ⟨b, 5, none⟩ = some (.slice (some ⟨be, 0, none⟩) s.er.length s.er.length) := cell_of_block h.hb rfl
theorem Rf.c6 (h : Rf w b gw cw be lv s) : w.cell? ⟨b, 6, none⟩ = some (.int .i64 s.cut) := cell_of_block h.hb rfl
theorem Rf.c7 (h : Rf w b gw cw be lv s) : w.cell? ⟨b, 7, none⟩ = some (.bool s.off) := cell_of_block h.hb rfl
theorem Rf.fz (h : Rf w b gw cw be lv s) (o : Nat) : w.frozen? ⟨b, o, none⟩ = false := frozen_of_block h.hb o
theorem Rf.ce (h : Rf w b gw cw be lv s) {k : Nat} (hk : k < s.er.length) : w.cell? ⟨be, k, none⟩ = some (.int .i64 (s.er.getD k 0)) := cell_of_block h.he (ints_get hk)
theorem Rf.fe (h : Rf w b gw cw be lv s) (o : Nat) : w.frozen? ⟨be, o, none⟩ = false := frozen_of_block h.he o
theorem Rf.lb (h : Rf w b gw cw be lv s) : b < w.heap.size := lt_of_block h.hb

theorem Rf.setCut (h : Rf w b gw cw be lv s) (v : Int) : Rf (w.setCell ⟨b, 6, none⟩ (.int .i64 v)) b gw cw be lv { s with cut := v } :=
  ⟨heap_setCell_same h.hb _, h.hw.keep (F := [b]) ((Keeps.refl _ _).setCell (.inl (by simp)) _) (by simp; exact h.n1.symm), (heap_setCell_other h.n2.symm _).trans h.he, ownsRow_setCell h.hd h.dvb.1 _, h.n1, h.n2, h.n3, h.nd⟩
theorem Rf.setOff (h : Rf w b gw cw be lv s) (v : Bool) : Rf (w.setCell ⟨b, 7, none⟩ (.bool v)) b gw cw be lv { s with off := v } :=
  ⟨heap_setCell_same h.hb _, h.hw.keep (F := [b]) ((Keeps.refl _ _).setCell (.inl (by simp)) _) (by simp; exact h.n1.symm), (heap_setCell_other h.n2.symm _).trans h.he, ownsRow_setCell h.hd h.dvb.1 _, h.n1, h.n2, h.n3, h.nd⟩
theorem Rf.setW (h : Rf w b gw cw be lv s) {k : Nat} (hk : k < s.w.length) (v : Int) : Rf (w.setCell ⟨gw, k, none⟩ (.int .i64 v)) b gw cw be lv { s with w := s.w.set k v } :=
  ⟨(heap_setCell_other h.n1 _).trans (by have := h.hb; simpa using this), h.hw.set hk v, (heap_setCell_other h.n3.symm _).trans h.he, ownsRow_setCell h.hd h.dvb.2.1 _, h.n1, h.n2, h.n3, h.nd⟩
theorem Rf.setE (h : Rf w b gw cw be lv s) (k : Nat) (v : Int) : Rf (w.setCell ⟨be, k, none⟩ (.int .i64 v)) b gw cw be lv { s with er := s.er.set k v } :=
  ⟨(heap_setCell_other h.n2 _).trans (by have := h.hb; simpa using this), h.hw.keep (F := [be]) ((Keeps.refl _ _).setCell (.inl (by simp)) _) (by simp; exact h.n3), by rw [heap_setCell_same h.he, ints_set], ownsRow_setCell h.hd h.dvb.2.2 _, h.n1, h.n2, h.n3, h.nd⟩
theorem Rf.setD (h : Rf w b gw cw be lv s) {lv' : Value} {r : Raw3} (hg : w.grownBy w' lv.ownBlock) (ho : w'.ownsRow 0 80 3 lv' (s.done.length + 1) (rawCells (s.done ++ [r])))
    (hnew : ∀ k, lv'.ownBlock = some k → lv.ownBlock = some k ∨ w.heap.size ≤ k) : Rf (w'.setCell ⟨b, 4, none⟩ lv') b gw cw be lv' { s with done := s.done ++ [r] } := by
  have hk : Keeps lv.ownBlock.toList w w' := (Keeps.refl _ _).grown hg (by intro k e; rw [e]; simp)
  have hb' := hk.held h.hb (by intro hx; exact h.dvb.1 (by simpa using hx))
  have hw' := h.hw.keep hk (by intro hx; exact h.dvb.2.1 (by simpa using hx))
  have he' := hk.held h.he (by intro hx; exact h.dvb.2.2 (by simpa using hx))
  have hlt := h.lt
  have hn : ∀ k, lv'.ownBlock = some k → k ≠ b ∧ k ≠ gw ∧ k ≠ be := by
    intro k e
    rcases hnew k e with h1 | h1
    · exact h.nd k h1
    · have := hlt b (by simp [foot]); have := hlt gw (by simp [foot]); have := hlt be (by simp [foot]); omega
  refine ⟨heap_setCell_same hb' _, hw'.keep (F := [b]) ((Keeps.refl _ _).setCell (.inl (by simp)) _) (by simp; exact h.n1.symm), (heap_setCell_other h.n2.symm _).trans he', ?_, h.n1, h.n2, h.n3, hn⟩
  have ho2 : w'.ownsRow 0 80 3 lv' (s.done ++ [r]).length (rawCells (s.done ++ [r])) := by simpa using ho
  exact ownsRow_setCell ho2 (fun e => (hn b e).1 rfl) _

/-- The state behind a raw write, but for the counts. -/
def FS.putR (s : FS) (r : Raw3) : FS := { s.put r with er := s.er }

/-- In the midst of a raw write of the document's flash: the flash, and the box that holds the raw write. -/
structure MidR (w0 wx : World) (b gw cw be : Nat) (lv lv0 : Value) (s : FS) (r : Raw3) : Prop where
  fl : Rf wx b gw cw be lv s
  r0 : wx.cell? ⟨w0.heap.size, 0, none⟩ = some (.bool r.1)
  r1 : wx.cell? ⟨w0.heap.size, 1, none⟩ = some (.int .i64 r.2.1)
  r2 : wx.cell? ⟨w0.heap.size, 2, none⟩ = some (.int .i64 r.2.2)
  keep : Keeps (foot b gw be lv0) w0 wx
  new : ∀ k, lv.ownBlock = some k → lv0.ownBlock = some k ∨ w0.heap.size < k
  fresh : w0.heap.size ∉ foot b gw be lv

theorem MidR.turn {w0 wx wx' : World} {lv lv' lv0 : Value} {s s' : FS} {r : Raw3} (h : MidR w0 wx b gw cw be lv lv0 s r) (hk : Keeps (foot b gw be lv) wx wx')
    (hf : Rf wx' b gw cw be lv' s') (hn : ∀ k, lv'.ownBlock = some k → lv.ownBlock = some k ∨ wx.heap.size ≤ k) : MidR w0 wx' b gw cw be lv' lv0 s' r := by
  have l0 := World.block_lt_of_cell? _ _ h.r0
  simp only at l0
  have hs := h.keep.size
  refine ⟨hf, (hk.cell l0 h.fresh).trans h.r0, (hk.cell l0 h.fresh).trans h.r1, (hk.cell l0 h.fresh).trans h.r2, h.keep.trans hk ?_, ?_, ?_⟩
  · intro x hx
    rw [mem_foot] at hx ⊢
    rcases hx with hx | hx | hx | hx
    · exact .inl (.inl hx)
    · exact .inl (.inr (.inl hx))
    · exact .inl (.inr (.inr (.inl hx)))
    · rcases h.new x hx with h1 | h1
      · exact .inl (.inr (.inr (.inr h1)))
      · exact .inr (by omega)
  · intro k e
    rcases hn k e with h1 | h1
    · exact h.new k h1
    · exact .inr (by omega)
  · intro hx
    rw [mem_foot] at hx
    have hfr := h.fresh
    rw [mem_foot] at hfr
    rcases hx with hx | hx | hx | hx
    · exact hfr (.inl hx)
    · exact hfr (.inr (.inl hx))
    · exact hfr (.inr (.inr (.inl hx)))
    · rcases hn _ hx with h1 | h1
      · exact hfr (.inr (.inr (.inr h1)))
      · omega

theorem MidR.start {w1 : World} {r1 : Bool} {k v : Int} (hF : Rf w1 b gw cw be lv s) (hs : w1.heap.size = w.heap.size) (hk : Keeps (foot b gw be lv) w w1) :
    MidR w (w1.alloc (.cells #[.bool r1, .int .i64 k, .int .i64 v] 80)) b gw cw be lv lv s (r1, k, v) := by
  have e : ∀ i, (w1.alloc (.cells #[.bool r1, .int .i64 k, .int .i64 v] 80)).cell? ⟨w.heap.size, i, none⟩ = (#[.bool r1, .int .i64 k, .int .i64 v] : Array Value)[i]? := by
    intro i; rw [← hs]; exact World.cell?_alloc_new w1 _ 80 i
  exact ⟨hF.keep0 ((Keeps.refl _ _).alloc _), e 0, e 1, e 2, hk.alloc _, fun k e => .inl e, fun hx => by have := hF.lt _ hx; omega⟩

theorem MidR.app {w0 wc w' : World} {lv lv' lv0 : Value} {s : FS} {r : Raw3} {o : Obj} (h : MidR w0 wc b gw cw be lv lv0 s r) (hg : (wc.alloc o).drew.grownBy w' lv.ownBlock)
    (ho : w'.ownsRow 0 80 3 lv' (s.done.length + 1) (rawCells s.done ++ [Value.bool r.1, .int .i64 r.2.1, .int .i64 r.2.2]))
    (hn : ∀ k, lv'.ownBlock = some k → lv.ownBlock = some k ∨ (wc.alloc o).drew.heap.size ≤ k) : MidR w0 (w'.setCell ⟨b, 4, none⟩ lv') b gw cw be lv' lv0 { s with done := s.done ++ [r] } r := by
  have hk0 : Keeps [] wc (wc.alloc o).drew := ((Keeps.refl _ _).alloc o).drew
  have hf := (h.fl.keep0 hk0).setD hg (by rw [rawCells_snoc]; exact ho) hn
  refine h.turn ((((Keeps.refl _ _).alloc o).drew.grown hg ?_).setCell (.inl (by simp [foot])) _) hf ?_
  · intro k e; left; rw [mem_foot]; exact .inr (.inr (.inr e))
  · intro k e
    rcases hn k e with h1 | h1
    · exact .inl h1
    · right; simp at h1; omega

/-- The power is gone, or goes. -/
theorem rraw_cut (r1 : Bool) (r2 r3 : Int) (w : World) (hF : Rf w b gw cw be lv s) (hc : s.off = true ∨ s.cut = 0) :
    Calls Try.prog 45 #[.pointer (some ⟨b, 0, none⟩), .agg #[.bool r1, .int .i64 r2, .int .i64 r3]] w fun e w' =>
      e = .returned (.bool false) ∧ Rf w' b gw cw be lv { s with off := true } ∧ Keeps (foot b gw be lv) w w' := by
  have c6 := hF.c6
  have c7 := hF.c7
  have f7 := hF.fz 7
  have lb := hF.lb
  have hfin : Rf ((w.setCell ⟨b, 7, none⟩ (.bool true)).alloc (.cells #[.bool r1, .int .i64 r2, .int .i64 r3] 80)) b gw cw be lv { s with off := true } := (hF.setOff true).keep0 ((Keeps.refl _ _).alloc _)
  have hk : Keeps (foot b gw be lv) w ((w.setCell ⟨b, 7, none⟩ (.bool true)).alloc (.cells #[.bool r1, .int .i64 r2, .int .i64 r3] 80)) := ((Keeps.refl _ _).setCell (.inl (by simp [foot])) _).alloc _
  by_cases ho : s.off = true
  · rw [ho] at c7
    clear ho hc
    go_enter Try.func45, Try.ntmps45
    go_wp2
    go_ret
    exact ⟨rfl, hfin, hk⟩
  · have ho2 : s.off = false := by simpa using ho
    have h0 : s.cut = 0 := by rcases hc with h | h; exact absurd h ho; exact h
    rw [ho2] at c7
    rw [h0] at c6
    clear ho ho2 h0 hc
    go_enter Try.func45, Try.ntmps45
    go_wp2
    go_ret
    exact ⟨rfl, hfin, hk⟩

end Go.Proofs.Ytcaphgokckkmfaa
