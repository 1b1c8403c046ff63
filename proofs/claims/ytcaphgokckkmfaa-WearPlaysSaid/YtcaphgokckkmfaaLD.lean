
/- How a flash in memory turns by single stores; and what a raw write makes of its state. No condition. -/
import Derived.Test.YtcaphgokckkmfaaLC
namespace Go.Proofs.Ytcaphgokckkmfaa
open Go.RowKit
set_option maxRecDepth 100000
set_option linter.unusedVariables false
variable {w w' : World} {b bw be : Nat} {dv : Value} {s : FS}

theorem Fl.c0 (h : Fl w b bw be dv s) : w.cell? ⟨b, 0, none⟩ = some (.slice (some ⟨bw, 0, none⟩) s.w.length s.w.length) := cell_of_block h.hb rfl
theorem Fl.c1 (h : Fl w b bw be dv s) : w.cell? ⟨b, 1, none⟩ = some (.int .i64 s.g) := cell_of_block h.hb rfl
theorem Fl.c2 (h : Fl w b bw be dv s) : w.cell? ⟨b, 2, none⟩ = some (.int .i64 s.p) := cell_of_block h.hb rfl
theorem Fl.c3 (h : Fl w b bw be dv s) : w.cell? ⟨b, 3, none⟩ = some (.int .i64 s.n) := cell_of_block h.hb rfl
theorem Fl.c4 (h : Fl w b bw be dv s) : w.cell? ⟨b, 4, none⟩ = some (.int .i64 s.cut) := cell_of_block h.hb rfl
theorem Fl.c5 (h : Fl w b bw be dv s) : w.cell? ⟨b, 5, none⟩ = some (.bool s.off) := cell_of_block h.hb rfl
theorem Fl.c6 (h : Fl w b bw be dv s) : w.cell? ⟨b, 6, none⟩ = some dv := cell_of_block h.hb rfl
theorem Fl.c7 (h : Fl w b bw be dv s) : w.cell? ⟨b, 7, none⟩ = some (.slice (some ⟨be, 0, none⟩) s.er.length s.er.length) := cell_of_block h.hb rfl
theorem Fl.fz (h : Fl w b bw be dv s) (o : Nat) : w.frozen? ⟨b, o, none⟩ = false := frozen_of_block h.hb o
theorem Fl.cw (h : Fl w b bw be dv s) {k : Nat} (hk : k < s.w.length) : w.cell? ⟨bw, k, none⟩ = some (.int .i64 (s.w.getD k 0)) := cell_of_block h.hw (ints_get hk)
theorem Fl.fw (h : Fl w b bw be dv s) (o : Nat) : w.frozen? ⟨bw, o, none⟩ = false := frozen_of_block h.hw o
theorem Fl.ce (h : Fl w b bw be dv s) {k : Nat} (hk : k < s.er.length) : w.cell? ⟨be, k, none⟩ = some (.int .i64 (s.er.getD k 0)) := cell_of_block h.he (ints_get hk)
theorem Fl.fe (h : Fl w b bw be dv s) (o : Nat) : w.frozen? ⟨be, o, none⟩ = false := frozen_of_block h.he o
theorem Fl.lb (h : Fl w b bw be dv s) : b < w.heap.size := lt_of_block h.hb
theorem Fl.lw (h : Fl w b bw be dv s) : bw < w.heap.size := lt_of_block h.hw
theorem Fl.le (h : Fl w b bw be dv s) : be < w.heap.size := lt_of_block h.he

theorem ownsRow_setCell {base : Nat} {e : TypeId} {size : Nat} {v : Value} {n : Nat} {xs : List Value} (h : w.ownsRow base e size v n xs) {a : Addr} (ha : v.ownBlock ≠ some a.block) (u : Value) :
    (w.setCell a u).ownsRow base e size v n xs :=
  ownsRow_keep (F := [a.block]) h ((Keeps.refl _ _).setCell (.inl (by simp)) u) (by intro k hk; simp only [List.mem_singleton]; rintro rfl; exact ha hk)

theorem Fl.alloc (h : Fl w b bw be dv s) (o : Obj) : Fl (w.alloc o) b bw be dv s := h.keep (F := []) ((Keeps.refl _ _).alloc o) (by simp)
theorem Fl.drew (h : Fl w b bw be dv s) : Fl w.drew b bw be dv s := h.keep (F := []) (Keeps.refl _ _).drew (by simp)
theorem Fl.drewN (h : Fl w b bw be dv s) (n : Nat) : Fl (w.drewN n) b bw be dv s := h.keep (F := []) ((Keeps.refl _ _).drewN n) (by simp)
theorem Fl.alike (h : Fl w b bw be dv s) (ha : w'.Alike w) : Fl w' b bw be dv s := h.keep (F := []) ((Keeps.refl _ _).alike ha) (by simp)

theorem Fl.dvb (h : Fl w b bw be dv s) : dv.ownBlock ≠ some b ∧ dv.ownBlock ≠ some bw ∧ dv.ownBlock ≠ some be :=
  ⟨fun e => (h.nd _ e).1 rfl, fun e => (h.nd _ e).2.1 rfl, fun e => (h.nd _ e).2.2 rfl⟩

theorem Fl.setCut (h : Fl w b bw be dv s) (v : Int) : Fl (w.setCell ⟨b, 4, none⟩ (.int .i64 v)) b bw be dv { s with cut := v } :=
  ⟨heap_setCell_same h.hb _, (heap_setCell_other h.n1.symm _).trans h.hw, (heap_setCell_other h.n2.symm _).trans h.he, ownsRow_setCell h.hd h.dvb.1 _, h.n1, h.n2, h.n3, h.nd⟩
theorem Fl.setOff (h : Fl w b bw be dv s) (v : Bool) : Fl (w.setCell ⟨b, 5, none⟩ (.bool v)) b bw be dv { s with off := v } :=
  ⟨heap_setCell_same h.hb _, (heap_setCell_other h.n1.symm _).trans h.hw, (heap_setCell_other h.n2.symm _).trans h.he, ownsRow_setCell h.hd h.dvb.1 _, h.n1, h.n2, h.n3, h.nd⟩
theorem Fl.setW (h : Fl w b bw be dv s) (k : Nat) (v : Int) : Fl (w.setCell ⟨bw, k, none⟩ (.int .i64 v)) b bw be dv { s with w := s.w.set k v } :=
  ⟨(heap_setCell_other h.n1 _).trans (by have := h.hb; simpa [flCells] using this), by rw [heap_setCell_same h.hw, ints_set], (heap_setCell_other h.n3.symm _).trans h.he, ownsRow_setCell h.hd h.dvb.2.1 _, h.n1, h.n2, h.n3, h.nd⟩
theorem Fl.setE (h : Fl w b bw be dv s) (k : Nat) (v : Int) : Fl (w.setCell ⟨be, k, none⟩ (.int .i64 v)) b bw be dv { s with er := s.er.set k v } :=
  ⟨(heap_setCell_other h.n2 _).trans (by have := h.hb; simpa [flCells] using this), (heap_setCell_other h.n3 _).trans h.hw, by rw [heap_setCell_same h.he, ints_set], ownsRow_setCell h.hd h.dvb.2.2 _, h.n1, h.n2, h.n3, h.nd⟩
/-- The row of raw writes has grown (or been filled) by one. -/
theorem Fl.setD (h : Fl w b bw be dv s) {dv' : Value} {r : Raw3} (hg : w.grownBy w' dv.ownBlock) (ho : w'.ownsRow 0 80 3 dv' (s.done.length + 1) (rawCells (s.done ++ [r])))
    (hnew : ∀ k, dv'.ownBlock = some k → dv.ownBlock = some k ∨ w.heap.size ≤ k) : Fl (w'.setCell ⟨b, 6, none⟩ dv') b bw be dv' { s with done := s.done ++ [r] } := by
  have hk : Keeps dv.ownBlock.toList w w' := (Keeps.refl _ _).grown hg (by intro k e; rw [e]; simp)
  have hb' := hk.held h.hb (by intro hx; exact h.dvb.1 (by simpa using hx))
  have hw' := hk.held h.hw (by intro hx; exact h.dvb.2.1 (by simpa using hx))
  have he' := hk.held h.he (by intro hx; exact h.dvb.2.2 (by simpa using hx))
  have hn : ∀ k, dv'.ownBlock = some k → k ≠ b ∧ k ≠ bw ∧ k ≠ be := by
    intro k e
    rcases hnew k e with h1 | h1
    · exact h.nd k h1
    · have := h.lb; have := h.lw; have := h.le; omega
  refine ⟨heap_setCell_same hb' _, (heap_setCell_other h.n1.symm _).trans hw', (heap_setCell_other h.n2.symm _).trans he', ?_, h.n1, h.n2, h.n3, hn⟩
  have ho2 : w'.ownsRow 0 80 3 dv' (s.done ++ [r]).length (rawCells (s.done ++ [r])) := by simpa using ho
  exact ownsRow_setCell ho2 (fun e => (hn b e).1 rfl) _

theorem rawCells_snoc (l : List Raw3) (r : Raw3) : rawCells (l ++ [r]) = rawCells l ++ [Value.bool r.1, .int .i64 r.2.1, .int .i64 r.2.2] := by
  simp [rawCells]

/-! ### The state behind a raw write -/
def wordAfter (old : Int) (r : Raw3) : Int := if r.1 then 65535 else bits .and .i64 old r.2.2

def FS.put (s : FS) (r : Raw3) : FS :=
  { s with
    cut := if s.cut > 0 then s.cut - 1 else s.cut
    w := s.w.set r.2.1.toNat (wordAfter (s.w.getD r.2.1.toNat 0) r)
    done := s.done ++ [r]
    er := if r.1 = true ∧ r.2.1 % s.n = 0 then s.er.set (r.2.1 / s.n).toNat (s.er.getD (r.2.1 / s.n).toNat 0 + 1) else s.er }

end Go.Proofs.Ytcaphgokckkmfaa
