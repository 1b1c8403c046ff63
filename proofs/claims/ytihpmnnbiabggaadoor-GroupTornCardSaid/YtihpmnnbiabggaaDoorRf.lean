
/- group: what is found, as cells in memory: read, written and compared whole and in parts. No condition but that what is alive is 44 numbers. -/
import Derived.Test.YtihpmnnbiabggaaDoorRe
namespace Go.Proofs.YtihpmnnbiabggaaDoor
open Go.RowKit Go.Shelf
set_option linter.unusedVariables false
set_option maxRecDepth 100000

/-- What is found, as cells. -/
def fndC (f : Fnd) : List Value := .bool f.has :: .int .i64 f.seq :: (f.live.map (.int .i64) ++ [.int .i64 f.com, .int .i64 (f.free : Int)])
def fndV (f : Fnd) : Array Value := (fndC f).toArray
theorem fndC_len {f : Fnd} (h : f.live.length = 44) : (fndC f).length = 48 := by simp [fndC, h]
theorem fndV_size {f : Fnd} (h : f.live.length = 44) : (fndV f).size = 48 := by simp [fndV, fndC_len h]
theorem fndC_one (f : Fnd) : ∀ u ∈ fndC f, u.oneCell' = true := by
  intro u hu
  simp only [fndC, List.mem_cons, List.mem_append, List.mem_map, List.not_mem_nil, or_false] at hu
  rcases hu with rfl | rfl | ⟨x, -, rfl⟩ | rfl | rfl <;> rfl
theorem fndV_one (f : Fnd) : (fndV f).all (·.oneCell') = true := all_oneCell_toArray (fndC_one f)
/-- It lies in block g, behind other cells of it. -/
def FAt (w : World) (g : Nat) (t : TypeId) (h : List Value) (f : Fnd) : Prop := w.heap[g]? = some (.cells (h ++ fndC f).toArray t (0, 0))
theorem FAt.keep {F : List Nat} {w w' : World} {g : Nat} {t : TypeId} {h : List Value} {f : Fnd} (hf : FAt w g t h f) (hk : Keeps F w w') (hn : g ∉ F) : FAt w' g t h f := hk.held hf hn
theorem FAt.frozen {w : World} {g : Nat} {t : TypeId} {h : List Value} {f : Fnd} (hf : FAt w g t h f) (o : Nat) : w.frozen? ⟨g, o, none⟩ = false := frozen_of_block hf o
theorem FAt.lt {w : World} {g : Nat} {t : TypeId} {h : List Value} {f : Fnd} (hf : FAt w g t h f) : g < w.heap.size := lt_of_block hf
theorem FAt.cellAt {w : World} {g : Nat} {t : TypeId} {h : List Value} {f : Fnd} (hf : FAt w g t h f) {i : Nat} {v : Value} (hv : (h ++ fndC f)[i]? = some v) : w.cell? ⟨g, i, none⟩ = some v :=
  cell_of_block hf (by simpa using hv)
section
variable {w : World} {g : Nat} {t : TypeId} {h : List Value} {f : Fnd}
theorem at_behind {h : List Value} {f : Fnd} (i : Nat) : (h ++ fndC f)[h.length + i]? = (fndC f)[i]? := by
  rw [List.getElem?_append_right (by omega), Nat.add_sub_cancel_left]
theorem FAt.has (hf : FAt w g t h f) : w.cell? ⟨g, h.length, none⟩ = some (.bool f.has) := hf.cellAt (by have := at_behind (h := h) (f := f) 0; rwa [Nat.add_zero] at this)
theorem FAt.seq (hf : FAt w g t h f) : w.cell? ⟨g, h.length + 1, none⟩ = some (.int .i64 f.seq) := hf.cellAt (at_behind 1)
theorem FAt.live (hf : FAt w g t h f) {i : Nat} (hi : i < f.live.length) : w.cell? ⟨g, h.length + (2 + i), none⟩ = some (.int .i64 (f.live.getD i 0)) := hf.cellAt (by
  rw [at_behind]
  unfold fndC
  rw [show 2 + i = i + 1 + 1 by omega, List.getElem?_cons_succ, List.getElem?_cons_succ, List.getElem?_append_left (by simpa using hi)]
  exact map_get hi)
theorem FAt.com (hf : FAt w g t h f) (hl : f.live.length = 44) : w.cell? ⟨g, h.length + 46, none⟩ = some (.int .i64 f.com) := hf.cellAt (by
  rw [at_behind]
  unfold fndC
  rw [List.getElem?_cons_succ, List.getElem?_cons_succ, List.getElem?_append_right (by simp [hl])]
  simp [hl])
theorem FAt.free (hf : FAt w g t h f) (hl : f.live.length = 44) : w.cell? ⟨g, h.length + 47, none⟩ = some (.int .i64 (f.free : Int)) := hf.cellAt (by
  rw [at_behind]
  unfold fndC
  rw [List.getElem?_cons_succ, List.getElem?_cons_succ, List.getElem?_append_right (by simp [hl])]
  simp [hl])
theorem FAt.setAt (hf : FAt w g t h f) {f' : Fnd} {i : Nat} {u : Value} (hs : (fndC f).set i u = fndC f') : FAt (w.setCell ⟨g, h.length + i, none⟩ u) g t h f' := by
  unfold FAt
  rw [heap_setCell_same hf]
  congr 2
  apply Array.ext'
  rw [Array.toList_setIfInBounds, List.set_append_right _ _ (by omega), Nat.add_sub_cancel_left, hs]
theorem FAt.setHas (hf : FAt w g t h f) (b : Bool) : FAt (w.setCell ⟨g, h.length, none⟩ (.bool b)) g t h { f with has := b } := hf.setAt (i := 0) rfl
theorem FAt.setSeq (hf : FAt w g t h f) (x : Int) : FAt (w.setCell ⟨g, h.length + 1, none⟩ (.int .i64 x)) g t h { f with seq := x } := hf.setAt (i := 1) rfl
theorem FAt.setCom (hf : FAt w g t h f) (hl : f.live.length = 44) (x : Int) : FAt (w.setCell ⟨g, h.length + 46, none⟩ (.int .i64 x)) g t h { f with com := x } := hf.setAt (i := 46) (by
  unfold fndC
  rw [List.set_cons_succ, List.set_cons_succ, List.set_append_right _ _ (by simp [hl])]
  simp [hl])
theorem FAt.setFree (hf : FAt w g t h f) (hl : f.live.length = 44) (x : Nat) : FAt (w.setCell ⟨g, h.length + 47, none⟩ (.int .i64 (x : Int))) g t h { f with free := x } := hf.setAt (i := 47) (by
  unfold fndC
  rw [List.set_cons_succ, List.set_cons_succ, List.set_append_right _ _ (by simp [hl])]
  simp [hl])
end

/-- Many cells of a block are written. -/
theorem setCells_block (t : TypeId) : ∀ (vs : List Value) (o : Nat) (w : World) (g : Nat) (x : List Value), w.heap[g]? = some (.cells x.toArray t (0, 0)) → o + vs.length ≤ x.length →
    (w.setCells g o vs).heap[g]? = some (.cells (x.take o ++ (vs ++ x.drop (o + vs.length))).toArray t (0, 0))
  | [], o, w, g, x, h, _ => by
    rw [World.setCells, h]
    simp
  | v :: vs, o, w, g, x, h, hl => by
    rw [World.setCells]
    have h1 : (w.setCell ⟨g, o, none⟩ v).heap[g]? = some (.cells (x.set o v).toArray t (0, 0)) := by rw [heap_setCell_same h]; simp
    simp only [List.length_cons] at hl ⊢
    rw [setCells_block t vs (o + 1) _ g _ h1 (by simp; omega)]
    congr 3
    rw [List.take_add_one, List.take_set_of_le (Nat.le_refl _), List.getElem?_set_self (by omega), List.drop_set_of_lt (by omega), List.append_assoc]
    rw [show o + 1 + vs.length = o + (vs.length + 1) by omega]
    rfl
theorem Keeps.setCellsR {F : List Nat} {a w : World} (h : Keeps F a w) {g : Nat} (hg : g ∈ F ∨ a.heap.size ≤ g) : ∀ (vs : List Value) (o : Nat), Keeps F a (w.setCells g o vs)
  | [], _ => h
  | v :: vs, o => Keeps.setCellsR (h.setCell (p := ⟨g, o, none⟩) hg v) hg vs (o + 1)
theorem size_setCells (w : World) (g : Nat) : ∀ (vs : List Value) (o : Nat) (w : World), (w.setCells g o vs).heap.size = w.heap.size
  | [], _, _ => rfl
  | v :: vs, o, w => by rw [World.setCells, size_setCells w g vs (o + 1) _]; simp
section
variable {w : World} {g : Nat} {t : TypeId} {h : List Value} {f : Fnd}
theorem FAt.there (hf : FAt w g t h f) (hl : f.live.length = 44) {o n : Nat} (ho : o + n ≤ h.length + 48) : w.there g o n := fun j hj => by
  refine ⟨?_, hf.frozen _⟩
  rw [hf.cellAt (i := o + j) (v := (h ++ fndC f)[o + j]'(by rw [List.length_append, fndC_len hl]; omega)) (List.getElem?_eq_getElem _)]
  rfl
theorem FAt.setLive (hf : FAt w g t h f) (hl : f.live.length = 44) {k : Nat} (hk : k < 4) {p : List Int} (hp : p.length = 11) :
    FAt (w.setCells g (h.length + 2 + 11 * k) (p.map (.int .i64))) g t h { f with live := liveSet f.live k p } := by
  unfold FAt
  rw [setCells_block t _ _ w g _ hf (by rw [List.length_append, fndC_len hl, List.length_map, hp]; omega)]
  congr 3
  rw [List.length_map, hp]
  unfold fndC
  rw [List.take_append, List.take_of_length_le (by omega), List.drop_append, List.drop_eq_nil_of_le (by omega), List.nil_append, show h.length + 2 + 11 * k - h.length = 11 * k + 1 + 1 by omega, show h.length + 2 + 11 * k + 11 - h.length = 11 * k + 11 + 1 + 1 by omega, List.append_assoc]
  congr 1
  simp only [List.take_succ_cons, List.drop_succ_cons, List.cons_append]
  congr 2
  rw [List.take_append_of_le_length (by simp [hl]; omega), List.drop_append_of_le_length (by simp [hl]; omega)]
  unfold liveSet
  simp only [List.map_append, List.map_take, List.map_drop, List.append_assoc]
end

theorem zeros44 : zer 44 = List.replicate 44 0 := rfl
/-- The zero value, as the walk writes it. -/
theorem zeros48 : (#[.bool false, .int .i64 0, .int .i64 0, .int .i64 0, .int .i64 0, .int .i64 0, .int .i64 0, .int .i64 0, .int .i64 0, .int .i64 0, .int .i64 0, .int .i64 0, .int .i64 0, .int .i64 0, .int .i64 0, .int .i64 0, .int .i64 0, .int .i64 0, .int .i64 0, .int .i64 0, .int .i64 0, .int .i64 0, .int .i64 0, .int .i64 0, .int .i64 0, .int .i64 0, .int .i64 0, .int .i64 0, .int .i64 0, .int .i64 0, .int .i64 0, .int .i64 0, .int .i64 0, .int .i64 0, .int .i64 0, .int .i64 0, .int .i64 0, .int .i64 0, .int .i64 0, .int .i64 0, .int .i64 0, .int .i64 0, .int .i64 0, .int .i64 0, .int .i64 0, .int .i64 0, .int .i64 0, .int .i64 0] : Array Value) = fndV fnd0 := by kernel_rfl

theorem infoF1 : (Tryd.prog.info? 28).map (·.size) = some 48 := by kernel_rfl
theorem infoFi : (Tryd.prog.info? 42).map (·.size) = some 49 := by kernel_rfl
theorem infoLive : (Tryd.prog.info? 26).map (·.size) = some 44 := by kernel_rfl

end Go.Proofs.YtihpmnnbiabggaaDoor
