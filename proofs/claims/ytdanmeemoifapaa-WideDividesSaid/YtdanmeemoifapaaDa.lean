/- The document's wide numbers: twenty digits of one byte: their cells in memory, and the steps that read and write them whole. No condition. -/
import Derived.Test.YtdanmeemoifapaaKp
import Derived.IntWalk
import Derived.BigQuiet
import Derived.Deep.MidRow
import Derived.DeepKeys
namespace Go.Proofs.Ytdanmeemoifapaa
open Go.RowKit
set_option linter.unusedVariables false

/-- Twenty cells. -/
def arr (f : Nat → Int) : Array Value := ((List.range 20).map fun k => Value.int .i64 (f k)).toArray
/-- A sign and twenty cells. -/
def numA (m : Bool) (f : Nat → Int) : Array Value := (Value.bool m :: (List.range 20).map fun k => Value.int .i64 (f k)).toArray

theorem arr_size (f : Nat → Int) : (arr f).size = 20 := by simp [arr]
theorem numA_size (m : Bool) (f : Nat → Int) : (numA m f).size = 21 := by simp [numA]
theorem arr_get (f : Nat → Int) (k : Nat) (h : k < 20) : (arr f)[k]? = some (.int .i64 (f k)) := by simp [arr, h]
theorem numA_get0 (m : Bool) (f : Nat → Int) : (numA m f)[0]? = some (.bool m) := by simp [numA]
theorem numA_get (m : Bool) (f : Nat → Int) (k : Nat) (h : k < 20) : (numA m f)[1 + k]? = some (.int .i64 (f k)) := by
  rw [Nat.add_comm]; simp [numA, h]
theorem arr_congr {f g : Nat → Int} (h : ∀ k, k < 20 → f k = g k) : arr f = arr g := by
  unfold arr
  congr 1
  refine List.map_congr_left fun k hk => ?_
  rw [h k (by simpa using hk)]
theorem numA_congr {m : Bool} {f g : Nat → Int} (h : ∀ k, k < 20 → f k = g k) : numA m f = numA m g := by
  unfold numA
  congr 2
  refine List.map_congr_left fun k hk => ?_
  rw [h k (by simpa using hk)]
theorem arr_set (f : Nat → Int) (k : Nat) (v : Int) : (arr f).setIfInBounds k (.int .i64 v) = arr (fun j => if j = k then v else f j) := by
  apply Array.ext
  · simp [arr]
  · intro i h1 h2
    have hi : i < 20 := by simpa [arr] using h2
    rw [Array.getElem_setIfInBounds]
    · split
      · rename_i h
        subst h
        simp [arr]
      · rename_i h
        simp [arr, show ¬ i = k from fun e => h e.symm]
    · simpa [arr] using hi
theorem numA_set (m : Bool) (f : Nat → Int) (k : Nat) (v : Int) : (numA m f).setIfInBounds (1 + k) (.int .i64 v) = numA m (fun j => if j = k then v else f j) := by
  apply Array.ext
  · simp [numA]
  · intro i h1 h2
    have hi : i < 21 := by simpa [numA] using h2
    rw [Array.getElem_setIfInBounds]
    · cases i with
      | zero => rw [if_neg (by omega)]; simp [numA]
      | succ i =>
        split
        · rename_i h
          have : k = i := by omega
          subst this
          simp [numA]
        · rename_i h
          simp [numA, show ¬ i = k by omega]
    · simpa [numA] using hi
theorem arr_one (f : Nat → Int) : (arr f).all (·.oneCell') = true := by
  refine Array.all_eq_true_iff_forall_mem.2 fun v hv => ?_
  simp only [arr, List.mem_toArray, List.mem_map] at hv
  obtain ⟨k, -, rfl⟩ := hv
  rfl
theorem numA_one (m : Bool) (f : Nat → Int) : (numA m f).all (·.oneCell') = true := by
  refine Array.all_eq_true_iff_forall_mem.2 fun v hv => ?_
  simp only [numA, List.mem_toArray, List.mem_cons, List.mem_map] at hv
  rcases hv with rfl | ⟨k, -, rfl⟩ <;> rfl

theorem infoArr : (Try.prog.info? 27).map (·.size) = some 20 := by kernel_rfl
theorem infoNum : (Try.prog.info? 29).map (·.size) = some 21 := by kernel_rfl

abbrev ArrAt (w : World) (g : Nat) (f : Nat → Int) : Prop := w.heap[g]? = some (.cells (arr f) 27 (0, 0))
abbrev NumAt (w : World) (g : Nat) (m : Bool) (f : Nat → Int) : Prop := w.heap[g]? = some (.cells (numA m f) 29 (0, 0))

theorem ArrAt.cell {w : World} {g : Nat} {f : Nat → Int} (h : ArrAt w g f) (k : Nat) (hk : k < 20) : w.cell? ⟨g, k, none⟩ = some (.int .i64 (f k)) := cell_of_block h (arr_get f k hk)
theorem NumAt.cell {w : World} {g : Nat} {m : Bool} {f : Nat → Int} (h : NumAt w g m f) (k : Nat) (hk : k < 20) : w.cell? ⟨g, 1 + k, none⟩ = some (.int .i64 (f k)) := cell_of_block h (numA_get m f k hk)
theorem NumAt.sign {w : World} {g : Nat} {m : Bool} {f : Nat → Int} (h : NumAt w g m f) : w.cell? ⟨g, 0, none⟩ = some (.bool m) := cell_of_block h (numA_get0 m f)
theorem ArrAt.set {w : World} {g : Nat} {f : Nat → Int} (h : ArrAt w g f) (k : Nat) (v : Int) : ArrAt (w.setCell ⟨g, k, none⟩ (.int .i64 v)) g (fun j => if j = k then v else f j) := by
  unfold ArrAt; rw [heap_setCell_same h, arr_set]
theorem NumAt.set {w : World} {g : Nat} {m : Bool} {f : Nat → Int} (h : NumAt w g m f) (k : Nat) (v : Int) : NumAt (w.setCell ⟨g, 1 + k, none⟩ (.int .i64 v)) g m (fun j => if j = k then v else f j) := by
  unfold NumAt; rw [heap_setCell_same h, numA_set]
theorem ArrAt.congr {w : World} {g : Nat} {f f' : Nat → Int} (h : ArrAt w g f) (e : ∀ k, k < 20 → f k = f' k) : ArrAt w g f' := by
  unfold ArrAt; rw [← arr_congr e]; exact h
theorem NumAt.congr {w : World} {g : Nat} {m : Bool} {f f' : Nat → Int} (h : NumAt w g m f) (e : ∀ k, k < 20 → f k = f' k) : NumAt w g m f' := by
  unfold NumAt; rw [← numA_congr e]; exact h

section
variable {ops : Array Oper} {rest : List Oper} {o : Oper} {a : Act} {w : World} {Q : Exit → Act → World → Prop}

/-- A whole array is read. -/
theorem ld_arr (x : Operand) {g : Nat} {f : Nat → Int} (hg : ArrAt w g f) (hgd : o.guard = none) (ho : o.op = .load 27 x) (hx : a.eval x = .pointer (some ⟨g, 0, none⟩))
    (h : wpList Try.prog ops Q rest (a.put o.dst (.agg (arr f))) w) : wpList Try.prog ops Q (o :: rest) a w :=
  wpList_load_row hgd 27 x ho g hx 27 (arr f) (0, 0) _ hg Try.underlying27 rfl (by rw [arr_size]; exact infoArr) h
/-- A whole number is read. -/
theorem ld_num (x : Operand) {g : Nat} {m : Bool} {f : Nat → Int} (hg : NumAt w g m f) (hgd : o.guard = none) (ho : o.op = .load 29 x) (hx : a.eval x = .pointer (some ⟨g, 0, none⟩))
    (h : wpList Try.prog ops Q rest (a.put o.dst (.agg (numA m f))) w) : wpList Try.prog ops Q (o :: rest) a w :=
  wpList_load_row hgd 29 x ho g hx 29 (numA m f) (0, 0) _ hg Try.underlying29 rfl (by rw [numA_size]; exact infoNum) h

theorem NumAt.range {g : Nat} {m : Bool} {f : Nat → Int} (h : NumAt w g m f) : w.rangeAt g 1 (arr f).toList := by
  have := World.rangeAt_of_block h 1 20
  have e : ((numA m f).extract 1 (1 + 20)).toList = (arr f).toList := by
    simp [numA, arr]
    exact List.take_of_length_le (by simp)
  rwa [e] at this
/-- A number's array is read. -/
theorem ld_mid (x : Operand) {g : Nat} {m : Bool} {f : Nat → Int} (hg : NumAt w g m f) (hgd : o.guard = none) (ho : o.op = .load 27 x) (hx : a.eval x = .pointer (some ⟨g, 1, none⟩))
    (h : wpList Try.prog ops Q rest (a.put o.dst (.agg (arr f))) w) : wpList Try.prog ops Q (o :: rest) a w :=
  wpList_load_mid hgd 27 x ho g 1 hx (arr f).toList _ hg.range Try.underlying27 rfl (by rw [Array.length_toList, arr_size]; exact infoArr) (by simpa using h)

theorem Keeps.setRow {F : List Nat} {w w1 : World} (h : Keeps F w w1) {g : Nat} (hg : g ∈ F ∨ w.heap.size ≤ g) (cs : Array Value) : Keeps F w (w1.setRow g cs) :=
  ⟨h.os, h.output, by simpa using h.size, fun i hi hn => by
    have : (w1.setRow g cs).heap[i]? = w1.heap[i]? := setRow_other w1 g i cs (by rintro rfl; rcases hg with hg | hg; exact hn hg; omega)
    exact this.trans (h.block i hi hn)⟩

/-- A whole array is written. -/
theorem st_arr (x y : Operand) {g : Nat} {f f' : Nat → Int} (hg : ArrAt w g f) (hgd : o.guard = none) (ho : o.op = .store 27 x y) (hx : a.eval x = .pointer (some ⟨g, 0, none⟩)) (hy : a.eval y = .agg (arr f'))
    (h : ∀ w', ArrAt w' g f' → Keeps [g] w w' → w'.heap.size = w.heap.size → wpList Try.prog ops Q rest (a.put o.dst undef) w') : wpList Try.prog ops Q (o :: rest) a w :=
  wpList_store_row hgd 27 x y ho g (arr f') hx hy 27 (arr f) hg (by rw [arr_size]; exact infoArr) (by rw [arr_size, arr_size]) (arr_one f')
    (h _ (setRow_heap w g (arr f) (arr f') _ _ hg) ((Keeps.refl _ _).setRow (.inl (by simp)) _) (by simp))
/-- A whole number is written. -/
theorem st_num (x y : Operand) {g : Nat} {m m' : Bool} {f f' : Nat → Int} (hg : NumAt w g m f) (hgd : o.guard = none) (ho : o.op = .store 29 x y) (hx : a.eval x = .pointer (some ⟨g, 0, none⟩)) (hy : a.eval y = .agg (numA m' f'))
    (h : ∀ w', NumAt w' g m' f' → Keeps [g] w w' → w'.heap.size = w.heap.size → wpList Try.prog ops Q rest (a.put o.dst undef) w') : wpList Try.prog ops Q (o :: rest) a w :=
  wpList_store_row hgd 29 x y ho g (numA m' f') hx hy 29 (numA m f) hg (by rw [numA_size]; exact infoNum) (by rw [numA_size, numA_size]) (numA_one m' f')
    (h _ (setRow_heap w g (numA m f) (numA m' f') _ _ hg) ((Keeps.refl _ _).setRow (.inl (by simp)) _) (by simp))

end

/-- A result that is an array, a number: read out of its variable. -/
theorem ret_arr {fn : Func} {p : Tmp} (h : fn.results = #[.cell p 27]) {tmps : Array Value} {w : World} {g : Nat} {f : Nat → Int} (hg : ArrAt w g f) (hp : tmps.getD p undef = .pointer (some ⟨g, 0, none⟩)) :
    (results fn tmps).run Try.prog w = .ok (.agg (arr f)) w :=
  results_cell_row h tmps w g 27 (arr f) (0, 0) _ hp hg Try.underlying27 rfl (by rw [arr_size]; exact infoArr)
theorem ret_num {fn : Func} {p : Tmp} (h : fn.results = #[.cell p 29]) {tmps : Array Value} {w : World} {g : Nat} {m : Bool} {f : Nat → Int} (hg : NumAt w g m f) (hp : tmps.getD p undef = .pointer (some ⟨g, 0, none⟩)) :
    (results fn tmps).run Try.prog w = .ok (.agg (numA m f)) w :=
  results_cell_row h tmps w g 29 (numA m f) (0, 0) _ hp hg Try.underlying29 rfl (by rw [numA_size]; exact infoNum)

end Go.Proofs.Ytdanmeemoifapaa
