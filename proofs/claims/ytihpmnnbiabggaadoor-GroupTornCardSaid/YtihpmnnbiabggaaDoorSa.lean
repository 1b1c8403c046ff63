
/- slot: records as thirteen numbers: their cells in memory, and the steps that read, write and compare them whole. No condition. -/
import Derived.Test.YtihpmnnbiabggaaDoorAp
import Derived.IntWalk
import Derived.BigQuiet
import Derived.Deep.MidRow
import Derived.DeepKeys
import Derived.Laws.CopyOwn
namespace Go.Proofs.YtihpmnnbiabggaaDoor
open Go.RowKit
set_option maxRecDepth 100000
set_option linter.unusedVariables false

theorem infoRec : (Tryd.prog.info? 50).map (·.size) = some 13 := by kernel_rfl
theorem infoPay : (Tryd.prog.info? 25).map (·.size) = some 11 := by kernel_rfl
theorem ints_size (l : List Int) : (ints l).size = l.length := by simp [ints]
theorem ints_one (l : List Int) : (ints l).all (·.oneCell') = true := by
  refine Array.all_eq_true_iff_forall_mem.2 fun v hv => ?_
  simp only [ints, List.mem_toArray, List.mem_map] at hv
  obtain ⟨k, -, rfl⟩ := hv
  rfl
theorem ints_cell {l : List Int} {k : Nat} (h : k < l.length) : (ints l)[k]? = some (.int .i64 (l.getD k 0)) := ints_get h
theorem ints_mid (l : List Int) (o n : Nat) : (ints l).extract o (o + n) = ints ((l.drop o).take n) := by
  simp only [ints, List.extract_toArray, List.extract_eq_take_drop, ← List.map_drop, ← List.map_take]
  congr 3
  omega

/-- A record in memory; a payload. -/
abbrev RecAt (w : World) (g : Nat) (l : List Int) : Prop := w.heap[g]? = some (.cells (ints l) 50 (0, 0))
abbrev PayAt (w : World) (g : Nat) (l : List Int) : Prop := w.heap[g]? = some (.cells (ints l) 25 (0, 0))

theorem RecAt.cell {w : World} {g : Nat} {l : List Int} (h : RecAt w g l) (k : Nat) (hk : k < l.length) : w.cell? ⟨g, k, none⟩ = some (.int .i64 (l.getD k 0)) := cell_of_block h (ints_cell hk)
theorem PayAt.cell {w : World} {g : Nat} {l : List Int} (h : PayAt w g l) (k : Nat) (hk : k < l.length) : w.cell? ⟨g, k, none⟩ = some (.int .i64 (l.getD k 0)) := cell_of_block h (ints_cell hk)
theorem RecAt.frozen {w : World} {g : Nat} {l : List Int} (h : RecAt w g l) (k : Nat) : w.frozen? ⟨g, k, none⟩ = false := frozen_of_block h k
theorem RecAt.set {w : World} {g : Nat} {l : List Int} (h : RecAt w g l) (k : Nat) (v : Int) : RecAt (w.setCell ⟨g, k, none⟩ (.int .i64 v)) g (l.set k v) := by
  unfold RecAt; rw [heap_setCell_same h, ints_set]
theorem RecAt.keep {F : List Nat} {w w' : World} {g : Nat} {l : List Int} (h : RecAt w g l) (hk : Keeps F w w') (hn : g ∉ F) : RecAt w' g l := hk.held h hn
/-- A record's payload, as numbers behind an address. -/
theorem RecAt.pay {w : World} {g : Nat} {l : List Int} (h : RecAt w g l) (hl : l.length = 13) : IntsAt w (some ⟨g, 2, none⟩) 11 (l.drop 2) := by
  refine ⟨by simp [hl], by simp, ?_⟩
  rintro b o s e hne
  injection e with e
  injection e with e1 e2 e3
  subst e1; subst e2; subst e3
  refine ⟨rfl, fun i hi => ?_⟩
  rw [h.cell (2 + i) (by simp at hi; omega)]
  simp [List.getD]

theorem Keeps.setRowR {F : List Nat} {w w1 : World} (h : Keeps F w w1) {g : Nat} (hg : g ∈ F ∨ w.heap.size ≤ g) (cs : Array Value) : Keeps F w (w1.setRow g cs) :=
  ⟨h.os, h.output, by simpa using h.size, fun i hi hn => by
    have : (w1.setRow g cs).heap[i]? = w1.heap[i]? := setRow_other w1 g i cs (by rintro rfl; rcases hg with hg | hg; exact hn hg; omega)
    exact this.trans (h.block i hi hn)⟩

section
variable {ops : Array Oper} {rest : List Oper} {o : Oper} {a : Act} {w : World} {Q : Exit → Act → World → Prop}

/-- A whole record is read. -/
theorem ld_rec (x : Operand) {g : Nat} {l : List Int} (hg : RecAt w g l) (hl : l.length = 13) (hgd : Region.wanted o (yielded ops a.tmps) = true) (ho : o.op = .load 50 x) (hx : a.eval x = .pointer (some ⟨g, 0, none⟩))
    (h : wpList Tryd.prog ops Q rest (a.put o.dst (.agg (ints l))) w) : wpList Tryd.prog ops Q (o :: rest) a w := by
  refine wpList_step fun K hK => ?_
  rw [if_pos hgd]
  exact wp_load_row 50 x ho g hx 50 (ints l) (0, 0) _ hg Tryd.underlying50 rfl (by rw [ints_size, hl]; exact infoRec) (hK _ _ h)
/-- A whole payload is read. -/
theorem ld_pay (x : Operand) {g : Nat} {l : List Int} (hg : PayAt w g l) (hl : l.length = 11) (hgd : Region.wanted o (yielded ops a.tmps) = true) (ho : o.op = .load 25 x) (hx : a.eval x = .pointer (some ⟨g, 0, none⟩))
    (h : wpList Tryd.prog ops Q rest (a.put o.dst (.agg (ints l))) w) : wpList Tryd.prog ops Q (o :: rest) a w := by
  refine wpList_step fun K hK => ?_
  rw [if_pos hgd]
  exact wp_load_row 25 x ho g hx 25 (ints l) (0, 0) _ hg Tryd.underlying25 rfl (by rw [ints_size, hl]; exact infoPay) (hK _ _ h)
/-- A whole record is written. -/
theorem st_rec (x y : Operand) {g : Nat} {l l' : List Int} (hg : RecAt w g l) (hl : l.length = 13) (hl' : l'.length = 13) (hgd : o.guard = none) (ho : o.op = .store 50 x y) (hx : a.eval x = .pointer (some ⟨g, 0, none⟩)) (hy : a.eval y = .agg (ints l'))
    (h : ∀ w', RecAt w' g l' → Keeps [g] w w' → w'.heap.size = w.heap.size → wpList Tryd.prog ops Q rest (a.put o.dst undef) w') : wpList Tryd.prog ops Q (o :: rest) a w :=
  wpList_store_row hgd 50 x y ho g (ints l') hx hy 50 (ints l) hg (by rw [ints_size, hl']; exact infoRec) (by rw [ints_size, ints_size, hl, hl']) (ints_one l')
    (h _ (setRow_heap w g (ints l) (ints l') _ _ hg) ((Keeps.refl _ _).setRowR (.inl (by simp)) _) (by simp))
/-- A whole payload is written. -/
theorem st_pay (x y : Operand) {g : Nat} {l l' : List Int} (hg : PayAt w g l) (hl : l.length = 11) (hl' : l'.length = 11) (hgd : o.guard = none) (ho : o.op = .store 25 x y) (hx : a.eval x = .pointer (some ⟨g, 0, none⟩)) (hy : a.eval y = .agg (ints l'))
    (h : ∀ w', PayAt w' g l' → Keeps [g] w w' → w'.heap.size = w.heap.size → wpList Tryd.prog ops Q rest (a.put o.dst undef) w') : wpList Tryd.prog ops Q (o :: rest) a w :=
  wpList_store_row hgd 25 x y ho g (ints l') hx hy 25 (ints l) hg (by rw [ints_size, hl']; exact infoPay) (by rw [ints_size, ints_size, hl, hl']) (ints_one l')
    (h _ (setRow_heap w g (ints l) (ints l') _ _ hg) ((Keeps.refl _ _).setRowR (.inl (by simp)) _) (by simp))
end

/-- A result that is a payload, a record: read out of its variable. -/
theorem ret_pay {fn : Func} {p : Tmp} (h : fn.results = #[.cell p 25]) {tmps : Array Value} {w : World} {g : Nat} {l : List Int} (hg : PayAt w g l) (hl : l.length = 11) (hp : tmps.getD p undef = .pointer (some ⟨g, 0, none⟩)) :
    (results fn tmps).run Tryd.prog w = .ok (.agg (ints l)) w :=
  results_cell_row h tmps w g 25 (ints l) (0, 0) _ hp hg Tryd.underlying25 rfl (by rw [ints_size, hl]; exact infoPay)

/-- Records are compared number by number. -/
theorem items_eq (w : World) (d : Nat) (xs ys : List Int) : ∀ is : List Nat, (∀ i ∈ is, i < xs.length ∧ i < ys.length) →
    (Op.eqItems (d + 1) 3 1 (ints xs) (ints ys) is).run Tryd.prog w = .ok (is.all fun i => xs.getD i 0 == ys.getD i 0) w := by
  have hp : Tryd.prog.plainKey 3 = true := by kernel_rfl
  intro is
  induction is with
  | nil => intro _; simp [Op.eqItems]
  | cons i is ih =>
    intro h
    have h1 := (h i (by simp)).1
    have h2 := (h i (by simp)).2
    simp only [Op.eqItems, Sem.run_bind, run_part_plain w hp (show (ints xs)[i * 1]? = _ by rw [Nat.mul_one]; exact ints_get h1), run_part_plain w hp (show (ints ys)[i * 1]? = _ by rw [Nat.mul_one]; exact ints_get h2), Result.andThen_ok,
      run_equalIn_int w d 3 .i64 .i64 _ _ Tryd.underlying3]
    rw [List.all_cons]
    cases hb : (xs.getD i 0 == ys.getD i 0)
    · simp
    · simpa using ih (fun j hj => h j (by simp [hj]))


theorem cellsI : Tryd.prog.cellsOf 3 = 1 := by kernel_rfl
theorem fieldsRec : (Tryd.prog.fieldsOf 50).toList.map (fun f => (f.name == "_", f.type, f.offset)) = [(false, 3, 0), (false, 3, 1), (false, 25, 2)] := by kernel_rfl
theorem structRec : Tryd.prog.underlying 50 = some (.struct (Tryd.prog.fieldsOf 50)) := by kernel_rfl
theorem notStood : Tryd.prog.stoodInHeld 50 = false := by kernel_rfl
theorem guardRec : Tryd.prog.eqGuardType Tryd.prog.depth 50 = false := by kernel_rfl
theorem fields3 : ∃ f1 f2 f3 : Field, (Tryd.prog.fieldsOf 50).toList = [f1, f2, f3] ∧ (f1.name ≠ "_" ∧ f1.type = 3 ∧ f1.offset = 0) ∧ (f2.name ≠ "_" ∧ f2.type = 3 ∧ f2.offset = 1) ∧ (f3.name ≠ "_" ∧ f3.type = 25 ∧ f3.offset = 2) := by
  have h := fieldsRec
  generalize (Tryd.prog.fieldsOf 50).toList = L at h
  obtain ⟨f1, L1, rfl, a1, h⟩ := List.map_eq_cons_iff.1 h
  obtain ⟨f2, L2, rfl, a2, h⟩ := List.map_eq_cons_iff.1 h
  obtain ⟨f3, L3, rfl, a3, h⟩ := List.map_eq_cons_iff.1 h
  obtain rfl := List.map_eq_nil_iff.1 h
  simp only [Prod.mk.injEq, beq_eq_false_iff_ne, ne_eq] at a1 a2 a3
  exact ⟨f1, f2, f3, rfl, a1, a2, a3⟩
theorem getD_ext {xs ys : List Int} {n : Nat} (hx : xs.length = n) (hy : ys.length = n) (h : ∀ i, i < n → xs.getD i 0 = ys.getD i 0) : xs = ys := by
  refine List.ext_getElem (by omega) fun i h1 h2 => ?_
  have := h i (by omega)
  simpa [List.getD, h1, h2] using this
theorem isAggPay (w : World) : (isAgg 25).run Tryd.prog w = .ok true w := by
  unfold isAgg
  rw [Sem.run_bind, run_underlying Tryd.underlying25 w]
  rfl
theorem run_part_pay (w : World) (l : List Int) : (part 25 (ints l) 2).run Tryd.prog w = .ok (.agg (ints ((l.drop 2).take 11))) w := by
  cases hq : Tryd.prog.info? 25 with
  | none => have := infoPay; simp [hq] at this
  | some i =>
    have hs : i.size = 11 := by have := infoPay; simpa [hq] using this
    simp only [part, Sem.run_bind, isAggPay, Result.andThen_ok, if_true, sizeOf, typeInfo, hq, hs, Sem.run_pure, run_program]
    rw [ints_mid]
theorem rec_equal (w : World) (xs ys : List Int) (hx : xs.length = 13) (hy : ys.length = 13) : (Op.equalIn 10000 50 (.agg (ints xs)) (.agg (ints ys))).run Tryd.prog w = .ok (decide (xs = ys)) w := by
  obtain ⟨f1, f2, f3, hF, ⟨n1, t1, o1⟩, ⟨n2, t2, o2⟩, ⟨n3, t3, o3⟩⟩ := fields3
  have hp : Tryd.prog.plainKey 3 = true := by kernel_rfl
  obtain ⟨i, hi⟩ : ∃ i, Tryd.prog.info? 3 = some i := by
    cases h : Tryd.prog.info? 3 with
    | none => have := Tryd.info3; simp [h] at this
    | some i => exact ⟨i, rfl⟩
  have e1 := run_part_plain w hp (ints_get (l := xs) (i := 0) (by omega))
  have e2 := run_part_plain w hp (ints_get (l := ys) (i := 0) (by omega))
  have e3 := run_part_plain w hp (ints_get (l := xs) (i := 1) (by omega))
  have e4 := run_part_plain w hp (ints_get (l := ys) (i := 1) (by omega))
  have e5 := run_equalIn_int w 9998 3 .i64 .i64 (xs.getD 0 0) (ys.getD 0 0) Tryd.underlying3
  have e6 := run_equalIn_int w 9998 3 .i64 .i64 (xs.getD 1 0) (ys.getD 1 0) Tryd.underlying3
  have e7 := run_equalIn_array w 9998 (ints ((xs.drop 2).take 11)) (ints ((ys.drop 2).take 11)) Tryd.underlying25 hi
  rw [cellsI, items_eq w 9997 _ _ _ (by intro i hi; simp at hi; simp; omega)] at e7
  rw [run_equalIn_struct w 9999 _ _ _ structRec notStood, hF]
  simp only [Op.eqFields, n1, n2, n3, t1, t2, t3, o1, o2, o3, ne_eq, not_false_eq_true, if_true, Sem.run_bind, Result.andThen_ok, e1, e2, e5]
  have hfin : decide (xs = ys) = ((xs.getD 0 0 == ys.getD 0 0) && ((xs.getD 1 0 == ys.getD 1 0) && (List.range 11).all fun i => ((xs.drop 2).take 11).getD i 0 == ((ys.drop 2).take 11).getD i 0)) := by
    rw [Bool.eq_iff_iff]
    simp only [decide_eq_true_eq, Bool.and_eq_true, beq_iff_eq, List.all_eq_true, List.mem_range]
    constructor
    · rintro rfl; exact ⟨rfl, rfl, fun _ _ => rfl⟩
    · rintro ⟨h0, h1, h2⟩
      refine getD_ext hx hy fun i hi => ?_
      rcases i with _ | _ | i
      · exact h0
      · exact h1
      · have := h2 i (by omega)
        rw [show i + 1 + 1 = 2 + i by omega]
        simpa [List.getD, List.getElem?_take, show i < 11 by omega] using this
  rw [hfin]
  cases (xs.getD 0 0 == ys.getD 0 0)
  · simp
  · simp only [Bool.not_true, Bool.false_eq_true, if_false, Sem.run_bind, e3, e4, e6, Result.andThen_ok, Bool.true_and]
    cases (xs.getD 1 0 == ys.getD 1 0)
    · simp
    · simp only [Bool.not_true, Bool.false_eq_true, if_false, Sem.run_bind, run_part_pay, e7, Result.andThen_ok, Bool.true_and]
      cases ((List.range 11).all fun i => ((xs.drop 2).take 11).getD i 0 == ((ys.drop 2).take 11).getD i 0) <;> simp

section
variable {ops : Array Oper} {rest : List Oper} {o : Oper} {a : Act} {w : World} {Q : Exit → Act → World → Prop}

/-- Two records are compared. -/
theorem eq_rec (x y : Operand) (t : TypeId) {l l' : List Int} (hl : l.length = 13) (hl' : l'.length = 13) (hgd : Region.wanted o (yielded ops a.tmps) = true) (ho : o.op = .binOp .eql 50 x y t) (hx : a.eval x = .agg (ints l)) (hy : a.eval y = .agg (ints l'))
    (h : wpList Tryd.prog ops Q rest (a.put o.dst (.bool (decide (l = l')))) w) : wpList Tryd.prog ops Q (o :: rest) a w := by
  refine wpList_step fun K hK => ?_
  rw [if_pos hgd]
  unfold Oper.wp execOp
  simp only [ho, hx, hy, Sem.run_bind, run_eqGuard_agg w .eql 50 x y _ _ guardRec, Result.andThen_ok, run_eql_struct, rec_equal w l l' hl hl']
  exact hK _ _ h
theorem ne_rec (x y : Operand) (t : TypeId) {l l' : List Int} (hl : l.length = 13) (hl' : l'.length = 13) (hgd : Region.wanted o (yielded ops a.tmps) = true) (ho : o.op = .binOp .neq 50 x y t) (hx : a.eval x = .agg (ints l)) (hy : a.eval y = .agg (ints l'))
    (h : wpList Tryd.prog ops Q rest (a.put o.dst (.bool (!decide (l = l')))) w) : wpList Tryd.prog ops Q (o :: rest) a w := by
  refine wpList_step fun K hK => ?_
  rw [if_pos hgd]
  unfold Oper.wp execOp
  simp only [ho, hx, hy, Sem.run_bind, run_eqGuard_agg w .neq 50 x y _ _ guardRec, Result.andThen_ok, run_neq_struct, rec_equal w l l' hl hl']
  exact hK _ _ h
end

end Go.Proofs.YtihpmnnbiabggaaDoor
