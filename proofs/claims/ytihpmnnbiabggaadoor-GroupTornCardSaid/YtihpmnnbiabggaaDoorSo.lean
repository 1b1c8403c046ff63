
/- slot: look: what is read, with the words that it is read from: the contract. No condition but the table of the sums, and that all are numbers of 64 bits. -/
import Derived.Test.YtihpmnnbiabggaaDoorSl
import Derived.Deep.RegionHeld3
import Derived.Deep.Cut
namespace Go.Proofs.YtihpmnnbiabggaaDoor
open Go.RowKit
set_option maxRecDepth 100000
set_option linter.unusedVariables false

/-- What is read, in memory: words, and a record. -/
def readA (v : Value) (r : List Int) : Array Value := (v :: r.map (Value.int .i64)).toArray
abbrev RdAt (w : World) (g : Nat) (v : Value) (r : List Int) : Prop := w.heap[g]? = some (.cells (readA v r) 77 (0, 0))
theorem RdAt.keep {w w' : World} {g : Nat} {v : Value} {r : List Int} (h : RdAt w g v r) (hk : Keeps [] w w') : RdAt w' g v r := hk.held h (by simp)
theorem infoRd : (Tryd.prog.info? 77).map (·.size) = some 14 := by kernel_rfl
theorem readA_size (v : Value) (r : List Int) : (readA v r).size = r.length + 1 := by simp [readA]
theorem readA_one (v : Value) (r : List Int) (hv : v.oneCell' = true) : (readA v r).all (·.oneCell') = true := by
  refine Array.all_eq_true_iff_forall_mem.2 fun u hu => ?_
  simp only [readA, List.mem_toArray, List.mem_cons, List.mem_map] at hu
  rcases hu with rfl | ⟨k, -, rfl⟩
  · exact hv
  · rfl
theorem rd_first {w : World} {g : Nat} {v : Value} {r : List Int} (h : RdAt w g v r) : w.cell? ⟨g, 0, none⟩ = some v := cell_of_block h (by simp [readA])
theorem rd_range {w : World} {g : Nat} {v : Value} {r : List Int} (h : RdAt w g v r) : w.rangeAt g 1 (r.map (Value.int .i64)) := by
  intro j u hu
  refine cell_of_block h ?_
  rw [Nat.add_comm]
  simpa [readA] using hu
theorem there_rd {w : World} {g : Nat} {v : Value} {r : List Int} {n : Nat} (h : RdAt w g v r) (hr : r.length = 13) (hn : n = 13) : w.there g 1 n := by
  subst hn
  intro j hj
  refine ⟨?_, frozen_of_block h _⟩
  have e : (r.map (Value.int .i64))[j]? = some ((r.map (Value.int .i64))[j]'(by simp; omega)) := List.getElem?_eq_getElem _
  rw [rd_range h j _ e]
  rfl

/-- Cells that are written one behind the other. -/
def foldSet (x : Array Value) : Nat → List Value → Array Value
  | _, [] => x
  | o, v :: vs => foldSet (x.setIfInBounds o v) (o + 1) vs
theorem heap_setCells {g : Nat} {t : TypeId} {fr : Nat × Nat} : ∀ (vs : List Value) (o : Nat) (w : World) (x : Array Value), w.heap[g]? = some (.cells x t fr) → (w.setCells g o vs).heap[g]? = some (.cells (foldSet x o vs) t fr)
  | [], _, _, _, h => h
  | v :: vs, o, w, x, h => heap_setCells vs (o + 1) _ _ (heap_setCell_same h v)
theorem foldSet_mid : ∀ (new pre old : List Value), old.length = new.length → foldSet (pre ++ old).toArray pre.length new = (pre ++ new).toArray
  | [], pre, old, h => by
    have : old = [] := List.length_eq_zero_iff.1 h
    subst this
    rfl
  | v :: new, pre, [], h => by simp at h
  | v :: new, pre, u :: old, h => by
    have ih := foldSet_mid new (pre ++ [v]) old (by simpa using h)
    simp only [List.length_append, List.length_singleton, List.append_assoc, List.singleton_append] at ih
    rw [foldSet, ← ih]
    congr 1
    simp
theorem Keeps.setCells {F : List Nat} {g : Nat} : ∀ (vs : List Value) (o : Nat) {w w1 : World}, Keeps F w w1 → (g ∈ F ∨ w.heap.size ≤ g) → Keeps F w (w1.setCells g o vs)
  | [], _, _, _, h, _ => h
  | v :: vs, o, _, _, h, hg => Keeps.setCells vs (o + 1) (h.setCell hg v) hg
theorem rd_set {w : World} {g : Nat} {v : Value} {r : List Int} (h : RdAt w g v r) (hr : r.length = 13) (r' : List Int) (hr' : r'.length = 13) : RdAt (w.setCells g 1 (ints r').toList) g v r' ∧ Keeps [g] w (w.setCells g 1 (ints r').toList) := by
  refine ⟨?_, Keeps.setCells _ _ (Keeps.refl _ _) (.inl (by simp))⟩
  unfold RdAt
  rw [heap_setCells _ _ _ _ h]
  have := foldSet_mid (r'.map (Value.int .i64)) [v] (r.map (.int .i64)) (by simp [hr, hr'])
  congr 2

section
variable {ops : Array Oper} {rest : List Oper} {o : Oper} {a : Act} {w : World} {Q : Exit → Act → World → Prop}
/-- What is read, loaded whole. -/
theorem ld_rd (x : Operand) {g : Nat} {v : Value} {l : List Int} (hg : RdAt w g v l) (hl : l.length = 13) (hgd : Region.wanted o (yielded ops a.tmps) = true) (ho : o.op = .load 77 x) (hx : a.eval x = .pointer (some ⟨g, 0, none⟩))
    (h : wpList Tryd.prog ops Q rest (a.put o.dst (.agg (readA v l))) w) : wpList Tryd.prog ops Q (o :: rest) a w := by
  refine wpList_step fun K hK => ?_
  rw [if_pos hgd]
  exact wp_load_row 77 x ho g hx 77 (readA v l) (0, 0) _ hg Tryd.underlying77 rfl (by rw [readA_size, hl]; exact infoRd) (hK _ _ h)
/-- .. stored whole. -/
theorem st_rd (x y : Operand) {g : Nat} {v v' : Value} {l l' : List Int} (hg : RdAt w g v l) (hl : l.length = 13) (hl' : l'.length = 13) (hv : v'.oneCell' = true) (hgd : o.guard = none) (ho : o.op = .store 77 x y) (hx : a.eval x = .pointer (some ⟨g, 0, none⟩)) (hy : a.eval y = .agg (readA v' l'))
    (h : ∀ w', RdAt w' g v' l' → Keeps [g] w w' → w'.heap.size = w.heap.size → wpList Tryd.prog ops Q rest (a.put o.dst undef) w') : wpList Tryd.prog ops Q (o :: rest) a w :=
  wpList_store_row hgd 77 x y ho g (readA v' l') hx hy 77 (readA v l) hg (by rw [readA_size, hl']; exact infoRd) (by rw [readA_size, readA_size, hl, hl']) (readA_one v' l' hv)
    (h _ (setRow_heap w g (readA v l) (readA v' l') _ _ hg) ((Keeps.refl _ _).setRowR (.inl (by simp)) _) (by simp))
/-- Its record, loaded. -/
theorem ld_rdrec (x : Operand) {g : Nat} {v : Value} {l : List Int} (hg : RdAt w g v l) (hl : l.length = 13) (hgd : o.guard = none) (ho : o.op = .load 50 x) (hx : a.eval x = .pointer (some ⟨g, 1, none⟩))
    (h : wpList Tryd.prog ops Q rest (a.put o.dst (.agg (ints l))) w) : wpList Tryd.prog ops Q (o :: rest) a w :=
  wpList_load_mid hgd 50 x ho g 1 hx (l.map (Value.int .i64)) _ (rd_range hg) Tryd.underlying50 rfl (by rw [List.length_map, hl]; exact infoRec) h
end
theorem ret_rd {fn : Func} {p : Tmp} (h : fn.results = #[.cell p 77]) {tmps : Array Value} {w : World} {g : Nat} {v : Value} {l : List Int} (hg : RdAt w g v l) (hl : l.length = 13) (hp : tmps.getD p undef = .pointer (some ⟨g, 0, none⟩)) :
    (results fn tmps).run Tryd.prog w = .ok (.agg (readA v l)) w :=
  results_cell_row h tmps w g 77 (readA v l) (0, 0) _ hp hg Tryd.underlying77 rfl (by rw [readA_size, hl]; exact infoRd)

theorem rd_lit (v : Value) : (#[v, .int .i64 0, .int .i64 0, .int .i64 0, .int .i64 0, .int .i64 0, .int .i64 0, .int .i64 0, .int .i64 0, .int .i64 0, .int .i64 0, .int .i64 0, .int .i64 0, .int .i64 0] : Array Value) = readA v (zer 13) := rfl

/-- A call of a function of one argument by its contract. -/
theorem wp_call_one {o : Oper} {a : Act} {w : World} {K : Act → World → Prop} {Q : Exit → Act → World → Prop} (f : FuncId) (y1 : Operand) (ats : Array TypeId) (ho : o.op = .call { callee := .value (.func f), args := #[y1], argTypes := ats })
    (v1 : Value) (h1 : a.eval y1 = v1) (hent : ∀ w, (callFunc f #[v1]).run Tryd.prog w = .ok (.enter f #[v1]) w) {v : Value}
    (hc : Calls Tryd.prog f #[v1] w fun e w' => e = .returned v ∧ Keeps [] w w') (h : ∀ w', Keeps [] w w' → K (a.put o.dst v) w') : o.wp Tryd.prog a w K Q := by
  obtain ⟨dst, op, ty, pos, after, guard⟩ := o
  subst ho
  unfold Oper.wp
  have ha : #[] ++ #[y1].map a.eval ++ #[] = #[v1] := by simp [h1]
  rw [execOp_call_go, ha, hent]
  refine Calls.mono hc ?_
  rintro e w' ⟨rfl, k⟩
  exact h w' k

/-- A record is made of its parts, in a region that draws its order. -/
theorem yields_rec {ops : Array Oper} {S : World → Prop} {o : Oper} {a : Act} {k s : Int} {p : List Int} (hw : Region.wanted o (yielded ops a.tmps) = true) (y1 y2 y3 : Operand) (ho : o.op = .build 50 #[(0, y1), (1, y2), (2, y3)])
    (hp : p.length = 11) (h1 : a.eval y1 = .int .i64 k) (h2 : a.eval y2 = .int .i64 s) (h3 : a.eval y3 = .agg (ints p)) : YieldsIf Tryd.prog ops S o (.agg (ints (k :: s :: p))) a :=
  .inl ⟨hw, fun w _ => by
    have hp' : (#[(0, y1), (1, y2), (2, y3)].map fun (p : Nat × Operand) => (p.1, a.eval p.2)) = #[(0, .int .i64 k), (1, .int .i64 s), (2, .agg (ints p))] := by simp [h1, h2, h3]
    unfold execOp
    simp only [ho]
    rw [show (#[(0, y1), (1, y2), (2, y3)].map fun (x : Nat × Operand) => match x with | (i, x) => (i, a.eval x)) = #[(0, .int .i64 k), (1, .int .i64 s), (2, .agg (ints p))] from hp']
    simp only [Sem.run_bind, run_build w 50 _ (ints (k :: s :: p)) (built_rec k s hp), Result.andThen_ok, Sem.run_pure]⟩

/-- The record that is read of sixteen words, right or not. -/
def lookL (xs : List Int) : List Int := wrap64 (xs.getD 0 0 - 23040) :: (getR 2 false (xs.drop 1)).2 :: (xs.drop 3).take 11
theorem lookL_len {xs : List Int} (h : xs.length = 16) : (lookL xs).length = 13 := by simp [lookL, h]

set_option maxHeartbeats 8000000 in
theorem look_any (a : Option Addr) (n c : Nat) (xs : List Int) (w : World) (hi : IntsAt w a n xs) (hn : n ≤ c) (hc : c ≤ maxLen) (h16 : n = 16) :
    Calls Tryd.prog 35 #[.slice a n c] w fun e w' => e = .returned (.agg (readA (.slice a n c) (lookL xs))) ∧ Keeps [] w w' := by
  obtain ⟨KI, hKI⟩ : ∃ x, x = wrap64 (xs.getD 0 0 - 23040) := ⟨_, rfl⟩
  obtain ⟨SI, hSI⟩ : ∃ x, x = (getR 2 false (xs.drop 1)).2 := ⟨_, rfl⟩
  obtain ⟨P, hP⟩ : ∃ x, x = (xs.drop 3).take 11 := ⟨_, rfl⟩
  have hlook : lookL xs = KI :: SI :: P := by rw [hKI, hSI, hP]; rfl
  rw [hlook]
  have HPL := Lib.hid (show P.length = 11 by rw [hP]; have := hi.1; simp; omega)
  have H16 := Lib.hid h16
  clear hlook h16
  have hA0 : RdAt (w.alloc (.cells (readA (.slice none 0 0) (zer 13)) 77)) w.heap.size (.slice none 0 0) (zer 13) := heap_alloc_new w _
  have hB0 : RdAt ((w.alloc (.cells (readA (.slice none 0 0) (zer 13)) 77)).alloc (.cells (readA (.slice a n c) (zer 13)) 77)) (w.heap.size + 1) (.slice a n c) (zer 13) := by
    have s0 : (w.alloc (.cells (readA (.slice none 0 0) (zer 13)) 77)).heap.size = w.heap.size + 1 := by simp
    rw [← s0]
    exact heap_alloc_new _ _
  have hA1 : RdAt ((w.alloc (.cells (readA (.slice none 0 0) (zer 13)) 77)).alloc (.cells (readA (.slice a n c) (zer 13)) 77)) w.heap.size (.slice none 0 0) (zer 13) := heap_alloc_held hA0 _
  have k1 : Keeps [] w ((w.alloc (.cells (readA (.slice none 0 0) (zer 13)) 77)).alloc (.cells (readA (.slice a n c) (zer 13)) 77)) := ((Keeps.refl _ _).alloc _).alloc _
  have HI := Lib.hid hi
  have HN := Lib.hid hn
  have HC := Lib.hid hc
  have HKI := Lib.hid hKI
  have HSI := Lib.hid hSI
  have HP := Lib.hid hP
  clear hA0 hi hn hc hKI hSI hP
  go_enter Tryd.func35, Tryd.ntmps35
  go_upto_region 2 with fail
  simp only [rd_lit]
  generalize (w.alloc (.cells (readA (.slice none 0 0) (zer 13)) 77)).alloc (.cells (readA (.slice a n c) (zer 13)) 77) = w1 at *
  have HB := Lib.hid hB0
  have HA := Lib.hid hA1
  have K1 := Lib.hid k1
  have hS : ∀ wz, Keeps [] w1 wz → wz.cell? ⟨w.heap.size + 1, 0, none⟩ = some (.slice a n c) := fun wz k => rd_first (k.held hB0 (by simp))
  have HS := Lib.hid hS
  have kindK_anyQ : ∀ wz, Keeps [] w1 wz → Calls Tryd.prog 40 #[.slice a n c] wz fun e w' => e = .returned (.int .i64 KI) ∧ Keeps [] wz w' := by
    intro wz k
    refine (kind_any a n c xs wz (HI.out.keep0 (K1.out.trans0 k)) (by have := H16.out; omega)).mono ?_
    rintro e w' ⟨rfl, rfl⟩
    exact ⟨by rw [HKI.out], Keeps.refl _ _⟩
  have sequenceK_anyQ : ∀ wz, Keeps [] w1 wz → Calls Tryd.prog 41 #[.slice a n c] wz fun e w' => e = .returned (.int .i64 SI) ∧ Keeps [] wz w' := by
    intro wz k
    rw [HSI.out]
    exact sequence_any a n c xs wz (HI.out.keep0 (K1.out.trans0 k)) HN.out HC.out (by have := H16.out; omega)
  have lpayloadK_anyQ : ∀ wz, Keeps [] w1 wz → Calls Tryd.prog 42 #[.slice a n c] wz fun e w' => e = .returned (.agg (ints P)) ∧ Keeps [] wz w' := by
    intro wz k
    rw [HP.out]
    exact lpayload_any a n c xs wz (HI.out.keep0 (K1.out.trans0 k)) HN.out HC.out (by have := H16.out; omega)
  clear hB0 hA1 k1 hS
  go_cut [] (fun wx => Keeps [w.heap.size + 1] w1 wx ∧ RdAt wx (w.heap.size + 1) (.slice a n c) (KI :: SI :: P))
  case first =>
    refine wp_region_held_drew (S := fun w' => w'.cell? ⟨w.heap.size + 1, 0, none⟩ = some (.slice a n c)) (by kernel_rfl) (HS.out _ ((Keeps.refl [] _).drew)) (fun _ => ?_)
    have kk : Keeps [] w1 w1.drew := (Keeps.refl [] _).drew
    refine wpAnyH_take (i := 0) (oi := ⟨some 6, _, _, _, _, _⟩) (v := .pointer (some ⟨w.heap.size + 1, 0, none⟩)) rfl (by kernel_rfl) (by kernel_rfl) (by kernel_rfl) (fun _ _ _ h => h) (Or.inl ⟨by rfl, fun wz h => by go_simp⟩) (HS.out _ kk) ?_
    simp only [Act.put, List.setIfInBounds_toArray, List.set_cons_zero, List.set_cons_succ]
    refine wpAnyH_take (i := 1) (oi := ⟨some 7, _, _, _, _, _⟩) (v := .slice a n c) rfl (by kernel_rfl) (by kernel_rfl) (by kernel_rfl) (fun _ _ _ h => h) (Or.inl ⟨by rfl, fun wz h => by go_simp⟩) (HS.out _ kk) ?_
    simp only [Act.put, List.setIfInBounds_toArray, List.set_cons_zero, List.set_cons_succ]
    refine wpAnyH_take (i := 3) (oi := ⟨some 9, _, _, _, _, _⟩) (v := .pointer (some ⟨w.heap.size + 1, 0, none⟩)) rfl (by kernel_rfl) (by kernel_rfl) (by kernel_rfl) (fun _ _ _ h => h) (Or.inl ⟨by rfl, fun wz h => by go_simp⟩) (HS.out _ kk) ?_
    simp only [Act.put, List.setIfInBounds_toArray, List.set_cons_zero, List.set_cons_succ]
    refine wpAnyH_take (i := 4) (oi := ⟨some 10, _, _, _, _, _⟩) (v := .slice a n c) rfl (by kernel_rfl) (by kernel_rfl) (by kernel_rfl) (fun _ _ _ h => h) (Or.inl ⟨by rfl, fun wz h => by go_simp⟩) (HS.out _ kk) ?_
    simp only [Act.put, List.setIfInBounds_toArray, List.set_cons_zero, List.set_cons_succ]
    refine wpAnyH_take (i := 6) (oi := ⟨some 12, _, _, _, _, _⟩) (v := .pointer (some ⟨w.heap.size + 1, 0, none⟩)) rfl (by kernel_rfl) (by kernel_rfl) (by kernel_rfl) (fun _ _ _ h => h) (Or.inl ⟨by rfl, fun wz h => by go_simp⟩) (HS.out _ kk) ?_
    simp only [Act.put, List.setIfInBounds_toArray, List.set_cons_zero, List.set_cons_succ]
    refine wpAnyH_take (i := 7) (oi := ⟨some 13, _, _, _, _, _⟩) (v := .slice a n c) rfl (by kernel_rfl) (by kernel_rfl) (by kernel_rfl) (fun _ _ _ h => h) (Or.inl ⟨by rfl, fun wz h => by go_simp⟩) (HS.out _ kk) ?_
    simp only [Act.put, List.setIfInBounds_toArray, List.set_cons_zero, List.set_cons_succ]
    generalize w1.drew = w2 at *
    refine wpAnyH_ready (rs := [2]) (by kernel_rfl) (by simp) ?_
    refine AllReadyH.cons (o := ⟨some 8, _, _, _, _, _⟩) rfl (fun K hK => ?_) AllReadyH.nil
    rw [if_pos (by rfl)]
    refine wp_call_one 40 _ _ rfl (.slice a n c) rfl (Tryd.call40 _) (v := .int .i64 KI) (kindK_anyQ _ kk) (fun wa1 ka1 => ?_)
    replace ka1 := kk.trans0 ka1
    refine hK.out _ _ (HS.out _ ka1) (fun _ => ?_)
    clear hK K
    simp only [Act.put, List.setIfInBounds_toArray, List.set_cons_zero, List.set_cons_succ]
    refine wpAnyH_ready (rs := [5]) (by kernel_rfl) (by simp) ?_
    refine AllReadyH.cons (o := ⟨some 11, _, _, _, _, _⟩) rfl (fun K hK => ?_) AllReadyH.nil
    rw [if_pos (by rfl)]
    refine wp_call_one 41 _ _ rfl (.slice a n c) rfl (Tryd.call41 _) (v := .int .i64 SI) (sequenceK_anyQ _ ka1) (fun wa2 ka2 => ?_)
    replace ka2 := ka1.trans0 ka2
    refine hK.out _ _ (HS.out _ ka2) (fun _ => ?_)
    clear hK K
    simp only [Act.put, List.setIfInBounds_toArray, List.set_cons_zero, List.set_cons_succ]
    refine wpAnyH_ready (rs := [8]) (by kernel_rfl) (by simp) ?_
    refine AllReadyH.cons (o := ⟨some 14, _, _, _, _, _⟩) rfl (fun K hK => ?_) AllReadyH.nil
    rw [if_pos (by rfl)]
    refine wp_call_one 42 _ _ rfl (.slice a n c) rfl (Tryd.call42 _) (v := .agg (ints P)) (lpayloadK_anyQ _ ka2) (fun wa3 ka3 => ?_)
    replace ka3 := ka2.trans0 ka3
    refine hK.out _ _ (HS.out _ ka3) (fun _ => ?_)
    clear hK K
    simp only [Act.put, List.setIfInBounds_toArray, List.set_cons_zero, List.set_cons_succ]
    refine wpAnyH_take (i := 9) (oi := ⟨some 15, _, _, _, _, _⟩) rfl (by kernel_rfl) (by kernel_rfl) (by kernel_rfl) (fun _ _ _ h => h) (yields_rec (k := KI) (s := SI) (p := P) (by rfl) _ _ _ rfl HPL.out rfl rfl rfl) (HS.out _ ka3) ?_
    simp only [Act.put, List.setIfInBounds_toArray, List.set_cons_zero, List.set_cons_succ]
    refine wpAnyH_take (i := 10) (oi := ⟨some 16, _, _, _, _, _⟩) (v := .pointer (some ⟨w.heap.size + 1, 1, none⟩)) rfl (by kernel_rfl) (by kernel_rfl) (by kernel_rfl) (fun _ _ _ h => h) (Or.inl ⟨by rfl, fun wz h => by go_simp⟩) (HS.out _ ka3) ?_
    simp only [Act.put, List.setIfInBounds_toArray, List.set_cons_zero, List.set_cons_succ]
    refine wpAnyH_ready (rs := [11]) (by kernel_rfl) (by simp) ?_
    refine AllReadyH.cons (o := ⟨none, _, _, _, _, _⟩) rfl (fun K hK => ?_) AllReadyH.nil
    rw [if_pos (by rfl)]
    have bB : RdAt wa3 (w.heap.size + 1) (.slice a n c) (zer 13) := ka3.held HB.out (by simp)
    refine wp_store_mid 50 _ _ rfl (w.heap.size + 1) 1 (ints (KI :: SI :: P)) rfl rfl (there_rd bB (zer_len 13) (by rw [ints_size]; simp [HPL.out])) (by rw [ints_size]; simp only [List.length_cons, HPL.out]; exact infoRec) (ints_one _) ?_
    obtain ⟨q1, q2⟩ := rd_set bB (zer_len 13) (KI :: SI :: P) (by simp [HPL.out])
    refine hK.out _ _ (rd_first q1) (fun _ => ?_)
    clear hK K
    refine wpAnyH_done (by kernel_rfl) ?_ _
    simp only [Act.put]
    have K9 := Lib.hid ((ka3.mono (F := []) (G := [w.heap.size + 1]) (by simp)).trans q2 (by simp))
    have H9 := Lib.hid q1
    clear q1 q2 bB
    go_wp2_with fail
    go_meet
    exact ⟨K9.out, H9.out⟩
  case rest =>
    obtain ⟨kx, hx⟩ := hcut
    have hax : RdAt wc w.heap.size (.slice none 0 0) (zer 13) := kx.held HA.out (by simp)
    have KX := Lib.hid (K1.out.trans kx (by intro y hy; right; simp at hy; omega))
    have HPL13 := Lib.hid (show (KI :: SI :: P).length = 13 by simp [HPL.out])
    clear kx kindK_anyQ sequenceK_anyQ lpayloadK_anyQ
    go_wp2_with (first
      | (refine ld_rd _ hx HPL13.out rfl rfl rfl ?_; simp only [Act.put])
      | (refine st_rd _ _ hax (zer_len _) HPL13.out rfl rfl rfl rfl rfl ?_; intro w5 h5 k5 s5; simp only [Act.put]))
    refine bodyPost_ret (ret_rd rfl h5 HPL13.out rfl) rfl ⟨rfl, KX.out.trans k5 (by simp)⟩

end Go.Proofs.YtihpmnnbiabggaaDoor
