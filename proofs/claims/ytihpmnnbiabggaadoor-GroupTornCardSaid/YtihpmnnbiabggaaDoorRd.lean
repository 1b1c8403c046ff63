
/- group: slices of records; steps on records within a round of a loop over an iterator. No condition. -/
import Derived.Test.YtihpmnnbiabggaaDoorRc
import Derived.Great.BuildSlice
import Derived.Deep.MidRow
namespace Go.Proofs.YtihpmnnbiabggaaDoor
open Go.RowKit Go.Shelf
set_option linter.unusedVariables false
set_option maxRecDepth 100000

/-! What a round leaves. -/
theorem keeps_own {β : Type} {w₀ : World} {B : Nat} (hB : w₀.heap.size ≤ B) : OwnFrom B (fun (_ : β) W => Keeps [] w₀ W) :=
  fun s A C row hs hg hr => hs.grown hg (fun k e => .inr (by have := (hr k e).1; omega))
theorem from_keeps {B : Nat} {W W' : World} (h : Keeps [] W W') : KeepsFrom B W W' := ⟨h.size, fun k o _ hk _ => h.held hk (by simp)⟩
theorem from_keeps1 {B g : Nat} {W W' : World} {cs : Array Value} {t : TypeId} {fr : Nat × Nat} (h : Keeps [g] W W') (hg : W.heap[g]? = some (.cells cs t fr)) : KeepsFrom B W W' :=
  ⟨h.size, fun k o _ hk ho => h.held hk (by
    intro hm
    rw [List.mem_singleton] at hm
    subst hm
    rw [hk] at hg
    injection hg with hg
    subst hg
    cases ho)⟩
theorem box_keeps {B : Nat} {F : List Nat} {W W' : World} (h : Keeps F W W') (hB : B < W.heap.size) (hn : B ∉ F) : KeepsBox B W W' := h.block B hB hn
theorem Boxed.keep {F : List Nat} {W W' : World} {B : Nat} {t : TypeId} {v : Value} (h : Boxed W B t v) (hk : Keeps F W W') (hn : B ∉ F) : Boxed W' B t v := hk.held h hn
/-- A block of cells speaks of cells alone. -/
theorem block_own {β : Type} (B : Nat) (t : TypeId) (f : β → Array Value) : Own (fun s W => W.heap[B]? = some (.cells (f s) t (0, 0))) := fun s X Y row hs hg hrow => by
  refine (hg.block B (lt_of_block hs) (fun e => ?_)).trans hs
  obtain ⟨o, ho, hc⟩ := hrow B e.symm
  rw [show X.heap[B]? = _ from hs] at ho
  cases ho
  cases hc

/-! Slices of records. -/
def RecsAt (w : World) (a : Option Addr) (n : Nat) (rs : List (List Int)) : Prop := n = rs.length ∧ (∀ r ∈ rs, r.length = 13) ∧ IntsAt w a (13 * n) rs.flatten
theorem flat13 : ∀ {rs : List (List Int)}, (∀ r ∈ rs, r.length = 13) → rs.flatten.length = 13 * rs.length
  | [], _ => rfl
  | r :: rs, h => by
    rw [List.flatten_cons, List.length_append, h r (by simp), flat13 (fun t ht => h t (List.mem_cons_of_mem _ ht)), List.length_cons]
    omega
theorem RecsAt.keep {w w' : World} {a : Option Addr} {n : Nat} {rs : List (List Int)} {F : List Nat} (h : RecsAt w a n rs) (hk : Keeps F w w') (hn : ∀ b o s, a = some ⟨b, o, s⟩ → b ∉ F) : RecsAt w' a n rs := ⟨h.1, h.2.1, h.2.2.keep hk hn⟩
theorem RecsAt.keep0 {w w' : World} {a : Option Addr} {n : Nat} {rs : List (List Int)} (h : RecsAt w a n rs) (hk : Keeps [] w w') : RecsAt w' a n rs := h.keep hk (by simp)
theorem flat13_get : ∀ {rs : List (List Int)} (i : Nat), (∀ r ∈ rs, r.length = 13) → i < rs.length → (rs.flatten.drop (13 * i)).take 13 = rs.getD i []
  | [], i, _, h => by simp at h
  | r :: rs, 0, hl, _ => by
    have := hl r (by simp)
    rw [List.flatten_cons, Nat.mul_zero, List.drop_zero, List.take_append_of_le_length (by omega), List.take_of_length_le (by omega)]
    rfl
  | r :: rs, i + 1, hl, h => by
    have hr := hl r (by simp)
    rw [List.flatten_cons, show 13 * (i + 1) = r.length + 13 * i by omega, ← List.drop_drop, List.drop_left, flat13_get i (fun t ht => hl t (List.mem_cons_of_mem _ ht)) (by simpa using h)]
    rfl
theorem getD_mem {rs : List (List Int)} {i : Nat} (h : i < rs.length) : rs.getD i [] ∈ rs := by
  simp only [List.getD, List.getElem?_eq_getElem h, Option.getD_some]
  exact List.getElem_mem h
/-- A record of a slice, as a range of cells. -/
theorem RecsAt.range {w : World} {b o n : Nat} {s : Option Nat} {rs : List (List Int)} (h : RecsAt w (some ⟨b, o, s⟩) n rs) {i : Nat} (hi : i < n) : s = none ∧ w.rangeAt b (o + 13 * i) ((rs.getD i []).map (.int .i64)) := by
  have hn := h.1
  have hfl := flat13 h.2.1
  obtain ⟨hs, hc⟩ := h.2.2.2.2 b o s rfl (List.ne_nil_of_length_pos (by omega))
  refine ⟨hs, fun j v hv => ?_⟩
  have hlt := (List.getElem?_eq_some_iff.1 hv).1
  have h13 := h.2.1 _ (getD_mem (i := i) (by omega))
  rw [List.length_map, h13] at hlt
  rw [List.getElem?_map] at hv
  have hg := flat13_get i h.2.1 (by omega)
  have e : (rs.getD i [])[j]? = some (rs.flatten.getD (13 * i + j) 0) := by
    rw [← hg, List.getElem?_take, if_pos hlt, List.getElem?_drop]
    simp only [List.getD]
    rw [List.getElem?_eq_getElem (by omega), Option.getD_some]
  rw [e] at hv
  injection hv with hv
  rw [← hv, Nat.add_assoc]
  exact hc (13 * i + j) (by omega)

theorem infoRec3 : (Tryd.prog.info? 50).map (fun i => (i.zero, i.size, i.bytes)) = some (some (.agg (ints (zer 13))), 13, 104) := by kernel_rfl
theorem map_ints (l : List Int) : (l.map (Value.int .i64)).toArray = ints l := rfl
theorem map_one (l : List Int) : ∀ u ∈ l.map (Value.int .i64), u.oneCell' = true := by
  intro u hu
  obtain ⟨x, -, rfl⟩ := List.mem_map.1 hu
  rfl
theorem map_get {l : List Int} {i : Nat} (h : i < l.length) : (l.map (Value.int .i64))[i]? = some (.int .i64 (l.getD i 0)) := by simp [List.getD, h]
/-- The records of a row that a call made. -/
theorem recs_of_own {w : World} {base n : Nat} {v : Value} {rs : List (List Int)} (hl : ∀ r ∈ rs, r.length = 13) (hn : n = rs.length) (h : w.ownsRow base 50 13 v n (rs.flatten.map (.int .i64))) : ∃ a c, v = .slice a n c ∧ RecsAt w a n rs ∧ n ≤ c ∧ c ≤ maxLen ∧ ∀ b o s, a = some ⟨b, o, s⟩ → base ≤ b := by
  rcases h.2 with ⟨rfl, h0⟩ | ⟨g, cap, cur, rfl, hb, hg, hle, hcm, hcs, htk⟩
  · subst h0
    have : rs = [] := List.length_eq_zero_iff.1 hn.symm
    subst this
    exact ⟨none, 0, rfl, ⟨rfl, by simp, ⟨rfl, fun _ => rfl, by simp⟩⟩, Nat.le_refl _, by unfold maxLen; omega, by simp⟩
  · refine ⟨_, _, rfl, ⟨hn, hl, ?_⟩, hle, hcm, by rintro b o s e; injection e with e; injection e with e; subst e; exact hb⟩
    have hfl := flat13 hl
    refine ⟨by omega, by simp, ?_⟩
    rintro b o s e hne
    injection e with e
    injection e with e1 e2 e3
    subst e1; subst e2; subst e3
    refine ⟨rfl, fun i hi => ?_⟩
    have hc := h.cells (g := g) rfl i (.int .i64 (rs.flatten.getD i 0)) (map_get hi)
    rw [Addr.add_mid] at hc
    exact hc

/-! Steps within a round. -/
section
variable {F : Fence} {n : Nat} {ops : Array Oper} {rest : List Oper} {o : Oper} {a : Act} {w : World} {Q : Exit → Act → World → Prop}
theorem ldIn_rec (x : Operand) {g : Nat} {l : List Int} (hg : RecAt w g l) (hl : l.length = 13) (hgd : Region.wanted o (yielded ops a.tmps) = true) (ho : o.op = .load 50 x) (hx : a.eval x = .pointer (some ⟨g, 0, none⟩))
    (h : wpListIn F n Tryd.prog ops Q rest (a.put o.dst (.agg (ints l))) w) : wpListIn F n Tryd.prog ops Q (o :: rest) a w := by
  refine wpListIn_step fun K hK => ?_
  rw [if_pos hgd]
  unfold Oper.wpIn
  refine ⟨by simp [Oper.about, ho], ?_⟩
  rw [Oper.semAt_plain F _ _ (by rw [ho]; intro c hc; cases hc)]
  unfold execOp
  simp only [ho, hx, Instr.loadAt, Instr.sureAddr, Sem.run_bind, Sem.run_pure, Result.andThen_ok, run_loadVar_row w g 50 50 (ints l) (0, 0) _ hg Tryd.underlying50 rfl (by rw [ints_size, hl]; exact infoRec)]
  exact hK _ _ h
theorem stIn_rec (x y : Operand) {g : Nat} {l l' : List Int} (hg : RecAt w g l) (hl : l.length = 13) (hl' : l'.length = 13) (hgd : o.guard = none) (ho : o.op = .store 50 x y) (hx : a.eval x = .pointer (some ⟨g, 0, none⟩)) (hy : a.eval y = .agg (ints l'))
    (h : ∀ w', RecAt w' g l' → Keeps [g] w w' → w'.heap.size = w.heap.size → wpListIn F n Tryd.prog ops Q rest (a.put o.dst undef) w') : wpListIn F n Tryd.prog ops Q (o :: rest) a w := by
  refine wpListIn_plain hgd fun K hK => ?_
  unfold Oper.wpIn
  refine ⟨by simp [Oper.about, ho], ?_⟩
  rw [Oper.semAt_plain F _ _ (by rw [ho]; intro c hc; cases hc)]
  unfold execOp
  simp only [ho, hx, hy, Instr.storeAt, Instr.sureAddr, Sem.run_bind, Sem.run_pure, Result.andThen_ok, run_storeVar_row w g 50 50 (ints l) (ints l') hg (by rw [ints_size, hl']; exact infoRec) (by rw [ints_size, ints_size, hl, hl']) (ints_one l')]
  exact hK _ _ (h _ (setRow_heap w g (ints l) (ints l') _ _ hg) ((Keeps.refl _ _).setRowR (.inl (by simp)) _) (by simp))

theorem fill_lit (l0 l1 l2 l3 l4 l5 l6 l7 l8 l9 l10 l11 l12 : Int) : Instr.fill (fun i => some (i * 13, 13)) ((Array.range (1 * 13)).map ((Value.agg (ints (zer 13))).cells[· % (Value.agg (ints (zer 13))).cells.size]!)) [(0, .agg (ints [l0, l1, l2, l3, l4, l5, l6, l7, l8, l9, l10, l11, l12]))] = some (ints [l0, l1, l2, l3, l4, l5, l6, l7, l8, l9, l10, l11, l12]) := by kernel_rfl
theorem fill_rec {l : List Int} (hl : l.length = 13) : Instr.fill (fun i => some (i * 13, 13)) ((Array.range (1 * 13)).map ((Value.agg (ints (zer 13))).cells[· % (Value.agg (ints (zer 13))).cells.size]!)) [(0, .agg (ints l))] = some (ints l) := by
  match l, hl with
  | [l0, l1, l2, l3, l4, l5, l6, l7, l8, l9, l10, l11, l12], _ => exact fill_lit l0 l1 l2 l3 l4 l5 l6 l7 l8 l9 l10 l11 l12
theorem run_slice_rec (w : World) {l : List Int} (hl : l.length = 13) : (Instr.buildSlice 36 1 #[(0, .agg (ints l))]).run Tryd.prog w = .ok (.slice (some ⟨w.heap.size, 0, none⟩) 1 1) (w.alloc (.cells (ints l) 50)) := by
  obtain ⟨i0, hi, hz0, hz1, hz2⟩ := info_parts infoRec3
  refine run_buildSlice w 36 50 1 _ (ints l) i0 _ Tryd.underlying36 hi hz0 (by rw [hz1]; omega) (by rw [hz1]; omega) ?_
  rw [hz1]
  exact fill_rec hl
theorem bsIn_rec (x : Operand) {l : List Int} (hl : l.length = 13) (hgd : o.guard = none) (ho : o.op = .buildSlice 36 1 #[(0, x)]) (hx : a.eval x = .agg (ints l))
    (h : wpListIn F n Tryd.prog ops Q rest (a.put o.dst (.slice (some ⟨w.heap.size, 0, none⟩) 1 1)) (w.alloc (.cells (ints l) 50))) : wpListIn F n Tryd.prog ops Q (o :: rest) a w := by
  refine wpListIn_plain hgd fun K hK => ?_
  unfold Oper.wpIn
  refine ⟨by simp [Oper.about, ho], ?_⟩
  rw [Oper.semAt_plain F _ _ (by rw [ho]; intro c hc; cases hc)]
  unfold execOp
  simp only [ho, List.map_toArray, List.map_cons, List.map_nil, hx, Sem.run_bind, run_slice_rec w hl, Result.andThen_ok]
  exact hK _ _ h
theorem bs_rec (x : Operand) {l : List Int} (hl : l.length = 13) (hgd : o.guard = none) (ho : o.op = .buildSlice 36 1 #[(0, x)]) (hx : a.eval x = .agg (ints l))
    (h : wpList Tryd.prog ops Q rest (a.put o.dst (.slice (some ⟨w.heap.size, 0, none⟩) 1 1)) (w.alloc (.cells (ints l) 50))) : wpList Tryd.prog ops Q (o :: rest) a w := by
  refine wpList_plain hgd fun K hK => ?_
  unfold Oper.wp execOp
  simp only [ho, List.map_toArray, List.map_cons, List.map_nil, hx, Sem.run_bind, run_slice_rec w hl, Result.andThen_ok]
  exact hK _ _ h
/-- A record of a slice is read. -/
theorem ld_elem (x : Operand) {b o' : Nat} {l : List Int} (hg : w.rangeAt b o' (l.map (.int .i64))) (hl : l.length = 13) (hgd : Region.wanted o (yielded ops a.tmps) = true) (ho : o.op = .load 50 x) (hx : a.eval x = .pointer (some ⟨b, o', none⟩))
    (h : wpList Tryd.prog ops Q rest (a.put o.dst (.agg (ints l))) w) : wpList Tryd.prog ops Q (o :: rest) a w := by
  refine wpList_step fun K hK => ?_
  rw [if_pos hgd]
  refine wp_load_mid 50 x ho b o' hx (l.map (.int .i64)) _ hg Tryd.underlying50 rfl (by rw [List.length_map, hl]; exact infoRec) (hK _ _ h)
end

end Go.Proofs.YtihpmnnbiabggaaDoor
