
/- group: the document's Scan: the contract. No condition but lengths, and that all are numbers of 64 bits. -/
import Derived.Test.YtihpmnnbiabggaaDoorRn
import Derived.Deep.CutBlock
namespace Go.Proofs.YtihpmnnbiabggaaDoor
open Go.RowKit Go.Shelf
set_option linter.unusedVariables false
set_option linter.unusedSimpArgs false
set_option maxRecDepth 100000

section
variable {ops : Array Oper} {rest : List Oper} {o : Oper} {a : Act} {w : World} {Q : Exit → Act → World → Prop}
/-- A payload is read out of a record; it is written as what is alive of its Kind. -/
theorem ld_payR (x : Operand) {g : Nat} {l : List Int} (hg : RecAt w g l) (hl : l.length = 13) (hgd : Region.wanted o (yielded ops a.tmps) = true) (ho : o.op = .load 25 x) (hx : a.eval x = .pointer (some ⟨g, 2, none⟩))
    (h : wpList Tryd.prog ops Q rest (a.put o.dst (.agg (ints (l.drop 2)))) w) : wpList Tryd.prog ops Q (o :: rest) a w := by
  refine wpList_step fun K hK => ?_
  rw [if_pos hgd]
  exact wp_load_mid 25 x ho g 2 hx ((l.drop 2).map (.int .i64)) _ (hg.payRange hl) Tryd.underlying25 rfl (by rw [List.length_map, pay_list hl]; exact infoPay) (hK _ _ h)
theorem st_live (x y : Operand) {g : Nat} {t : TypeId} {f : Fnd} {k : Nat} {p : List Int} (hg : FAt w g t [] f) (hl : f.live.length = 44) (hk : k < 4) (hp : p.length = 11) (hgd : o.guard = none) (ho : o.op = .store 25 x y) (hx : a.eval x = .pointer (some ⟨g, 2 + k * 11, none⟩)) (hy : a.eval y = .agg (ints p))
    (h : ∀ w', FAt w' g t [] { f with live := liveSet f.live k p } → Keeps [g] w w' → w'.heap.size = w.heap.size → wpList Tryd.prog ops Q rest (a.put o.dst undef) w') : wpList Tryd.prog ops Q (o :: rest) a w :=
  wpList_store_mid hgd 25 x y ho g (2 + k * 11) (ints p) hx hy (hg.there hl (by rw [ints_size, hp]; simp; omega)) (by rw [ints_size, hp]; exact infoPay) (ints_one _)
    (h _ (by have := hg.setLive hl hk hp; rw [show 2 + k * 11 = ([] : List Value).length + 2 + 11 * k by simp; omega]; exact this) (Keeps.setCellsR (Keeps.refl _ _) (.inl (by simp)) _ _) (size_setCells w g _ _ w))
end
theorem counts_out {prev : List (List Int)} {f : Fnd} {s : List Int} (h : countsB prev f s = true) : (readR s).1 = 0 ∧ (isR (readR s).2).2.2 = true ∧ (isR (readR s).2).1 ≤ prev.length ∧ recsOk ((readR s).2.getD 1 0) (-1) (lastN prev (isR (readR s).2).1.toNat) = true := by
  unfold countsB at h
  simp only [Bool.and_eq_true, decide_eq_true_eq] at h
  exact ⟨h.1, h.2.1, h.2.2.1, h.2.2.2.1⟩
theorem isR_first {r : List Int} (h : (isR r).2.2 = true) : (isR r).1 = r.getD 2 0 := by
  unfold isR at h ⊢
  split
  · rfl
  · rename_i hd
    rw [if_neg hd] at h
    simp at h
theorem recs_kinds {q : Int} : ∀ {ss : List (List Int)} {last : Int}, -1 ≤ last → recsOk q last ss = true → ∀ s ∈ ss, 0 ≤ (readR s).2.getD 0 0 ∧ (readR s).2.getD 0 0 < 4
  | [], _, _, _, s, hs => by simp at hs
  | t :: ts, last, h0, h, s, hs => by
    simp only [recsOk, Bool.and_eq_true, decide_eq_true_eq] at h
    rcases List.mem_cons.1 hs with rfl | hs
    · exact ⟨by omega, h.1.2.1⟩
    · exact recs_kinds (by omega) h.2 s hs
theorem liveAll_snoc (live : List Int) (ss : List (List Int)) (s : List Int) : liveAll live (ss ++ [s]) = liveSet (liveAll live ss) ((readR s).2.getD 0 0).toNat ((readR s).2.drop 2) := by
  rw [live_map, live_map, List.map_append, List.map_cons, List.map_nil, liveRecs_snoc]
theorem take_slots_len {xs : List Int} {k : Nat} (hk : k ≤ xs.length / 16) : ((slotsL xs).take k).length = k := by rw [List.length_take, slotsL_len]; omega

end Go.Proofs.YtihpmnnbiabggaaDoor
