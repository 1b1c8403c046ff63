/- The document's wide numbers: the contracts of Add and Compare. No condition but that the digits are those of numbers below 256 to 20. -/
import Derived.Test.YtdanmeemoifapaaDh
namespace Go.Proofs.Ytdanmeemoifapaa
open Go.RowKit
set_option linter.unusedVariables false

theorem built_num (m : Bool) (f : Nat → Int) : Try.prog.built 29 [(0, .bool m), (1, .agg (arr f))] = some (numA m f) := by kernel_rfl
theorem infoList (f : Nat → Int) : (Try.prog.info? 27).map (·.size) = some (arr f).toList.length := by rw [Array.length_toList, arr_size]; exact infoArr

/-- A call of a function by its contract. -/
theorem wp_call_go {o : Oper} {a : Act} {w : World} {K : Act → World → Prop} {Q : Exit → Act → World → Prop} (f : FuncId) (y1 y2 : Operand) (ats : Array TypeId) (ho : o.op = .call { callee := .value (.func f), args := #[y1, y2], argTypes := ats })
    (v1 v2 : Value) (h1 : a.eval y1 = v1) (h2 : a.eval y2 = v2) (hent : ∀ w, (callFunc f #[v1, v2]).run Try.prog w = .ok (.enter f #[v1, v2]) w) {v : Value}
    (hc : Calls Try.prog f #[v1, v2] w fun e w' => e = .returned v ∧ Keeps [] w w') (h : ∀ w', Keeps [] w w' → K (a.put o.dst v) w') : o.wp Try.prog a w K Q := by
  obtain ⟨dst, op, ty, pos, after, guard⟩ := o
  subst ho
  unfold Oper.wp
  have ha : #[] ++ #[y1, y2].map a.eval ++ #[] = #[v1, v2] := by simp [h1, h2]
  rw [execOp_call_go, ha, hent]
  refine Calls.mono hc ?_
  rintro e w' ⟨rfl, k⟩
  exact h w' k

/-- A number is built of its sign and its array. -/
theorem yields_num {ops : Array Oper} {S : World → Prop} {o : Oper} {a : Act} {m : Bool} {f : Nat → Int} (hw : Region.wanted o (yielded ops a.tmps) = true) (y1 y2 : Operand) (ho : o.op = .build 29 #[(0, y1), (1, y2)])
    (h1 : a.eval y1 = .bool m) (h2 : a.eval y2 = .agg (arr f)) : YieldsIf Try.prog ops S o (.agg (numA m f)) a :=
  .inl ⟨hw, fun w _ => by
    have hp : (#[(0, y1), (1, y2)].map fun (p : Nat × Operand) => (p.1, a.eval p.2)) = #[(0, .bool m), (1, .agg (arr f))] := by simp [h1, h2]
    unfold execOp
    simp only [ho]
    rw [show (#[(0, y1), (1, y2)].map fun (x : Nat × Operand) => match x with | (i, x) => (i, a.eval x)) = #[(0, .bool m), (1, .agg (arr f))] from hp]
    simp only [Sem.run_bind, run_build w 29 _ (numA m f) (built_num m f), Result.andThen_ok, Sem.run_pure]⟩

/-- The sum of two numbers with their signs. -/
def addM (ma mb : Bool) (x y : Nat) : Bool := if ma = mb then ma else if y ≤ x then ma else mb
def addX (ma mb : Bool) (x y : Nat) : Nat := if ma = mb then x + y else if y ≤ x then x - y else y - x

set_option maxHeartbeats 4000000 in
theorem radd_any (ma mb : Bool) (x y : Nat) (hx : x < 256 ^ 20) (hy : y < 256 ^ 20) (w : World) :
    Calls Try.prog 15 #[.agg (numA ma (dig x)), .agg (numA mb (dig y))] w fun e w' => e = .returned (.agg (numA (addM ma mb x y) (dig (addX ma mb x y)))) ∧ Keeps [] w w' := by
  go_enter Try.func15, Try.ntmps15
  go_upto_region 1 with fail
  simp only [nzeros_eq]
  have n1 : NumAt (((w.alloc (.cells (numA ma (dig x)) 29)).alloc (.cells (numA mb (dig y)) 29)).alloc (.cells (numA false (dig 0)) 29)) w.heap.size ma (dig x) := heap_alloc_held (heap_alloc2_old w _ _) _
  have n2 : NumAt (((w.alloc (.cells (numA ma (dig x)) 29)).alloc (.cells (numA mb (dig y)) 29)).alloc (.cells (numA false (dig 0)) 29)) (w.heap.size + 1) mb (dig y) := heap_alloc_held (heap_alloc2_new w _ _) _
  have n3 : NumAt (((w.alloc (.cells (numA ma (dig x)) 29)).alloc (.cells (numA mb (dig y)) 29)).alloc (.cells (numA false (dig 0)) 29)) (w.heap.size + 2) false (dig 0) := alloc_at (n := w.heap.size + 2) _ (by simp)
  have k0 : Keeps [] w (((w.alloc (.cells (numA ma (dig x)) 29)).alloc (.cells (numA mb (dig y)) 29)).alloc (.cells (numA false (dig 0)) 29)) := (((Keeps.refl _ _).alloc _).alloc _).alloc _
  generalize ((w.alloc (.cells (numA ma (dig x)) 29)).alloc (.cells (numA mb (dig y)) 29)).alloc (.cells (numA false (dig 0)) 29) = w0 at *
  have c1 := NumAt.sign n1
  have c2 := NumAt.sign n2
  simp only [Nat.add_assoc, Nat.reduceAdd]
  by_cases hm : ma = mb
  · subst hm
    go_upto_region 2 with fail
    refine wp_region_held_drew (S := fun w' => NumAt w' w.heap.size ma (dig x) ∧ NumAt w' (w.heap.size + 1) ma (dig y)) (by kernel_rfl) ⟨n1, n2⟩ (fun hHeld => ?_)
    refine wpAnyH_take (i := 0) (oi := ⟨some 10, _, _, _, _, _⟩) (v := .pointer (some ⟨w.heap.size, 0, none⟩)) rfl (by kernel_rfl) (by kernel_rfl) (by kernel_rfl) (fun _ _ _ h => h) (Or.inl ⟨by rfl, fun wz h => by go_simp⟩) hHeld ?_
    simp only [Act.put, List.setIfInBounds_toArray, List.set_cons_zero, List.set_cons_succ]
    refine wpAnyH_take (i := 1) (oi := ⟨some 11, _, _, _, _, _⟩) (v := .bool ma) rfl (by kernel_rfl) (by kernel_rfl) (by kernel_rfl) (fun _ _ _ h => h) (Or.inl ⟨by rfl, fun wz h => by have hs := NumAt.sign h.1; go_simp⟩) hHeld ?_
    simp only [Act.put, List.setIfInBounds_toArray, List.set_cons_zero, List.set_cons_succ]
    refine wpAnyH_take (i := 2) (oi := ⟨some 12, _, _, _, _, _⟩) (v := .pointer (some ⟨w.heap.size, 1, none⟩)) rfl (by kernel_rfl) (by kernel_rfl) (by kernel_rfl) (fun _ _ _ h => h) (Or.inl ⟨by rfl, fun wz h => by go_simp⟩) hHeld ?_
    simp only [Act.put, List.setIfInBounds_toArray, List.set_cons_zero, List.set_cons_succ]
    refine wpAnyH_take (i := 3) (oi := ⟨some 13, _, _, _, _, _⟩) rfl (by kernel_rfl) (by kernel_rfl) (by kernel_rfl) (fun _ _ _ h => h) (yieldsIf_load_mid (by rfl) _ _ rfl _ _ rfl (arr (dig x)).toList _ (fun _ h => NumAt.range h.1) Try.underlying27 rfl (infoList _)) hHeld ?_
    simp only [Act.put, List.setIfInBounds_toArray, List.set_cons_zero, List.set_cons_succ, Array.toArray_toList]
    refine wpAnyH_take (i := 4) (oi := ⟨some 14, _, _, _, _, _⟩) (v := .pointer (some ⟨w.heap.size + 1, 1, none⟩)) rfl (by kernel_rfl) (by kernel_rfl) (by kernel_rfl) (fun _ _ _ h => h) (Or.inl ⟨by rfl, fun wz h => by go_simp⟩) hHeld ?_
    simp only [Act.put, List.setIfInBounds_toArray, List.set_cons_zero, List.set_cons_succ]
    refine wpAnyH_take (i := 5) (oi := ⟨some 15, _, _, _, _, _⟩) rfl (by kernel_rfl) (by kernel_rfl) (by kernel_rfl) (fun _ _ _ h => h) (yieldsIf_load_mid (by rfl) _ _ rfl _ _ rfl (arr (dig y)).toList _ (fun _ h => NumAt.range h.2) Try.underlying27 rfl (infoList _)) hHeld ?_
    simp only [Act.put, List.setIfInBounds_toArray, List.set_cons_zero, List.set_cons_succ, Array.toArray_toList]
    refine wpAnyH_ready (rs := [6]) (by kernel_rfl) (by simp) ?_
    refine AllReadyH.cons (o := ⟨some 16, _, _, _, _, _⟩) rfl (fun K hK => ?_) AllReadyH.nil
    rw [if_pos (by rfl)]
    refine wp_call_go 30 _ _ _ rfl (.agg (arr (dig x))) (.agg (arr (dig y))) rfl rfl (Try.call30 _) (v := .agg (arr (dig (x + y)))) (plus_any x y _) (fun wa ka => ?_)
    have n3a : NumAt wa (w.heap.size + 2) false (dig 0) := ka.held n3 (by simp)
    have kka := (k0.drew).trans0 ka
    refine hK.out _ _ ⟨ka.held hHeld.1 (by simp), ka.held hHeld.2 (by simp)⟩ (fun hHeld => ?_)
    clear hK K ka
    simp only [Act.put, List.setIfInBounds_toArray, List.set_cons_zero, List.set_cons_succ]
    refine wpAnyH_take (i := 7) (oi := ⟨some 17, _, _, _, _, _⟩) (v := .agg (numA ma (dig (x + y)))) rfl (by kernel_rfl) (by kernel_rfl) (by kernel_rfl) (fun _ _ _ h => h) (yields_num (by rfl) _ _ rfl rfl rfl) hHeld ?_
    simp only [Act.put, List.setIfInBounds_toArray, List.set_cons_zero, List.set_cons_succ]
    refine wpAnyH_ready (rs := [8]) (by kernel_rfl) (by simp) ?_
    refine AllReadyH.cons rfl (fun K hK => ?_) AllReadyH.nil
    rw [if_pos (by rfl)]
    refine wp_store_row _ _ _ rfl (w.heap.size + 2) (numA ma (dig (x + y))) rfl rfl _ (numA false (dig 0)) n3a (by rw [numA_size]; exact infoNum) (by rw [numA_size, numA_size]) (numA_one _ _) ?_
    have g1 : Keeps [w.heap.size + 2] wa (wa.setRow (w.heap.size + 2) (numA ma (dig (x + y)))) := (Keeps.refl _ _).setRow (.inl (by simp)) _
    have a1 : NumAt (wa.setRow (w.heap.size + 2) (numA ma (dig (x + y)))) (w.heap.size + 2) ma (dig (x + y)) := setRow_heap wa _ _ _ _ _ n3a
    refine hK.out _ _ ⟨g1.held hHeld.1 (by simp), g1.held hHeld.2 (by simp)⟩ (fun hHeld => ?_)
    have kkb : Keeps [] w (wa.setRow (w.heap.size + 2) (numA ma (dig (x + y)))) := kka.trans g1 (by simp)
    clear hK K
    generalize wa.setRow (w.heap.size + 2) (numA ma (dig (x + y))) = wb at *
    refine wpAnyH_done (by kernel_rfl) ?_ _
    clear hHeld
    go_wp2_with fail
    refine bodyPost_ret (ret_num rfl a1 rfl) rfl ⟨?_, kkb⟩
    unfold addM addX
    rw [if_pos rfl, if_pos rfl]
  · have hm' : (ma == mb) = false := by simpa using hm
    by_cases hle : y ≤ x
    · have hv0 : 0 ≤ cmpN x y := by unfold cmpN; rw [if_neg (by omega)]; split <;> omega
      obtain ⟨v, hv⟩ : ∃ v, v = cmpN x y := ⟨_, rfl⟩
      rw [← hv] at hv0
      have HV := Lib.hid hv
      clear hv
      go_wp2_with (first | (refine ld_mid _ n1 rfl rfl rfl ?_; simp only [Act.put]) | (refine ld_mid _ n2 rfl rfl rfl ?_; simp only [Act.put]))
      refine (against_any x y hx hy _).mono ?_
      rintro e w1 ⟨he, k1⟩
      rw [← HV.out] at he
      subst he
      replace n1 := k1.held n1 (by simp)
      replace n2 := k1.held n2 (by simp)
      replace n3 := k1.held n3 (by simp)
      replace k0 := k0.trans0 k1
      clear k1 c1 c2
      go_upto_region 4 with fail
      refine wp_region_held_drew (S := fun w' => NumAt w' w.heap.size ma (dig x) ∧ NumAt w' (w.heap.size + 1) mb (dig y)) (by kernel_rfl) ⟨n1, n2⟩ (fun hHeld => ?_)
      refine wpAnyH_take (i := 0) (oi := ⟨some 24, _, _, _, _, _⟩) (v := .pointer (some ⟨w.heap.size, 0, none⟩)) rfl (by kernel_rfl) (by kernel_rfl) (by kernel_rfl) (fun _ _ _ h => h) (Or.inl ⟨by rfl, fun wz h => by go_simp⟩) hHeld ?_
      simp only [Act.put, List.setIfInBounds_toArray, List.set_cons_zero, List.set_cons_succ]
      refine wpAnyH_take (i := 1) (oi := ⟨some 25, _, _, _, _, _⟩) (v := .bool ma) rfl (by kernel_rfl) (by kernel_rfl) (by kernel_rfl) (fun _ _ _ h => h) (Or.inl ⟨by rfl, fun wz h => by have hs := NumAt.sign h.1; go_simp⟩) hHeld ?_
      simp only [Act.put, List.setIfInBounds_toArray, List.set_cons_zero, List.set_cons_succ]
      refine wpAnyH_take (i := 2) (oi := ⟨some 26, _, _, _, _, _⟩) (v := .pointer (some ⟨w.heap.size, 1, none⟩)) rfl (by kernel_rfl) (by kernel_rfl) (by kernel_rfl) (fun _ _ _ h => h) (Or.inl ⟨by rfl, fun wz h => by go_simp⟩) hHeld ?_
      simp only [Act.put, List.setIfInBounds_toArray, List.set_cons_zero, List.set_cons_succ]
      refine wpAnyH_take (i := 3) (oi := ⟨some 27, _, _, _, _, _⟩) rfl (by kernel_rfl) (by kernel_rfl) (by kernel_rfl) (fun _ _ _ h => h) (yieldsIf_load_mid (by rfl) _ _ rfl _ _ rfl (arr (dig x)).toList _ (fun _ h => NumAt.range h.1) Try.underlying27 rfl (infoList _)) hHeld ?_
      simp only [Act.put, List.setIfInBounds_toArray, List.set_cons_zero, List.set_cons_succ, Array.toArray_toList]
      refine wpAnyH_take (i := 4) (oi := ⟨some 28, _, _, _, _, _⟩) (v := .pointer (some ⟨w.heap.size + 1, 1, none⟩)) rfl (by kernel_rfl) (by kernel_rfl) (by kernel_rfl) (fun _ _ _ h => h) (Or.inl ⟨by rfl, fun wz h => by go_simp⟩) hHeld ?_
      simp only [Act.put, List.setIfInBounds_toArray, List.set_cons_zero, List.set_cons_succ]
      refine wpAnyH_take (i := 5) (oi := ⟨some 29, _, _, _, _, _⟩) rfl (by kernel_rfl) (by kernel_rfl) (by kernel_rfl) (fun _ _ _ h => h) (yieldsIf_load_mid (by rfl) _ _ rfl _ _ rfl (arr (dig y)).toList _ (fun _ h => NumAt.range h.2) Try.underlying27 rfl (infoList _)) hHeld ?_
      simp only [Act.put, List.setIfInBounds_toArray, List.set_cons_zero, List.set_cons_succ, Array.toArray_toList]
      refine wpAnyH_ready (rs := [6]) (by kernel_rfl) (by simp) ?_
      refine AllReadyH.cons (o := ⟨some 30, _, _, _, _, _⟩) rfl (fun K hK => ?_) AllReadyH.nil
      rw [if_pos (by rfl)]
      refine wp_call_go 32 _ _ _ rfl (.agg (arr (dig x))) (.agg (arr (dig y))) rfl rfl (Try.call32 _) (v := .agg (arr (dig (x - y)))) (less_any x y _ hle) (fun wa ka => ?_)
      have n3a : NumAt wa (w.heap.size + 2) false (dig 0) := ka.held n3 (by simp)
      have kka := (k0.drew).trans0 ka
      refine hK.out _ _ ⟨ka.held hHeld.1 (by simp), ka.held hHeld.2 (by simp)⟩ (fun hHeld => ?_)
      clear hK K ka
      simp only [Act.put, List.setIfInBounds_toArray, List.set_cons_zero, List.set_cons_succ]
      refine wpAnyH_take (i := 7) (oi := ⟨some 31, _, _, _, _, _⟩) (v := .agg (numA ma (dig (x - y)))) rfl (by kernel_rfl) (by kernel_rfl) (by kernel_rfl) (fun _ _ _ h => h) (yields_num (by rfl) _ _ rfl rfl rfl) hHeld ?_
      simp only [Act.put, List.setIfInBounds_toArray, List.set_cons_zero, List.set_cons_succ]
      refine wpAnyH_ready (rs := [8]) (by kernel_rfl) (by simp) ?_
      refine AllReadyH.cons rfl (fun K hK => ?_) AllReadyH.nil
      rw [if_pos (by rfl)]
      refine wp_store_row _ _ _ rfl (w.heap.size + 2) (numA ma (dig (x - y))) rfl rfl _ (numA false (dig 0)) n3a (by rw [numA_size]; exact infoNum) (by rw [numA_size, numA_size]) (numA_one _ _) ?_
      have g1 : Keeps [w.heap.size + 2] wa (wa.setRow (w.heap.size + 2) (numA ma (dig (x - y)))) := (Keeps.refl _ _).setRow (.inl (by simp)) _
      have a1 : NumAt (wa.setRow (w.heap.size + 2) (numA ma (dig (x - y)))) (w.heap.size + 2) ma (dig (x - y)) := setRow_heap wa _ _ _ _ _ n3a
      refine hK.out _ _ ⟨g1.held hHeld.1 (by simp), g1.held hHeld.2 (by simp)⟩ (fun hHeld => ?_)
      have kkb : Keeps [] w (wa.setRow (w.heap.size + 2) (numA ma (dig (x - y)))) := kka.trans g1 (by simp)
      clear hK K
      generalize wa.setRow (w.heap.size + 2) (numA ma (dig (x - y))) = wb at *
      refine wpAnyH_done (by kernel_rfl) ?_ _
      clear hHeld
      go_wp2_with fail
      refine bodyPost_ret (ret_num rfl a1 rfl) rfl ⟨?_, kkb⟩
      unfold addM addX
      rw [if_neg hm, if_pos hle, if_neg hm, if_pos hle]
    · have hv0 : cmpN x y = -1 := by unfold cmpN; rw [if_pos (by omega)]
      have HV := Lib.hid hv0
      clear hv0
      go_wp2_with (first | (refine ld_mid _ n1 rfl rfl rfl ?_; simp only [Act.put]) | (refine ld_mid _ n2 rfl rfl rfl ?_; simp only [Act.put]))
      refine (against_any x y hx hy _).mono ?_
      rintro e w1 ⟨he, k1⟩
      rw [HV.out] at he
      subst he
      replace n1 := k1.held n1 (by simp)
      replace n2 := k1.held n2 (by simp)
      replace n3 := k1.held n3 (by simp)
      replace k0 := k0.trans0 k1
      clear k1 c1 c2
      go_upto_region 5 with fail
      refine wp_region_held_drew (S := fun w' => NumAt w' w.heap.size ma (dig x) ∧ NumAt w' (w.heap.size + 1) mb (dig y)) (by kernel_rfl) ⟨n1, n2⟩ (fun hHeld => ?_)
      refine wpAnyH_take (i := 0) (oi := ⟨some 32, _, _, _, _, _⟩) (v := .pointer (some ⟨(w.heap.size + 1), 0, none⟩)) rfl (by kernel_rfl) (by kernel_rfl) (by kernel_rfl) (fun _ _ _ h => h) (Or.inl ⟨by rfl, fun wz h => by go_simp⟩) hHeld ?_
      simp only [Act.put, List.setIfInBounds_toArray, List.set_cons_zero, List.set_cons_succ]
      refine wpAnyH_take (i := 1) (oi := ⟨some 33, _, _, _, _, _⟩) (v := .bool mb) rfl (by kernel_rfl) (by kernel_rfl) (by kernel_rfl) (fun _ _ _ h => h) (Or.inl ⟨by rfl, fun wz h => by have hs := NumAt.sign h.2; go_simp⟩) hHeld ?_
      simp only [Act.put, List.setIfInBounds_toArray, List.set_cons_zero, List.set_cons_succ]
      refine wpAnyH_take (i := 2) (oi := ⟨some 34, _, _, _, _, _⟩) (v := .pointer (some ⟨(w.heap.size + 1), 1, none⟩)) rfl (by kernel_rfl) (by kernel_rfl) (by kernel_rfl) (fun _ _ _ h => h) (Or.inl ⟨by rfl, fun wz h => by go_simp⟩) hHeld ?_
      simp only [Act.put, List.setIfInBounds_toArray, List.set_cons_zero, List.set_cons_succ]
      refine wpAnyH_take (i := 3) (oi := ⟨some 35, _, _, _, _, _⟩) rfl (by kernel_rfl) (by kernel_rfl) (by kernel_rfl) (fun _ _ _ h => h) (yieldsIf_load_mid (by rfl) _ _ rfl _ _ rfl (arr (dig y)).toList _ (fun _ h => NumAt.range h.2) Try.underlying27 rfl (infoList _)) hHeld ?_
      simp only [Act.put, List.setIfInBounds_toArray, List.set_cons_zero, List.set_cons_succ, Array.toArray_toList]
      refine wpAnyH_take (i := 4) (oi := ⟨some 36, _, _, _, _, _⟩) (v := .pointer (some ⟨w.heap.size, 1, none⟩)) rfl (by kernel_rfl) (by kernel_rfl) (by kernel_rfl) (fun _ _ _ h => h) (Or.inl ⟨by rfl, fun wz h => by go_simp⟩) hHeld ?_
      simp only [Act.put, List.setIfInBounds_toArray, List.set_cons_zero, List.set_cons_succ]
      refine wpAnyH_take (i := 5) (oi := ⟨some 37, _, _, _, _, _⟩) rfl (by kernel_rfl) (by kernel_rfl) (by kernel_rfl) (fun _ _ _ h => h) (yieldsIf_load_mid (by rfl) _ _ rfl _ _ rfl (arr (dig x)).toList _ (fun _ h => NumAt.range h.1) Try.underlying27 rfl (infoList _)) hHeld ?_
      simp only [Act.put, List.setIfInBounds_toArray, List.set_cons_zero, List.set_cons_succ, Array.toArray_toList]
      refine wpAnyH_ready (rs := [6]) (by kernel_rfl) (by simp) ?_
      refine AllReadyH.cons (o := ⟨some 38, _, _, _, _, _⟩) rfl (fun K hK => ?_) AllReadyH.nil
      rw [if_pos (by rfl)]
      refine wp_call_go 32 _ _ _ rfl (.agg (arr (dig y))) (.agg (arr (dig x))) rfl rfl (Try.call32 _) (v := .agg (arr (dig (y - x)))) (less_any y x _ (by omega)) (fun wa ka => ?_)
      have n3a : NumAt wa (w.heap.size + 2) false (dig 0) := ka.held n3 (by simp)
      have kka := (k0.drew).trans0 ka
      refine hK.out _ _ ⟨ka.held hHeld.1 (by simp), ka.held hHeld.2 (by simp)⟩ (fun hHeld => ?_)
      clear hK K ka
      simp only [Act.put, List.setIfInBounds_toArray, List.set_cons_zero, List.set_cons_succ]
      refine wpAnyH_take (i := 7) (oi := ⟨some 39, _, _, _, _, _⟩) (v := .agg (numA mb (dig (y - x)))) rfl (by kernel_rfl) (by kernel_rfl) (by kernel_rfl) (fun _ _ _ h => h) (yields_num (by rfl) _ _ rfl rfl rfl) hHeld ?_
      simp only [Act.put, List.setIfInBounds_toArray, List.set_cons_zero, List.set_cons_succ]
      refine wpAnyH_ready (rs := [8]) (by kernel_rfl) (by simp) ?_
      refine AllReadyH.cons rfl (fun K hK => ?_) AllReadyH.nil
      rw [if_pos (by rfl)]
      refine wp_store_row _ _ _ rfl (w.heap.size + 2) (numA mb (dig (y - x))) rfl rfl _ (numA false (dig 0)) n3a (by rw [numA_size]; exact infoNum) (by rw [numA_size, numA_size]) (numA_one _ _) ?_
      have g1 : Keeps [w.heap.size + 2] wa (wa.setRow (w.heap.size + 2) (numA mb (dig (y - x)))) := (Keeps.refl _ _).setRow (.inl (by simp)) _
      have a1 : NumAt (wa.setRow (w.heap.size + 2) (numA mb (dig (y - x)))) (w.heap.size + 2) mb (dig (y - x)) := setRow_heap wa _ _ _ _ _ n3a
      refine hK.out _ _ ⟨g1.held hHeld.1 (by simp), g1.held hHeld.2 (by simp)⟩ (fun hHeld => ?_)
      have kkb : Keeps [] w (wa.setRow (w.heap.size + 2) (numA mb (dig (y - x)))) := kka.trans g1 (by simp)
      clear hK K
      generalize wa.setRow (w.heap.size + 2) (numA mb (dig (y - x))) = wb at *
      refine wpAnyH_done (by kernel_rfl) ?_ _
      clear hHeld
      go_wp2_with fail
      refine bodyPost_ret (ret_num rfl a1 rfl) rfl ⟨?_, kkb⟩
      unfold addM addX
      rw [if_neg hm, if_neg hle, if_neg hm, if_neg hle]
end Go.Proofs.Ytdanmeemoifapaa
