/- The document's wide numbers: the contracts of Down and Near. No condition but that the digits are those of numbers below 256 to 18 and the divisor is one. -/
import Derived.Test.YtdanmeemoifapaaDj
import Derived.Test.YtdanmeemoifapaaWe
namespace Go.Proofs.Ytdanmeemoifapaa
open Go.RowKit
set_option linter.unusedVariables false

/-- A call of a function of no argument by its contract. -/
theorem wp_call_go0 {o : Oper} {a : Act} {w : World} {K : Act → World → Prop} {Q : Exit → Act → World → Prop} (f : FuncId) (ats : Array TypeId) (ho : o.op = .call { callee := .value (.func f), args := #[], argTypes := ats })
    (hent : ∀ w, (callFunc f #[]).run Try.prog w = .ok (.enter f #[]) w) {v : Value}
    (hc : Calls Try.prog f #[] w fun e w' => e = .returned v ∧ Keeps [] w w') (h : ∀ w', Keeps [] w w' → K (a.put o.dst v) w') : o.wp Try.prog a w K Q := by
  obtain ⟨dst, op, ty, pos, after, guard⟩ := o
  subst ho
  unfold Oper.wp
  have ha : #[] ++ (#[] : Array Operand).map a.eval ++ #[] = #[] := by simp
  rw [execOp_call_go, ha, hent]
  refine Calls.mono hc ?_
  rintro e w' ⟨rfl, k⟩
  exact h w' k
/-- A whole array is read behind a guard that says yes. -/
theorem ld_arr_g {ops : Array Oper} {rest : List Oper} {o : Oper} {a : Act} {w : World} {Q : Exit → Act → World → Prop} (x : Operand) {g : Nat} {f : Nat → Int} (hg : ArrAt w g f) (hw : Region.wanted o (yielded ops a.tmps) = true) (ho : o.op = .load 27 x) (hx : a.eval x = .pointer (some ⟨g, 0, none⟩))
    (h : wpList Try.prog ops Q rest (a.put o.dst (.agg (arr f))) w) : wpList Try.prog ops Q (o :: rest) a w :=
  wpList_step fun K hK => by
    simp only [hw, if_true]
    exact wp_load_row 27 x ho g hx 27 (arr f) (0, 0) _ hg Try.underlying27 rfl (by rw [arr_size]; exact infoArr) (hK _ _ h)

/-- A number is built, in a plain region. -/
theorem bd_num {ops : Array Oper} {rest : List Oper} {o : Oper} {a : Act} {w : World} {Q : Exit → Act → World → Prop} {m : Bool} {f : Nat → Int} (y1 y2 : Operand) (hgd : o.guard = none) (ho : o.op = .build 29 #[(0, y1), (1, y2)])
    (h1 : a.eval y1 = .bool m) (h2 : a.eval y2 = .agg (arr f)) (h : wpList Try.prog ops Q rest (a.put o.dst (.agg (numA m f))) w) : wpList Try.prog ops Q (o :: rest) a w :=
  wpList_plain hgd fun K hK => by
    have hp : (#[(0, y1), (1, y2)].map fun (p : Nat × Operand) => (p.1, a.eval p.2)) = #[(0, .bool m), (1, .agg (arr f))] := by simp [h1, h2]
    unfold Oper.wp execOp
    simp only [ho]
    rw [show (#[(0, y1), (1, y2)].map fun (x : Nat × Operand) => match x with | (i, x) => (i, a.eval x)) = #[(0, .bool m), (1, .agg (arr f))] from hp]
    simp only [Sem.run_bind, run_build w 29 _ (numA m f) (built_num m f), Result.andThen_ok, Sem.run_pure]
    exact hK _ _ h

/-- Rounded down, a number with its sign. -/
theorem sgn_down (m : Bool) (x c : Nat) (hc : 0 < c) : sgn m x / (c : Int) = sgn m (if m = true ∧ x % c ≠ 0 then x / c + 1 else x / c) := by
  have h1 : ((x / c : Nat) : Int) = (x : Int) / c := Int.natCast_ediv x c
  have h2 : ((x % c : Nat) : Int) = (x : Int) % c := Int.natCast_emod x c
  cases m
  · simp [sgn]
  · have e1 := Int.ediv_mul_add_emod (x : Int) c
    have e2 := Int.emod_nonneg (x : Int) (show (c : Int) ≠ 0 by omega)
    have e3 := Int.emod_lt_of_pos (x : Int) (show 0 < (c : Int) by omega)
    unfold sgn
    by_cases hr : x % c = 0
    · simp only [if_true, hr, ne_eq, not_true_eq_false, and_false, if_false]
      rw [h1]
      exact ((Int.ediv_emod_unique (a := -(x : Int)) (b := c) (r := 0) (q := -((x : Int) / c)) (by omega)).2 ⟨by rw [Int.mul_neg, Int.mul_comm]; omega, by omega, by omega⟩).1
    · simp only [if_true, hr, ne_eq, not_false_eq_true, and_self]
      have := ((Int.ediv_emod_unique (a := -(x : Int)) (b := c) (r := c - (x : Int) % c) (q := -((x : Int) / c) - 1) (by omega)).2 ⟨by rw [Int.mul_sub, Int.mul_neg, Int.mul_comm]; omega, by omega, by omega⟩).1
      rw [this]; omega
/-- What whole says is what slim says. -/
theorem whole_slim (m : Bool) (q : Nat) : (wholeB m q = true ∧ wholeI m q = slimI (sgn m q) ∧ slimE (sgn m q) = 0) ∨ (wholeB m q = false ∧ slimI (sgn m q) = 0 ∧ slimE (sgn m q) = 3) := by
  unfold wholeB wholeI slimI slimE sgn
  cases m
  · simp only [Bool.false_eq_true, if_false, decide_eq_true_eq, decide_eq_false_iff_not]
    by_cases h : q ≤ 9223372036854775807
    · left; refine ⟨h, ?_, ?_⟩
      · rw [if_pos h, if_pos (by omega)]
      · rw [if_pos (by omega)]
    · right; refine ⟨h, ?_, ?_⟩
      · rw [if_neg (by omega)]
      · rw [if_neg (by omega)]
  · simp only [if_true, decide_eq_true_eq, decide_eq_false_iff_not]
    by_cases h : q ≤ 9223372036854775808
    · left; refine ⟨h, ?_, ?_⟩
      · rw [if_pos h, if_pos (by omega)]
      · rw [if_pos (by omega)]
    · right; refine ⟨h, ?_, ?_⟩
      · rw [if_neg (by omega)]
      · rw [if_neg (by omega)]

theorem rdown_no (m : Bool) (f : Nat → Int) (c : Int) (w : World) (hc : c < 1) : Calls Try.prog 20 #[.agg (numA m f), .int .i64 c] w fun e w' => e = .returned (.tuple #[.int .i64 0, .int .i64 2]) ∧ Keeps [] w w' := by
  go_enter Try.func20, Try.ntmps20
  go_wp2
  go_ret2
  exact ⟨rfl, (Keeps.refl _ _).alloc _⟩
theorem rnear_no (m : Bool) (f : Nat → Int) (c : Int) (w : World) (hc : c < 1) : Calls Try.prog 22 #[.agg (numA m f), .int .i64 c] w fun e w' => e = .returned (.tuple #[.int .i64 0, .int .i64 2]) ∧ Keeps [] w w' := by
  go_enter Try.func22, Try.ntmps22
  go_wp2
  go_ret2
  exact ⟨rfl, (Keeps.refl _ _).alloc _⟩

set_option maxHeartbeats 4000000 in
theorem rdown_yes (m : Bool) (x : Nat) (c : Int) (w : World) (hx : x < 256 ^ 18) (hc : 1 ≤ c) (hc1 : c ≤ 9223372036854775807) :
    Calls Try.prog 20 #[.agg (numA m (dig x)), .int .i64 c] w fun e w' => e = .returned (.tuple #[.int .i64 (slimI (sgn m x / c)), .int .i64 (slimE (sgn m x / c))]) ∧ Keeps [] w w' := by
  obtain ⟨C, hC⟩ : ∃ C : Nat, c = (C : Int) := ⟨c.toNat, by omega⟩
  have hC0 : 0 < C := by omega
  have hC8 : C < 256 ^ 8 := by rw [e8]; omega
  have hx20 : x < 256 ^ 20 := Nat.lt_of_lt_of_le hx (Nat.pow_le_pow_right (by decide) (by decide))
  have hsd := sgn_down m x C hC0
  rw [← hC] at hsd
  obtain ⟨q0, hq0⟩ : ∃ q, q = x / C := ⟨_, rfl⟩
  obtain ⟨r, hr⟩ : ∃ q, q = x % C := ⟨_, rfl⟩
  have hq18 : q0 < 256 ^ 18 := by rw [hq0]; exact Nat.lt_of_le_of_lt (Nat.div_le_self _ _) hx
  have hr20 : r < 256 ^ 20 := by rw [hr]; exact Nat.lt_of_lt_of_le (Nat.lt_trans (Nat.mod_lt _ hC0) hC8) (Nat.pow_le_pow_right (by decide) (by decide))
  have hq20 : q0 + 1 < 256 ^ 20 := by
    have h1 : (256 : Nat) ^ 18 * 2 ≤ 256 ^ 20 := by decide
    have h2 : 1 < (256 : Nat) ^ 18 := by decide
    omega
  rw [← hq0, ← hr] at hsd
  have hby := by_any x C hx20 hC0 hC8
  rw [← hq0, ← hr, ← hC] at hby
  have HBY := Lib.hid hby
  have HSD := Lib.hid hsd
  have HR20 := Lib.hid hr20
  have HQ20 := Lib.hid hq20
  have hcu : IntKind.u64.wrap c = c := by rw [IntKind.wrap_u64]; omega
  have hcn : ¬ c < 1 := by omega
  have hz : r = 0 ∨ r ≠ 0 := by omega
  clear hby hsd hr20 hq20 hC hC8 hC0 hq0 hr hq18 hx20 hx
  go_enter Try.func20, Try.ntmps20
  go_upto_region 1 with fail
  have n1 : NumAt (w.alloc (.cells (numA m (dig x)) 29)) w.heap.size m (dig x) := heap_alloc_new w _
  have k0 : Keeps [] w (w.alloc (.cells (numA m (dig x)) 29)) := (Keeps.refl _ _).alloc _
  generalize w.alloc (.cells (numA m (dig x)) 29) = w0 at *
  go_wp2_with (refine ld_mid _ n1 rfl rfl rfl ?_; simp only [Act.put])
  refine (HBY.out _).mono ?_
  rintro e w1 ⟨rfl, k1⟩
  have s1 : w.heap.size < w1.heap.size := lt_of_block (k1.held n1 (by simp))
  have hN0 : NumAt ((w1.alloc (.cells (arr (dig 0)) 27)).alloc (.cells (arr (dig 0)) 27)) w.heap.size m (dig x) := heap_alloc_held (heap_alloc_held (k1.held n1 (by simp)) _) _
  have hq1 : ArrAt ((w1.alloc (.cells (arr (dig 0)) 27)).alloc (.cells (arr (dig 0)) 27)) w1.heap.size (dig 0) := heap_alloc2_old w1 _ _
  have hr1 : ArrAt ((w1.alloc (.cells (arr (dig 0)) 27)).alloc (.cells (arr (dig 0)) 27)) (w1.heap.size + 1) (dig 0) := heap_alloc2_new w1 _ _
  have kk1 := ((k0.trans0 k1).alloc (.cells (arr (dig 0)) 27)).alloc (.cells (arr (dig 0)) 27)
  clear n1 k0 k1
  go_upto_region 4 with (first
    | (simp only [zeros_eq])
    | (refine st_arr _ _ hq1 rfl rfl rfl rfl ?_; intro w2 h2 k2 s2; simp only [Act.put]; have hr2 : ArrAt w2 (w1.heap.size + 1) (dig 0) := k2.held hr1 (by simp); have hN2 : NumAt w2 w.heap.size m (dig x) := k2.held hN0 (by simp; omega); have kk2 := kk1.trans k2 (by simp; omega); clear hq1 hr1 hN0 kk1 k2 s2)
    | (refine st_arr _ _ hr2 rfl rfl rfl rfl ?_; intro w3 hr k3 s3; simp only [Act.put]; have hq : ArrAt w3 w1.heap.size (dig q0) := k3.held h2 (by simp); have hN : NumAt w3 w.heap.size m (dig x) := k3.held hN2 (by simp; omega); have kk := kk2.trans k3 (by simp; omega); clear hr2 hN2 kk2 k3 s3 h2))
  obtain ⟨G, hG⟩ : ∃ G, w1.heap.size = G := ⟨_, rfl⟩
  rw [hG] at hq hr s1 ⊢
  clear hG
  have c1 := NumAt.sign hN
  cases m
  · have HSF : Hid (sgn false x / c = sgn false q0) := Lib.hid (by simpa using HSD.out)
    go_wp2_with (first | (refine ld_arr _ hq rfl rfl rfl ?_; simp only [Act.put]) | (refine bd_num _ _ rfl rfl rfl rfl ?_; simp only [Act.put]))
    refine (whole_any false (q0) (by have := HQ20.out; omega) _).mono ?_
    rintro e w9 ⟨he, k9⟩
    rcases whole_slim false (q0) with ⟨f1, f2, f3⟩ | ⟨f1, f2, f3⟩
    · rw [f1, f2] at he
      subst he
      have HF := Lib.hid f3
      clear f1 f2 f3
      go_wp2_with fail
      go_ret2
      exact ⟨by rw [HSF.out, HF.out]; rfl, kk.trans0 k9⟩
    · rw [f1] at he
      subst he
      have HF := Lib.hid f2
      have HG := Lib.hid f3
      clear f1 f2 f3
      go_wp2_with fail
      go_ret2
      exact ⟨by rw [HSF.out, HF.out, HG.out]; rfl, kk.trans0 k9⟩
  · rcases hz with hz | hz
    · have HSF : Hid (sgn true x / c = sgn true q0) := Lib.hid (by simpa [hz] using HSD.out)
      have HZ := Lib.hid hz
      clear hz HSD
      go_wp2_with (first | (refine ld_arr_g _ hr rfl rfl rfl ?_; simp only [Act.put]))
      refine (zero_any r HR20.out _).mono ?_
      rintro e w4 ⟨he, k4⟩
      rw [show decide (r = 0) = true by simpa using HZ.out] at he
      subst he
      replace hq := k4.held hq (by simp)
      replace hN := k4.held hN (by simp)
      replace kk := kk.trans0 k4
      have c2 := NumAt.sign hN
      clear k4 hr c1
      go_wp2_with (first | (refine ld_arr _ hq rfl rfl rfl ?_; simp only [Act.put]) | (refine bd_num _ _ rfl rfl rfl rfl ?_; simp only [Act.put]))
      refine (whole_any true (q0) (by have := HQ20.out; omega) _).mono ?_
      rintro e w9 ⟨he, k9⟩
      rcases whole_slim true (q0) with ⟨f1, f2, f3⟩ | ⟨f1, f2, f3⟩
      · rw [f1, f2] at he
        subst he
        have HF := Lib.hid f3
        clear f1 f2 f3
        go_wp2_with fail
        go_ret2
        exact ⟨by rw [HSF.out, HF.out]; rfl, kk.trans0 k9⟩
      · rw [f1] at he
        subst he
        have HF := Lib.hid f2
        have HG := Lib.hid f3
        clear f1 f2 f3
        go_wp2_with fail
        go_ret2
        exact ⟨by rw [HSF.out, HF.out, HG.out]; rfl, kk.trans0 k9⟩
    · have HSF : Hid (sgn true x / c = sgn true (q0 + 1)) := Lib.hid (by simpa [hz] using HSD.out)
      have HZ := Lib.hid hz
      clear hz HSD
      go_wp2_with (first | (refine ld_arr_g _ hr rfl rfl rfl ?_; simp only [Act.put]))
      refine (zero_any r HR20.out _).mono ?_
      rintro e w4 ⟨he, k4⟩
      rw [show decide (r = 0) = false by simpa using HZ.out] at he
      subst he
      replace hq := k4.held hq (by simp)
      replace hN := k4.held hN (by simp)
      replace kk := kk.trans0 k4
      clear k4 hr c1
      go_upto_region 5 with fail
      replace kk := kk.drew
      refine wp_region_held_drew (S := fun _ => True) (by kernel_rfl) trivial (fun _ => ?_)
      refine wpAnyH_ready (rs := [0, 1]) (by kernel_rfl) (by simp) ?_
      refine AllReadyH.cons (o := ⟨some 27, _, _, _, _, _⟩) rfl (fun K hK => ?_) (AllReadyH.cons (o := ⟨some 28, _, _, _, _, _⟩) rfl (fun K hK => ?_) AllReadyH.nil)
      · rw [if_pos (by rfl)]
        refine wp_load_row 27 _ rfl G rfl 27 (arr (dig q0)) (0, 0) _ hq Try.underlying27 rfl (by rw [arr_size]; exact infoArr) ?_
        refine hK.out _ _ trivial (fun _ => ?_)
        clear hK K
        simp only [Act.put, List.setIfInBounds_toArray, List.set_cons_zero, List.set_cons_succ]
        refine wpAnyH_ready (rs := [1]) (by kernel_rfl) (by simp) ?_
        refine AllReadyH.cons (o := ⟨some 28, _, _, _, _, _⟩) rfl (fun K hK => ?_) AllReadyH.nil
        rw [if_pos (by rfl)]
        refine wp_call_go0 35 _ rfl (Try.call35 _) (v := .agg (arr (dig 1))) (one_any _) (fun wa ka => ?_)
        replace kk := kk.trans0 ka
        replace hq := ka.held hq (by simp)
        replace hN := ka.held hN (by simp)
        refine hK.out _ _ trivial (fun _ => ?_)
        clear hK K ka
        simp only [Act.put, List.setIfInBounds_toArray, List.set_cons_zero, List.set_cons_succ]
        refine wpAnyH_ready (rs := [2]) (by kernel_rfl) (by simp) ?_
        refine AllReadyH.cons (o := ⟨some 29, _, _, _, _, _⟩) rfl (fun K hK => ?_) AllReadyH.nil
        rw [if_pos (by rfl)]
        refine wp_call_go 30 _ _ _ rfl (.agg (arr (dig q0))) (.agg (arr (dig 1))) rfl rfl (Try.call30 _) (v := .agg (arr (dig (q0 + 1)))) (plus_any q0 1 _) (fun wb kb => ?_)
        replace kk := kk.trans0 kb
        replace hq := kb.held hq (by simp)
        replace hN := kb.held hN (by simp)
        refine hK.out _ _ trivial (fun _ => ?_)
        clear hK K kb
        simp only [Act.put, List.setIfInBounds_toArray, List.set_cons_zero, List.set_cons_succ]
        refine wpAnyH_ready (rs := [3]) (by kernel_rfl) (by simp) ?_
        refine AllReadyH.cons (o := ⟨none, _, _, _, _, _⟩) rfl (fun K hK => ?_) AllReadyH.nil
        rw [if_pos (by rfl)]
        refine wp_store_row _ _ _ rfl G (arr (dig (q0 + 1))) rfl rfl _ (arr (dig q0)) hq (by rw [arr_size]; exact infoArr) (by rw [arr_size, arr_size]) (arr_one _) ?_
        have g1 : Keeps [G] wb (wb.setRow G (arr (dig (q0 + 1)))) := (Keeps.refl _ _).setRow (.inl (by simp)) _
        have a1 : ArrAt (wb.setRow G (arr (dig (q0 + 1)))) G (dig (q0 + 1)) := setRow_heap wb _ _ _ _ _ hq
        have a2 : NumAt (wb.setRow G (arr (dig (q0 + 1)))) w.heap.size true (dig x) := g1.held hN (by simp; omega)
        replace kk := kk.trans g1 (by simp; omega)
        refine hK.out _ _ trivial (fun _ => ?_)
        clear hK K hq hN g1
        generalize wb.setRow G (arr (dig (q0 + 1))) = wd at *
        refine wpAnyH_done (by kernel_rfl) ?_ _
        have c2 := NumAt.sign a2
        go_wp2_with (first | (refine ld_arr _ a1 rfl rfl rfl ?_; simp only [Act.put]) | (refine bd_num _ _ rfl rfl rfl rfl ?_; simp only [Act.put]))
        refine (whole_any true (q0 + 1) (by have := HQ20.out; omega) _).mono ?_
        rintro e w9 ⟨he, k9⟩
        rcases whole_slim true (q0 + 1) with ⟨f1, f2, f3⟩ | ⟨f1, f2, f3⟩
        · rw [f1, f2] at he
          subst he
          have HF := Lib.hid f3
          clear f1 f2 f3
          go_wp2_with fail
          go_ret2
          exact ⟨by rw [HSF.out, HF.out]; rfl, kk.trans0 k9⟩
        · rw [f1] at he
          subst he
          have HF := Lib.hid f2
          have HG := Lib.hid f3
          clear f1 f2 f3
          go_wp2_with fail
          go_ret2
          exact ⟨by rw [HSF.out, HF.out, HG.out]; rfl, kk.trans0 k9⟩
      · rw [if_pos (by rfl)]
        refine wp_call_go0 35 _ rfl (Try.call35 _) (v := .agg (arr (dig 1))) (one_any _) (fun wa ka => ?_)
        replace kk := kk.trans0 ka
        replace hq := ka.held hq (by simp)
        replace hN := ka.held hN (by simp)
        refine hK.out _ _ trivial (fun _ => ?_)
        clear hK K ka
        simp only [Act.put, List.setIfInBounds_toArray, List.set_cons_zero, List.set_cons_succ]
        refine wpAnyH_ready (rs := [0]) (by kernel_rfl) (by simp) ?_
        refine AllReadyH.cons (o := ⟨some 27, _, _, _, _, _⟩) rfl (fun K hK => ?_) AllReadyH.nil
        rw [if_pos (by rfl)]
        refine wp_load_row 27 _ rfl G rfl 27 (arr (dig q0)) (0, 0) _ hq Try.underlying27 rfl (by rw [arr_size]; exact infoArr) ?_
        refine hK.out _ _ trivial (fun _ => ?_)
        clear hK K
        simp only [Act.put, List.setIfInBounds_toArray, List.set_cons_zero, List.set_cons_succ]
        refine wpAnyH_ready (rs := [2]) (by kernel_rfl) (by simp) ?_
        refine AllReadyH.cons (o := ⟨some 29, _, _, _, _, _⟩) rfl (fun K hK => ?_) AllReadyH.nil
        rw [if_pos (by rfl)]
        refine wp_call_go 30 _ _ _ rfl (.agg (arr (dig q0))) (.agg (arr (dig 1))) rfl rfl (Try.call30 _) (v := .agg (arr (dig (q0 + 1)))) (plus_any q0 1 _) (fun wb kb => ?_)
        replace kk := kk.trans0 kb
        replace hq := kb.held hq (by simp)
        replace hN := kb.held hN (by simp)
        refine hK.out _ _ trivial (fun _ => ?_)
        clear hK K kb
        simp only [Act.put, List.setIfInBounds_toArray, List.set_cons_zero, List.set_cons_succ]
        refine wpAnyH_ready (rs := [3]) (by kernel_rfl) (by simp) ?_
        refine AllReadyH.cons (o := ⟨none, _, _, _, _, _⟩) rfl (fun K hK => ?_) AllReadyH.nil
        rw [if_pos (by rfl)]
        refine wp_store_row _ _ _ rfl G (arr (dig (q0 + 1))) rfl rfl _ (arr (dig q0)) hq (by rw [arr_size]; exact infoArr) (by rw [arr_size, arr_size]) (arr_one _) ?_
        have g1 : Keeps [G] wb (wb.setRow G (arr (dig (q0 + 1)))) := (Keeps.refl _ _).setRow (.inl (by simp)) _
        have a1 : ArrAt (wb.setRow G (arr (dig (q0 + 1)))) G (dig (q0 + 1)) := setRow_heap wb _ _ _ _ _ hq
        have a2 : NumAt (wb.setRow G (arr (dig (q0 + 1)))) w.heap.size true (dig x) := g1.held hN (by simp; omega)
        replace kk := kk.trans g1 (by simp; omega)
        refine hK.out _ _ trivial (fun _ => ?_)
        clear hK K hq hN g1
        generalize wb.setRow G (arr (dig (q0 + 1))) = wd at *
        refine wpAnyH_done (by kernel_rfl) ?_ _
        have c2 := NumAt.sign a2
        go_wp2_with (first | (refine ld_arr _ a1 rfl rfl rfl ?_; simp only [Act.put]) | (refine bd_num _ _ rfl rfl rfl rfl ?_; simp only [Act.put]))
        refine (whole_any true (q0 + 1) (by have := HQ20.out; omega) _).mono ?_
        rintro e w9 ⟨he, k9⟩
        rcases whole_slim true (q0 + 1) with ⟨f1, f2, f3⟩ | ⟨f1, f2, f3⟩
        · rw [f1, f2] at he
          subst he
          have HF := Lib.hid f3
          clear f1 f2 f3
          go_wp2_with fail
          go_ret2
          exact ⟨by rw [HSF.out, HF.out]; rfl, kk.trans0 k9⟩
        · rw [f1] at he
          subst he
          have HF := Lib.hid f2
          have HG := Lib.hid f3
          clear f1 f2 f3
          go_wp2_with fail
          go_ret2
          exact ⟨by rw [HSF.out, HF.out, HG.out]; rfl, kk.trans0 k9⟩
end Go.Proofs.Ytdanmeemoifapaa
