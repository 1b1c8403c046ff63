/- The document's wide numbers: the contract of by: divided digit by digit. No condition but that the number is below 256 to 20 and the divisor a word above 0. -/
import Derived.Test.YtdanmeemoifapaaDg
import Derived.Deep.LoopGhost
import Derived.Deep.RegionHeld3
namespace Go.Proofs.Ytdanmeemoifapaa
open Go.RowKit
set_option linter.unusedVariables false

theorem div_step (x c k : Nat) (hc : 0 < c) :
    (x / 256 ^ (k + 1) % c * 256 + x / 256 ^ k % 256) % c = x / 256 ^ k % c ∧ (x / 256 ^ (k + 1) % c * 256 + x / 256 ^ k % 256) / c = x / c / 256 ^ k % 256 ∧
      x / 256 ^ (k + 1) % c * 256 + x / 256 ^ k % 256 < 256 * c := by
  have e0 : x / c / 256 ^ k = x / 256 ^ k / c := by rw [Nat.div_div_eq_div_mul, Nat.div_div_eq_div_mul, Nat.mul_comm]
  rw [e0, div_succ]
  generalize x / 256 ^ k = P
  have h1 := Nat.div_add_mod P 256
  have h2 := Nat.div_add_mod (P / 256) c
  have h3 := Nat.mod_lt (P / 256) hc
  obtain ⟨V, hV⟩ : ∃ V, V = P / 256 % c * 256 + P % 256 := ⟨_, rfl⟩
  have hb : V < 256 * c := by omega
  have e1 : P = V + c * (P / 256 / c * 256) := by
    rw [← Nat.mul_assoc]
    generalize c * (P / 256 / c) = m at *
    omega
  have h4 : V / c < 256 := Nat.div_lt_of_lt_mul (by rw [Nat.mul_comm]; exact hb)
  rw [← hV]
  refine ⟨?_, ?_, hb⟩
  · conv => rhs; rw [e1]
    rw [Nat.add_mul_mod_self_left]
  · conv => rhs; rw [e1]
    rw [Nat.add_mul_div_left _ _ hc]
    generalize V / c = q at *
    generalize P / 256 / c = q' at *
    omega

theorem setRow_same {w : World} {g : Nat} {cs : Array Value} {t : TypeId} {fr : Nat × Nat} (h : w.heap[g]? = some (.cells cs t fr)) : w.setRow g cs = w := by
  cases w
  simp only [World.setRow] at *
  congr 1
  apply Array.ext_getElem?
  intro i
  rw [Array.getElem?_modify]
  by_cases e : g = i
  · subst e; rw [h]; simp
  · simp [e]

/-- What is written is what lies there. -/
theorem st_same {ops : Array Oper} {rest : List Oper} {o : Oper} {a : Act} {w : World} {Q : Exit → Act → World → Prop} (x y : Operand) {g : Nat} {f : Nat → Int} (hg : ArrAt w g f) (hgd : o.guard = none) (ho : o.op = .store 27 x y) (hx : a.eval x = .pointer (some ⟨g, 0, none⟩)) (hy : a.eval y = .agg (arr f))
    (h : wpList Try.prog ops Q rest (a.put o.dst undef) w) : wpList Try.prog ops Q (o :: rest) a w :=
  wpList_store_row hgd 27 x y ho g (arr f) hx hy 27 (arr f) hg (by rw [arr_size]; exact infoArr) (by rw [arr_size]) (arr_one f) (by rw [setRow_same hg]; exact h)

structure By (w wr : World) (x : Nat) (Q R D : Nat → Int) : Prop where
  kp : Keeps [] w wr
  d : ArrAt wr w.heap.size (dig x)
  o1 : ArrAt wr (w.heap.size + 1) (dig 0)
  o2 : ArrAt wr (w.heap.size + 2) (dig 0)
  q : ArrAt wr (w.heap.size + 3) Q
  r : ArrAt wr (w.heap.size + 4) R
  n : ArrAt wr (w.heap.size + 5) D

/-- Six arrays, one behind the other. -/
abbrev six (w : World) (x : Nat) : World := (((((w.alloc (.cells (arr (dig x)) 27)).alloc (.cells (arr (dig 0)) 27)).alloc (.cells (arr (dig 0)) 27)).alloc (.cells (arr (dig 0)) 27)).alloc (.cells (arr (dig 0)) 27)).alloc (.cells (arr (dig 0)) 27)

theorem alloc_at {w : World} {n : Nat} (o : Obj) (h : w.heap.size = n) : (w.alloc o).heap[n]? = some o := by rw [← h]; exact heap_alloc_new w o
theorem By.start (w : World) (x : Nat) : By w (six w x) x (dig 0) (dig 0) (dig 0) := by
  refine ⟨(((((((Keeps.refl _ _).alloc _).alloc _).alloc _).alloc _).alloc _).alloc _), ?_, ?_, ?_, ?_, ?_, ?_⟩
  · exact heap_alloc_held (heap_alloc_held (heap_alloc_held (heap_alloc_held (heap_alloc_held (heap_alloc_new w _) _) _) _) _) _
  · exact heap_alloc_held (heap_alloc_held (heap_alloc_held (heap_alloc_held (alloc_at _ (by simp)) _) _) _) _
  · exact heap_alloc_held (heap_alloc_held (heap_alloc_held (alloc_at _ (by simp)) _) _) _
  · exact heap_alloc_held (heap_alloc_held (alloc_at _ (by simp)) _) _
  · exact heap_alloc_held (alloc_at _ (by simp)) _
  · exact alloc_at _ (by simp)

theorem By.setN {w wr : World} {x : Nat} {Q R D : Nat → Int} (h : By w wr x Q R D) (k : Nat) (v : Int) : By w (wr.setCell ⟨w.heap.size + 5, k, none⟩ (.int .i64 v)) x Q R (fun j => if j = k then v else D j) :=
  ⟨h.kp.setCell (.inr (show w.heap.size ≤ w.heap.size + 5 by omega)) _, (heap_setCell_other (by simp) _).trans h.d, (heap_setCell_other (by simp) _).trans h.o1, (heap_setCell_other (by simp) _).trans h.o2, (heap_setCell_other (by simp) _).trans h.q, (heap_setCell_other (by simp) _).trans h.r, h.n.set k v⟩
theorem By.setR {w wr : World} {x : Nat} {Q R D : Nat → Int} (h : By w wr x Q R D) (k : Nat) (v : Int) : By w (wr.setCell ⟨w.heap.size + 4, k, none⟩ (.int .i64 v)) x Q (fun j => if j = k then v else R j) D :=
  ⟨h.kp.setCell (.inr (show w.heap.size ≤ w.heap.size + 4 by omega)) _, (heap_setCell_other (by simp) _).trans h.d, (heap_setCell_other (by simp) _).trans h.o1, (heap_setCell_other (by simp) _).trans h.o2, (heap_setCell_other (by simp) _).trans h.q, h.r.set k v, (heap_setCell_other (by simp) _).trans h.n⟩
theorem By.setQ {w wr : World} {x : Nat} {Q R D : Nat → Int} (h : By w wr x Q R D) (k : Nat) (v : Int) : By w (wr.setCell ⟨w.heap.size + 3, k, none⟩ (.int .i64 v)) x (fun j => if j = k then v else Q j) R D :=
  ⟨h.kp.setCell (.inr (show w.heap.size ≤ w.heap.size + 3 by omega)) _, (heap_setCell_other (by simp) _).trans h.d, (heap_setCell_other (by simp) _).trans h.o1, (heap_setCell_other (by simp) _).trans h.o2, h.q.set k v, (heap_setCell_other (by simp) _).trans h.r, (heap_setCell_other (by simp) _).trans h.n⟩
theorem By.keep {w wr wz : World} {x : Nat} {Q R D : Nat → Int} (h : By w wr x Q R D) (k : Keeps [] wr wz) : By w wz x Q R D :=
  ⟨h.kp.trans0 k, k.held h.d (by simp), k.held h.o1 (by simp), k.held h.o2 (by simp), k.held h.q (by simp), k.held h.r (by simp), k.held h.n (by simp)⟩
theorem By.newR {w wr wz : World} {x : Nat} {Q R R' D : Nat → Int} (h : By w wr x Q R D) (k : Keeps [w.heap.size + 4] wr wz) (hr : ArrAt wz (w.heap.size + 4) R') : By w wz x Q R' D :=
  ⟨h.kp.trans k (by simp), k.held h.d (by simp), k.held h.o1 (by simp), k.held h.o2 (by simp), k.held h.q (by simp), hr, k.held h.n (by simp)⟩
theorem By.congr {w wr : World} {x : Nat} {Q R D Q' R' D' : Nat → Int} (h : By w wr x Q R D) (eq : ∀ k, k < 20 → Q k = Q' k) (er : ∀ k, k < 20 → R k = R' k) (ed : ∀ k, k < 20 → D k = D' k) : By w wr x Q' R' D' :=
  ⟨h.kp, h.d, h.o1, h.o2, h.q.congr eq, h.r.congr er, h.n.congr ed⟩

/-- What is left, moved up by one digit, from above down to j. -/
def shF (R j : Nat) : Nat → Int := fun t => if j < t then dig R (t - 1) else dig R t
theorem shF_set (R j : Nat) : (fun t => if t = j + 1 then dig R j else shF R (j + 1) t) = shF R j := by
  funext t
  unfold shF
  by_cases h1 : t = j + 1
  · subst h1; rw [if_pos rfl, if_pos (by omega)]; rfl
  · rw [if_neg h1]
    by_cases h2 : j + 1 < t
    · rw [if_pos h2, if_pos (by omega)]
    · rw [if_neg h2, if_neg (by omega)]
theorem dig_up (R d t : Nat) (hd : d < 256) : dig (R * 256 + d) (t + 1) = dig R t := by
  unfold dig
  rw [Nat.pow_succ', ← Nat.div_div_eq_div_mul, show (R * 256 + d) / 256 = R by omega]
theorem dig_up0 (R d : Nat) (hd : d < 256) : dig (R * 256 + d) 0 = d := by
  unfold dig
  rw [Nat.pow_zero, Nat.div_one]; omega
theorem shF_end (R d : Nat) (hd : d < 256) : (fun t => if t = 0 then (d : Int) else shF R 0 t) = dig (R * 256 + d) := by
  funext t
  cases t with
  | zero => rw [if_pos rfl, dig_up0 R d hd]
  | succ t => rw [if_neg (by omega), dig_up R d t hd]; unfold shF; rw [if_pos (by omega)]; rfl
theorem shF_start (R : Nat) (hR : R < 256 ^ 19) : ∀ k, k < 20 → dig R k = shF R 19 k := by
  intro k hk
  unfold shF
  rw [if_neg (by omega)]

/-- The quotient's digits so far. -/
def quF (q k : Nat) (t : Int) : Nat → Int := fun j => if k < j then dig q j else if j = k then t else 0
theorem quF_set (q k : Nat) (t t' : Int) : (fun j => if j = k then t' else quF q k t j) = quF q k t' := by
  funext j
  unfold quF
  by_cases h : j = k
  · subst h; rw [if_pos rfl, if_neg (by omega), if_pos rfl]
  · rw [if_neg h, if_neg h, if_neg h]
theorem quF_down (q k : Nat) (t : Int) (h : t = dig q (k + 1)) : quF q (k + 1) t = quF q k 0 := by
  funext j
  unfold quF
  by_cases h1 : k + 1 < j
  · rw [if_pos h1, if_pos (by omega)]
  · rw [if_neg h1]
    by_cases h2 : j = k + 1
    · subst h2; rw [if_pos rfl, if_pos (by omega), h]
    · rw [if_neg h2, if_neg (by omega)]
      by_cases h3 : j = k
      · rw [if_pos h3]
      · rw [if_neg h3]

theorem rangeAt_arr {w : World} {g : Nat} {f : Nat → Int} (h : ArrAt w g f) : w.rangeAt g 0 (arr f).toList := by
  have := World.rangeAt_of_block h 0 20
  have e : ((arr f).extract 0 (0 + 20)).toList = (arr f).toList := by
    have : (arr f).extract 0 (0 + 20) = arr f := by
      rw [← arr_size f, Nat.zero_add, Array.extract_size]
    rw [this]
  rwa [e] at this
theorem there_arr {w : World} {g : Nat} {f : Nat → Int} (h : ArrAt w g f) : w.there g 0 20 := fun j hj => by
  rw [Nat.zero_add]
  exact ⟨by rw [ArrAt.cell h j hj]; rfl, frozen_of_block h j⟩

theorem ret_two {fn : Func} {p q : Tmp} (h : fn.results = #[.cell p 27, .cell q 27]) {tmps : Array Value} {w : World} {g g' : Nat} {f f' : Nat → Int} (hg : ArrAt w g f) (hg' : ArrAt w g' f') (hp : tmps.getD p undef = .pointer (some ⟨g, 0, none⟩)) (hq : tmps.getD q undef = .pointer (some ⟨g', 0, none⟩)) :
    (results fn tmps).run Try.prog w = .ok (.tuple #[.agg (arr f), .agg (arr f')]) w := by
  have l1 := run_loadVar_row (P := Try.prog) w g 27 27 (arr f) (0, 0) _ hg Try.underlying27 rfl (by rw [arr_size]; exact infoArr)
  have l2 := run_loadVar_row (P := Try.prog) w g' 27 27 (arr f') (0, 0) _ hg' Try.underlying27 rfl (by rw [arr_size]; exact infoArr)
  have hp' : tmps[p]?.getD undef = .pointer (some ⟨g, 0, none⟩) := by simpa using hp
  have hq' : tmps[q]?.getD undef = .pointer (some ⟨g', 0, none⟩) := by simpa using hq
  simp [results, h, hp', hq', asAddr, l1, l2]

set_option maxHeartbeats 4000000 in
theorem by_any (x c : Nat) (hx : x < 256 ^ 20) (hc : 0 < c) (hc8 : c < 256 ^ 8) (w : World) :
    Calls Try.prog 34 #[.agg (arr (dig x)), .int .u64 c] w fun e w' => e = .returned (.tuple #[.agg (arr (dig (x / c))), .agg (arr (dig (x % c)))]) ∧ Keeps [] w w' := by
  obtain ⟨C, hC⟩ : ∃ C : Int, C = (c : Nat) := ⟨_, rfl⟩
  have hC0 : 0 ≤ C := by omega
  have hC1 : C < 18446744073709551616 := by rw [e8] at hc8; omega
  rw [← hC]
  have HC := Lib.hid hC
  have HC8 := Lib.hid hc8
  have HCP := Lib.hid hc
  have HX := Lib.hid (Nat.div_eq_of_lt hx)
  have HX2 := Lib.hid hx
  clear hC hc8 hc hx
  go_enter Try.func34, Try.ntmps34
  go_upto_region 1 with fail
  simp only [zeros_eq]
  have hB := By.start w x
  go_upto_region 3 with (first
    | (simp only [zeros_eq])
    | (refine st_same _ _ (heap_alloc_held (alloc_at (n := w.heap.size + 3) _ (by simp)) _) rfl rfl rfl rfl ?_; simp only [Act.put])
    | (refine st_same _ _ (alloc_at (n := w.heap.size + 4) _ (by simp)) rfl rfl rfl rfl ?_; simp only [Act.put])
    | (refine st_same _ _ (alloc_at (n := w.heap.size + 5) _ (by simp)) rfl rfl rfl rfl ?_; simp only [Act.put]))
  simp only [Nat.add_assoc, Nat.reduceAdd]
  unfold six at hB
  generalize (((((w.alloc (.cells (arr (dig x)) 27)).alloc (.cells (arr (dig 0)) 27)).alloc (.cells (arr (dig 0)) 27)).alloc (.cells (arr (dig 0)) 27)).alloc (.cells (arr (dig 0)) 27)).alloc (.cells (arr (dig 0)) 27) = w6 at *
  go_wp2_with fail
  go_loopw [9, 10] (fun xv iv wr => ∃ (k : Nat) (V : Int), k ≤ 8 ∧ iv = .int .i64 k ∧ xv = .int .u64 V ∧ V = (c / 256 ^ k : Nat) ∧ 0 ≤ V ∧ V < 18446744073709551616 ∧ By w wr x (dig 0) (dig 0) (mixF c 0 k)) (fun _ iv _ => 8 - (intOf iv).toNat)
  case atStart => exact ⟨0, C, by omega, rfl, rfl, by rw [HC.out]; simp, hC0, hC1, by rw [show mixF c 0 0 = dig 0 from mix0 c 0]; exact hB⟩
  case round =>
    clear hB
    obtain ⟨k, V, hk, rfl, rfl, hV, hV0, hV1, hB⟩ := hrel
    by_cases hlt : k < 8
    · have c0 := hB.n.cell k (by omega)
      have f0 := frozen_of_block hB.n k
      have hd := dig_low c k
      rw [← hV] at hd
      have HD := Lib.hid hd
      have HB := Lib.hid hB
      have hk8 : (k : Int) < 8 := by omega
      clear hd hB hV
      go_wp2_with fail
      go_roundw
      case rel =>
        refine ⟨k + 1, V / 256, by omega, by go_num, rfl, HD.out.2, by omega, by omega, ?_⟩
        have := HB.out.setN k (V % 256)
        rw [mix_set c 0 k _ HD.out.1] at this
        exact this
      case measure => simp [intOf]; omega
    · have hk8 : k = 8 := by omega
      subst hk8
      have hB2 : By w wr x (quF (x / c) 20 0) (dig (x / 256 ^ 20 % c)) (dig c) := hB.congr
        (fun k hk => by unfold quF; rw [if_neg (by omega), if_neg (by omega)]; simp [dig])
        (fun k hk => by rw [HX.out, Nat.zero_mod])
        (fun k hk => by
          unfold mixF
          split
          · rfl
          · rw [dig_high (x := 0) (n := 0) (by decide) (Nat.zero_le _), dig_high HC8.out (by omega)])
      clear hB hV hV0 hV1
      go_wp2_with fail
      go_loopw [11] (fun iv wr => ∃ k : Nat, k ≤ 20 ∧ iv = .int .i64 ((k : Int) - 1) ∧ ∃ t : Int, (k < 20 → t = dig (x / c) k) ∧ (k = 20 → t = 0) ∧ By w wr x (quF (x / c) k t) (dig (x / 256 ^ k % c)) (dig c)) (fun iv _ => (intOf iv + 1).toNat)
      case atStart => exact ⟨20, by omega, by simp, 0, by omega, fun _ => rfl, hB2⟩
      case round =>
        clear hB2
        obtain ⟨k, hk, rfl, t, ht, ht2, hB⟩ := hrel
        cases k with
        | zero =>
          have hB2 : By w wr x (dig (x / c)) (dig (x % c)) (dig c) := by
            refine hB.congr (fun j hj => ?_) (fun j hj => by simp) (fun j hj => rfl)
            unfold quF
            split
            · rfl
            · rw [if_pos (by omega), ht (by omega)]; congr 1; omega
          clear hB ht ht2
          go_upto_region 20 with fail
          have hu : Try.prog.underlying 27 = some (.array 20 3) := Try.underlying27
          have hl1 : (arr (dig (x / c))).toList.length = 20 := by rw [Array.length_toList]; exact arr_size _
          have hl2 : (arr (dig (x % c))).toList.length = 20 := by rw [Array.length_toList]; exact arr_size _
          have hi1 : (Try.prog.info? 27).map (·.size) = some (arr (dig (x / c))).toList.length := by rw [hl1]; exact infoArr
          have hi2 : (Try.prog.info? 27).map (·.size) = some (arr (dig (x % c))).toList.length := by rw [hl2]; exact infoArr
          have r1 := rangeAt_arr hB2.q
          have r2 := rangeAt_arr hB2.r
          have t1 := there_arr hB2.o1
          have t2 := there_arr hB2.o2
          have HB2 := Lib.hid hB2
          clear hB2
          refine wp_region_held_drew (S := fun w' => ArrAt w' (w.heap.size + 3) (dig (x / c)) ∧ ArrAt w' (w.heap.size + 4) (dig (x % c))) (by kernel_rfl) ⟨HB2.out.q, HB2.out.r⟩ (fun hHeld => ?_)
          refine wpAnyH_take (i := 0) rfl (by kernel_rfl) (by kernel_rfl) (by kernel_rfl) (fun _ _ _ h => h) (yieldsIf_load_mid (by rfl) _ _ rfl _ _ rfl (arr (dig (x / c))).toList _ (fun _ h => rangeAt_arr h.1) hu rfl hi1) hHeld ?_
          refine wpAnyH_take (i := 1) rfl (by kernel_rfl) (by kernel_rfl) (by kernel_rfl) (fun _ _ _ h => h) (yieldsIf_load_mid (by rfl) _ _ rfl _ _ rfl (arr (dig (x % c))).toList _ (fun _ h => rangeAt_arr h.2) hu rfl hi2) hHeld ?_
          refine wpAnyH_ready (rs := [2]) (by kernel_rfl) (by simp) ?_
          refine AllReadyH.cons rfl (fun K hK => ?_) AllReadyH.nil
          rw [if_pos (by rfl)]
          refine wp_store_row _ _ _ rfl (w.heap.size + 1) (arr (dig (x / c))) rfl rfl _ (arr (dig 0)) HB2.out.o1 (by rw [arr_size]; exact infoArr) (by rw [arr_size, arr_size]) (arr_one _) ?_
          have g1 : Keeps [w.heap.size + 1] wr.drew (wr.drew.setRow (w.heap.size + 1) (arr (dig (x / c)))) := (Keeps.refl _ _).setRow (.inl (by simp)) _
          have a1 : ArrAt (wr.drew.setRow (w.heap.size + 1) (arr (dig (x / c)))) (w.heap.size + 1) (dig (x / c)) := setRow_heap wr.drew _ _ _ _ _ HB2.out.o1
          have a2 : ArrAt (wr.drew.setRow (w.heap.size + 1) (arr (dig (x / c)))) (w.heap.size + 2) (dig 0) := g1.held HB2.out.o2 (by simp)
          refine hK.out _ _ ⟨g1.held hHeld.1 (by simp), g1.held hHeld.2 (by simp)⟩ (fun hHeld => ?_)
          have kk1 : Keeps [] w (wr.drew.setRow (w.heap.size + 1) (arr (dig (x / c)))) := (HB2.out.kp.drew).trans g1 (by simp)
          clear hK K
          generalize wr.drew.setRow (w.heap.size + 1) (arr (dig (x / c))) = wa at *
          refine wpAnyH_ready (rs := [3]) (by kernel_rfl) (by simp) ?_
          refine AllReadyH.cons rfl (fun K hK => ?_) AllReadyH.nil
          rw [if_pos (by rfl)]
          refine wp_store_row _ _ _ rfl (w.heap.size + 2) (arr (dig (x % c))) rfl rfl _ (arr (dig 0)) a2 (by rw [arr_size]; exact infoArr) (by rw [arr_size, arr_size]) (arr_one _) ?_
          have g2 : Keeps [w.heap.size + 2] wa (wa.setRow (w.heap.size + 2) (arr (dig (x % c)))) := (Keeps.refl _ _).setRow (.inl (by simp)) _
          have a3 : ArrAt (wa.setRow (w.heap.size + 2) (arr (dig (x % c)))) (w.heap.size + 2) (dig (x % c)) := setRow_heap wa _ _ _ _ _ a2
          have a4 : ArrAt (wa.setRow (w.heap.size + 2) (arr (dig (x % c)))) (w.heap.size + 1) (dig (x / c)) := g2.held a1 (by simp)
          refine hK.out _ _ ⟨g2.held hHeld.1 (by simp), g2.held hHeld.2 (by simp)⟩ (fun hHeld => ?_)
          have kk2 : Keeps [] w (wa.setRow (w.heap.size + 2) (arr (dig (x % c)))) := kk1.trans g2 (by simp)
          clear hK K
          generalize wa.setRow (w.heap.size + 2) (arr (dig (x % c))) = wb at *
          refine wpAnyH_done (by kernel_rfl) ?_ _
          clear hHeld
          go_wp2_with fail
          refine bodyPost_ret (ret_two rfl a4 a3 rfl rfl) rfl ⟨rfl, kk2⟩
        | succ k =>
          have ei : ((k + 1 : Nat) : Int) - 1 = k := by omega
          rw [ei]
          clear ei
          have hR : x / 256 ^ (k + 1) % c < 256 ^ 8 := Nat.lt_trans (Nat.mod_lt _ HCP.out) HC8.out
          have hst := div_step x c k HCP.out
          obtain ⟨R, hRe⟩ : ∃ R, R = x / 256 ^ (k + 1) % c := ⟨_, rfl⟩
          obtain ⟨d, hde⟩ : ∃ R, R = x / 256 ^ k % 256 := ⟨_, rfl⟩
          rw [← hRe] at hB hR hst
          rw [← hde] at hst
          have hd256 : d < 256 := by omega
          have hB2 : By w wr x (quF (x / c) k 0) (shF R 19) (dig c) := hB.congr
            (fun j hj => by
              by_cases h20 : k + 1 = 20
              · rw [ht2 h20]
                unfold quF
                rw [if_neg (by omega), if_neg (by omega), if_neg (by omega)]
                split <;> rfl
              · rw [quF_down (x / c) k t (ht (by omega))])
            (shF_start R (Nat.lt_of_lt_of_le hR (Nat.pow_le_pow_right (by decide) (by decide)))) (fun j hj => rfl)
          have HST := Lib.hid hst
          have HDE : Hid (dig x k = (d : Int)) := Lib.hid (by rw [hde]; rfl)
          have hk20 : (k : Int) < 20 := by omega
          clear hB ht ht2 hRe hde hst hR
          obtain ⟨wo, rfl⟩ : ∃ wo : World, wo = wr := ⟨_, rfl⟩
          go_wp2_with fail
          go_loopw [12] (fun jv wr => ∃ j : Nat, j ≤ 19 ∧ jv = .int .i64 j ∧ By w wr x (quF (x / c) k 0) (shF R j) (dig c)) (fun jv _ => (intOf jv).toNat)
          case atStart => exact ⟨19, by omega, rfl, hB2⟩
          case round =>
            clear hB2
            obtain ⟨j, hj, rfl, hB⟩ := hrel
            cases j with
            | succ j =>
              have c0 := hB.r.cell j (by omega)
              have c1 := hB.r.cell (j + 1) (by omega)
              have f1 := frozen_of_block hB.r (j + 1)
              have ez : shF R (j + 1) j = dig R j := by unfold shF; rw [if_neg (by omega)]
              rw [ez] at c0
              obtain ⟨V, hV⟩ : ∃ V, V = dig R j := ⟨_, rfl⟩
              rw [← hV] at c0
              have ej : ((j + 1 : Nat) : Int) - 1 = j := by omega
              have ej2 : (0 : Int) < ((j + 1 : Nat) : Int) := by omega
              have HB := Lib.hid hB
              have HV := Lib.hid hV
              clear hB hV ez
              go_wp2_with fail
              go_roundw
              case rel =>
                refine ⟨j, by omega, by go_num, ?_⟩
                have := HB.out.setR (j + 1) V
                rw [HV.out, shF_set R j] at this
                rw [HV.out]
                exact this
              case measure => simp [intOf]
            | zero =>
              have c0 := hB.d.cell k (by omega)
              rw [HDE.out] at c0
              have c1 := hB.r.cell 0 (by omega)
              have f1 := frozen_of_block hB.r 0
              have hB3 := hB.setR 0 (d : Int)
              rw [shF_end R d hd256] at hB3
              obtain ⟨D, hD⟩ : ∃ D : Int, D = (d : Nat) := ⟨_, rfl⟩
              rw [← hD] at c0 hB3
              have HB3 := Lib.hid hB3
              clear hB hB3 hD hd256
              go_upto_region 17 with fail
              generalize wr.setCell ⟨w.heap.size + 4, 0, none⟩ (.int .i64 D) = wq at *
              clear c0 c1 f1
              go_wp2_with fail
              go_loopg [46] (R * 256 + d) (fun g v wr => ∃ V t : Nat, V ≤ g ∧ V + t * c = R * 256 + d ∧ By w wr x (quF (x / c) k t) (dig V) (dig c))
              case atStart => exact ⟨R * 256 + d, 0, Nat.le_refl _, by simp, HB3.out⟩
              case round =>
                clear HB3
                obtain ⟨V, t, hVg, hVt, hB⟩ := hrel
                have hV20 : V < 256 ^ 20 := by
                  have h1 := HST.out.2.2
                  have h2 := HC8.out
                  have e20 : (256 : Nat) ^ 20 = 1461501637330902918203684832716283019655932542976 := by decide
                  rw [e8] at h2
                  rw [e20]
                  omega
                have hc20 : c < 256 ^ 20 := Nat.lt_of_lt_of_le HC8.out (Nat.pow_le_pow_right (by decide) (by decide))
                have hr := hB.r
                have hn := hB.n
                have HB := Lib.hid hB
                have HVT := Lib.hid hVt
                have HVG := Lib.hid hVg
                by_cases hle : c ≤ V
                · obtain ⟨v, hv⟩ : ∃ v, v = cmpN V c := ⟨_, rfl⟩
                  have hv0 : 0 ≤ v := by rw [hv]; unfold cmpN; rw [if_neg (by omega)]; split <;> omega
                  have HV := Lib.hid hv
                  clear hv hB hVt hVg
                  go_wp2_with (first | (refine ld_arr _ hr rfl rfl rfl ?_; simp only [Act.put]) | (refine ld_arr _ hn rfl rfl rfl ?_; simp only [Act.put]))
                  refine (against_any V c hV20 hc20 _).mono ?_
                  rintro e w1 ⟨he, k1⟩
                  rw [← HV.out] at he
                  subst he
                  have hB1 := HB.out.keep k1
                  have hr1 := hB1.r
                  have hn1 := hB1.n
                  have HB1 := Lib.hid hB1
                  clear hr hn HB hB1 k1
                  go_wp2_with (first | (refine ld_arr _ hr1 rfl rfl rfl ?_; simp only [Act.put]) | (refine ld_arr _ hn1 rfl rfl rfl ?_; simp only [Act.put]))
                  refine (less_any V c _ hle).mono ?_
                  rintro e w2 ⟨rfl, k2⟩
                  have hB2 := HB1.out.keep k2
                  have hr2 := hB2.r
                  have HB2 := Lib.hid hB2
                  clear hr1 hn1 HB1 hB2 k2
                  go_upto_region 19 with (refine st_arr _ _ hr2 rfl rfl rfl rfl ?_; intro w3 h3 k3 s3; simp only [Act.put]; have HB3 := Lib.hid (HB2.out.newR k3 h3); clear h3 k3 s3 hr2)
                  have c1 := HB3.out.q.cell k (by omega)
                  have f1 := frozen_of_block HB3.out.q k
                  have eq1 : quF (x / c) k t k = t := by unfold quF; rw [if_neg (by omega), if_pos rfl]
                  rw [eq1] at c1
                  have ht256 : t < 256 := by
                    have h1 := HST.out.2.2
                    have h2 := HVT.out
                    by_cases h : t < 256
                    · exact h
                    · have := Nat.mul_le_mul_right c (show 256 ≤ t by omega)
                      omega
                  obtain ⟨T, hT⟩ : ∃ T : Int, T = (t : Nat) := ⟨_, rfl⟩
                  have hT0 : 0 ≤ T := by omega
                  have hT1 : T < 256 := by omega
                  rw [← hT] at c1
                  have HT := Lib.hid hT
                  clear hT eq1 ht256
                  go_wp2_with fail
                  go_roundg (V - c)
                  case measure => have := HVG.out; have := HCP.out; omega
                  case rel =>
                    refine ⟨V - c, t + 1, Nat.le_refl _, ?_, ?_⟩
                    · have := HVT.out; rw [Nat.add_mul, Nat.one_mul]; omega
                    · have := HB3.out.setQ k (T + 1)
                      rw [quF_set, HT.out] at this
                      rw [HT.out]
                      simpa using this
                · obtain ⟨v, hv⟩ : ∃ v, v = cmpN V c := ⟨_, rfl⟩
                  have hv0 : v = -1 := by rw [hv]; unfold cmpN; rw [if_pos (by omega)]
                  subst hv0
                  have HV := Lib.hid hv
                  clear hv hB hVt hVg
                  go_wp2_with (first | (refine ld_arr _ hr rfl rfl rfl ?_; simp only [Act.put]) | (refine ld_arr _ hn rfl rfl rfl ?_; simp only [Act.put]))
                  refine (against_any V c hV20 hc20 _).mono ?_
                  rintro e w1 ⟨he, k1⟩
                  rw [← HV.out] at he
                  subst he
                  have hB1 := HB.out.keep k1
                  have HB1 := Lib.hid hB1
                  clear hr hn HB hB1 k1
                  go_wp2_with fail
                  go_roundw
                  case rel =>
                    have e1 : (R * 256 + d) / c = t := by rw [← HVT.out, Nat.add_mul_div_right _ _ HCP.out, Nat.div_eq_of_lt (by omega)]; omega
                    have e2 : (R * 256 + d) % c = V := by rw [← HVT.out, Nat.add_mul_mod_self_right, Nat.mod_eq_of_lt (by omega)]
                    (repeat apply Exists.intro)
                    refine ⟨?_, rfl⟩
                    refine ⟨k, by omega, rfl, t, fun _ => ?_, fun h => by omega, ?_⟩
                    · have := HST.out.2.1
                      rw [e1] at this
                      rw [this]; rfl
                    · have := HST.out.1
                      rw [e2] at this
                      rw [← this]
                      exact HB1.out
                  case measure => simp [intOf]
end Go.Proofs.Ytdanmeemoifapaa
