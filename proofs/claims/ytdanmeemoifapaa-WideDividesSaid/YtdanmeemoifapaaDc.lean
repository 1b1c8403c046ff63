/- The document's wide numbers: the contracts of against, plus, less. No condition but that the digits are those of numbers below 256 to 20. -/
import Derived.Test.YtdanmeemoifapaaDb
namespace Go.Proofs.Ytdanmeemoifapaa
open Go.RowKit
set_option linter.unusedVariables false

/-- Which of two is greater, without signs. -/
def cmpN (x y : Nat) : Int := if x < y then -1 else if y < x then 1 else 0

theorem top_eq {x y : Nat} (hx : x < 256 ^ 20) (hy : y < 256 ^ 20) : x / 256 ^ 20 = y / 256 ^ 20 := by rw [Nat.div_eq_of_lt hx, Nat.div_eq_of_lt hy]

/-- One digit more. -/
theorem digit_step {x y k : Nat} (h : x / 256 ^ (k + 1) = y / 256 ^ (k + 1)) : (dig x k < dig y k ∧ x < y) ∨ (dig y k < dig x k ∧ y < x) ∨ (dig x k = dig y k ∧ x / 256 ^ k = y / 256 ^ k) := by
  rw [div_succ, div_succ] at h
  unfold dig
  have m1 : x < y ∨ ¬ x / 256 ^ k < y / 256 ^ k := by
    by_cases h1 : x < y
    · exact .inl h1
    · exact .inr (by have := Nat.div_le_div_right (c := 256 ^ k) (show y ≤ x by omega); omega)
  have m2 : y < x ∨ ¬ y / 256 ^ k < x / 256 ^ k := by
    by_cases h1 : y < x
    · exact .inl h1
    · exact .inr (by have := Nat.div_le_div_right (c := 256 ^ k) (show x ≤ y by omega); omega)
  generalize x / 256 ^ k = X at *
  generalize y / 256 ^ k = Y at *
  omega

set_option maxHeartbeats 1000000 in
theorem against_any (x y : Nat) (hx : x < 256 ^ 20) (hy : y < 256 ^ 20) (w : World) :
    Calls Try.prog 31 #[.agg (arr (dig x)), .agg (arr (dig y))] w fun e w' => e = .returned (.int .i64 (cmpN x y)) ∧ Keeps [] w w' := by
  obtain ⟨r, hr⟩ : ∃ r, r = cmpN x y := ⟨_, rfl⟩
  rw [← hr]
  have HR := Lib.hid hr
  have HT := Lib.hid (top_eq hx hy)
  clear hr hx hy
  go_enter Try.func31, Try.ntmps31
  go_upto_region 1 with fail
  have h0 : ArrAt ((w.alloc (.cells (arr (dig x)) 27)).alloc (.cells (arr (dig y)) 27)) w.heap.size (dig x) := heap_alloc2_old w _ _
  have h1 : ArrAt ((w.alloc (.cells (arr (dig x)) 27)).alloc (.cells (arr (dig y)) 27)) (w.heap.size + 1) (dig y) := heap_alloc2_new w _ _
  have k0 : Keeps [] w ((w.alloc (.cells (arr (dig x)) 27)).alloc (.cells (arr (dig y)) 27)) := ((Keeps.refl _ _).alloc _).alloc _
  generalize (w.alloc (.cells (arr (dig x)) 27)).alloc (.cells (arr (dig y)) 27) = w0 at *
  go_wp2_with fail
  go_loopw [5] (fun v wr => ∃ k m : Nat, k ≤ 20 ∧ v = .int .i64 ((k : Int) - 1) ∧ x / 256 ^ k = y / 256 ^ k ∧ wr = w0.drewN m) (fun v _ => (intOf v + 1).toNat)
  case atStart => exact ⟨20, 0, by omega, by simp, HT.out, rfl⟩
  case round =>
    obtain ⟨k, m, hk, rfl, he, rfl⟩ := hrel
    cases k with
    | zero =>
      simp only [Nat.pow_zero, Nat.div_one] at he
      have hr : r = 0 := by rw [HR.out, he]; unfold cmpN; rw [if_neg (by omega), if_neg (by omega)]
      subst hr
      have HE := Lib.hid he
      clear he
      go_wp2_with fail
      go_ret
      exact ⟨rfl, k0.drewN _⟩
    | succ k =>
      have hst := digit_step he
      have ei : ((k + 1 : Nat) : Int) - 1 = k := by omega
      have c0 := h0.cell k (by omega)
      have c1 := h1.cell k (by omega)
      obtain ⟨a, ha⟩ : ∃ a, a = dig x k := ⟨_, rfl⟩
      obtain ⟨b, hb⟩ : ∃ a, a = dig y k := ⟨_, rfl⟩
      rw [← ha] at hst c0
      rw [← hb] at hst c1
      have hk20 : (k : Int) < 20 := by omega
      have HH0 := Lib.hid h0
      have HH1 := Lib.hid h1
      have HE := Lib.hid he
      clear ha hb he h0 h1
      rw [ei]
      clear ei
      rcases hst with ⟨g1, g2⟩ | ⟨g1, g2⟩ | ⟨g1, g2⟩
      · have hr : r = -1 := by rw [HR.out]; unfold cmpN; rw [if_pos g2]
        subst hr
        have n1 : decide (a < b) = true := by simpa using g1
        clear g1 g2
        go_wp2_with fail
        go_quiet (fail)
        go_wp2_with fail
        go_ret
        exact ⟨rfl, (k0.drewN _).drewN _⟩
      · have hr : r = 1 := by rw [HR.out]; unfold cmpN; rw [if_neg (by omega), if_pos g2]
        subst hr
        have n1 : decide (a < b) = false := by simp; omega
        have n2 : decide (b < a) = true := by simpa using g1
        clear g1 g2
        go_wp2_with fail
        go_quiet (fail)
        go_wp2_with fail
        go_quiet (fail)
        go_wp2_with fail
        go_ret
        exact ⟨rfl, ((k0.drewN _).drewN _).drewN _⟩
      · have n1 : decide (a < b) = false := by simp; omega
        have n2 : decide (b < a) = false := by simp; omega
        have G2 := Lib.hid g2
        clear g1 g2
        go_wp2_with fail
        go_quiet (fail)
        go_wp2_with fail
        go_quiet (fail)
        go_wp2_with fail
        go_roundw
        case rel => exact ⟨k, _, by omega, rfl, G2.out, rfl⟩
        case measure => simp [intOf]

/-- The cells of a sum, digit by digit. -/
def mixF (s x k : Nat) : Nat → Int := fun j => if j < k then dig s j else dig x j
theorem mix0 (s x : Nat) : mixF s x 0 = dig x := by funext j; simp [mixF]
theorem mix_at (s x k : Nat) : mixF s x k k = dig x k := by simp [mixF]
theorem mix_set (s x k : Nat) (v : Int) (h : v = dig s k) : (fun j => if j = k then v else mixF s x k j) = mixF s x (k + 1) := by
  funext j
  unfold mixF
  by_cases h1 : j = k
  · subst h1; rw [if_pos rfl, if_pos (by omega), h]
  · rw [if_neg h1]
    by_cases h2 : j < k
    · rw [if_pos h2, if_pos (by omega)]
    · rw [if_neg h2, if_neg (by omega)]
theorem mix_end {w : World} {g s x : Nat} (h : ArrAt w g (mixF s x 20)) : ArrAt w g (dig s) := h.congr fun k hk => by unfold mixF; rw [if_pos hk]

structure Sm (w wr : World) (s x y k : Nat) : Prop where
  kp : Keeps [] w wr
  a : ArrAt wr w.heap.size (mixF s x k)
  b : ArrAt wr (w.heap.size + 1) (dig y)
  r : ArrAt wr (w.heap.size + 2) (dig 0)

theorem Sm.start (w : World) (s x y : Nat) : Sm w (((w.alloc (.cells (arr (dig x)) 27)).alloc (.cells (arr (dig y)) 27)).alloc (.cells (arr (dig 0)) 27)) s x y 0 := by
  refine ⟨(((Keeps.refl _ _).alloc _).alloc _).alloc _, ?_, ?_, ?_⟩
  · rw [mix0]; exact heap_alloc_held (heap_alloc2_old w _ _) _
  · exact heap_alloc_held (heap_alloc2_new w _ _) _
  · have e : ((w.alloc (.cells (arr (dig x)) 27)).alloc (.cells (arr (dig y)) 27)).heap.size = w.heap.size + 2 := by simp
    unfold ArrAt
    rw [← e]
    exact heap_alloc_new _ _

theorem Sm.step {w wr : World} {s x y k : Nat} (h : Sm w wr s x y k) (m : Nat) (v : Int) (hv : v = dig s k) : Sm w ((wr.setCell ⟨w.heap.size, k, none⟩ (.int .i64 v)).drewN m) s x y (k + 1) := by
  refine ⟨(h.kp.setCell (.inr (Nat.le_refl _)) _).drewN _, ?_, ?_, ?_⟩
  · have := h.a.set k v
    rw [mix_set s x k v hv] at this
    exact this
  · exact (heap_setCell_other (by simp) _).trans h.b
  · exact (heap_setCell_other (by simp) _).trans h.r

set_option maxHeartbeats 1000000 in
theorem plus_any (x y : Nat) (w : World) :
    Calls Try.prog 30 #[.agg (arr (dig x)), .agg (arr (dig y))] w fun e w' => e = .returned (.agg (arr (dig (x + y)))) ∧ Keeps [] w w' := by
  go_enter Try.func30, Try.ntmps30
  go_upto_region 1 with fail
  simp only [zeros_eq]
  have h0 := Sm.start w (x + y) x y
  generalize ((w.alloc (.cells (arr (dig x)) 27)).alloc (.cells (arr (dig y)) 27)).alloc (.cells (arr (dig 0)) 27) = w0 at *
  go_wp2_with fail
  go_loopw [5, 6] (fun cv iv wr => ∃ k : Nat, k ≤ 20 ∧ iv = .int .i64 k ∧ cv = .int .i64 (carry x y k) ∧ Sm w wr (x + y) x y k) (fun _ iv _ => 20 - (intOf iv).toNat)
  case atStart => exact ⟨0, by omega, rfl, by simp [carry, Nat.mod_one], h0⟩
  case round =>
    obtain ⟨k, hk, rfl, rfl, hS⟩ := hrel
    by_cases hlt : k < 20
    · have c0 := hS.a.cell k hlt
      have c1 := hS.b.cell k hlt
      rw [mix_at] at c0
      have f0 := frozen_of_block hS.a k
      have hd := dig_add x y k
      have b1 := dig_lo x k
      have b2 := dig_hi x k
      have b3 := dig_lo y k
      have b4 := dig_hi y k
      have b5 := carry_le x y k
      obtain ⟨a, ha⟩ : ∃ a, a = dig x k := ⟨_, rfl⟩
      obtain ⟨b, hb⟩ : ∃ a, a = dig y k := ⟨_, rfl⟩
      obtain ⟨c, hc⟩ : ∃ a : Int, a = (carry x y k : Nat) := ⟨_, rfl⟩
      rw [← ha] at c0 hd b1 b2
      rw [← hb] at c1 hd b3 b4
      have b6 : 0 ≤ c := by omega
      have b7 : c ≤ 1 := by omega
      rw [← hc] at hd ⊢
      have HD := Lib.hid hd
      have HS := Lib.hid hS
      clear ha hb hc hd b5 hS
      go_wp2_with fail
      go_quiet (fail)
      go_wp2_with fail
      go_roundw
      case rel => exact ⟨k + 1, by omega, by go_num, by rw [HD.out.2], HS.out.step _ _ HD.out.1.symm⟩
      case measure => simp [intOf]; omega
    · have hk20 : k = 20 := by omega
      subst hk20
      have hA := mix_end hS.a
      have hR := hS.r
      have HK := Lib.hid hS.kp
      obtain ⟨c, hc⟩ : ∃ a : Int, a = (carry x y 20 : Nat) := ⟨_, rfl⟩
      rw [← hc]
      clear hS hc
      go_wp2_with (first | (refine ld_arr _ hA rfl rfl rfl ?_; simp only [Act.put]) | (refine st_arr _ _ hR rfl rfl rfl rfl ?_; intro w1 h1 k1 s1; simp only [Act.put]))
      refine bodyPost_ret (ret_arr rfl h1 rfl) rfl ⟨rfl, HK.out.trans k1 (by simp)⟩

set_option maxHeartbeats 1000000 in
theorem less_any (x y : Nat) (w : World) (hxy : y ≤ x) :
    Calls Try.prog 32 #[.agg (arr (dig x)), .agg (arr (dig y))] w fun e w' => e = .returned (.agg (arr (dig (x - y)))) ∧ Keeps [] w w' := by
  have HXY := Lib.hid hxy
  clear hxy
  go_enter Try.func32, Try.ntmps32
  go_upto_region 1 with fail
  simp only [zeros_eq]
  have h0 := Sm.start w (x - y) x y
  generalize ((w.alloc (.cells (arr (dig x)) 27)).alloc (.cells (arr (dig y)) 27)).alloc (.cells (arr (dig 0)) 27) = w0 at *
  go_wp2_with fail
  go_loopw [5, 6] (fun cv iv wr => ∃ k : Nat, k ≤ 20 ∧ iv = .int .i64 k ∧ cv = .int .i64 (borrow x y k) ∧ Sm w wr (x - y) x y k) (fun _ iv _ => 20 - (intOf iv).toNat)
  case atStart => exact ⟨0, by omega, rfl, by simp [borrow, Nat.mod_one], h0⟩
  case round =>
    obtain ⟨k, hk, rfl, rfl, hS⟩ := hrel
    by_cases hlt : k < 20
    · have c0 := hS.a.cell k hlt
      have c1 := hS.b.cell k hlt
      rw [mix_at] at c0
      have f0 := frozen_of_block hS.a k
      have hd := dig_sub x y k HXY.out
      have b1 := dig_lo x k
      have b2 := dig_hi x k
      have b3 := dig_lo y k
      have b4 := dig_hi y k
      have b5 := borrow_bd x y k
      obtain ⟨a, ha⟩ : ∃ a, a = dig x k := ⟨_, rfl⟩
      obtain ⟨b, hb⟩ : ∃ a, a = dig y k := ⟨_, rfl⟩
      obtain ⟨c, hc⟩ : ∃ a : Int, a = borrow x y k := ⟨_, rfl⟩
      rw [← ha] at c0 hd b1 b2
      rw [← hb] at c1 hd b3 b4
      rw [← hc] at hd b5 ⊢
      have HS := Lib.hid hS
      clear ha hb hc hS
      rcases hd with ⟨g1, g2, g3⟩ | ⟨g1, g2, g3⟩
      · have G2 := Lib.hid g2
        have G3 := Lib.hid g3
        clear g2 g3
        go_wp2_with fail
        go_quiet (fail)
        go_wp2_with fail
        go_roundw
        case rel => exact ⟨k + 1, by omega, by go_num, by rw [G3.out], HS.out.step _ _ G2.out.symm⟩
        case measure => simp [intOf]; omega
      · have n1 : ¬ a - b - c < 0 := by omega
        have G2 := Lib.hid g2
        have G3 := Lib.hid g3
        clear g2 g3
        go_wp2_with fail
        go_quiet (fail)
        go_wp2_with fail
        go_roundw
        case rel => exact ⟨k + 1, by omega, by go_num, by rw [G3.out], HS.out.step _ _ G2.out.symm⟩
        case measure => simp [intOf]; omega
    · have hk20 : k = 20 := by omega
      subst hk20
      have hA := mix_end hS.a
      have hR := hS.r
      have HK := Lib.hid hS.kp
      obtain ⟨c, hc⟩ : ∃ a : Int, a = borrow x y 20 := ⟨_, rfl⟩
      rw [← hc]
      clear hS hc
      go_wp2_with (first | (refine ld_arr _ hA rfl rfl rfl ?_; simp only [Act.put]) | (refine st_arr _ _ hR rfl rfl rfl rfl ?_; intro w1 h1 k1 s1; simp only [Act.put]))
      refine bodyPost_ret (ret_arr rfl h1 rfl) rfl ⟨rfl, HK.out.trans k1 (by simp)⟩
end Go.Proofs.Ytdanmeemoifapaa
