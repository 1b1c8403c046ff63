/- The document's wide numbers: the contracts of Of, whole, Bits. No condition but that all are numbers of their kinds. -/
import Derived.Test.YtdanmeemoifapaaDc
namespace Go.Proofs.Ytdanmeemoifapaa
open Go.RowKit
set_option linter.unusedVariables false

theorem nzeros_eq (m : Bool) : (#[.bool m, .int .i64 0, .int .i64 0, .int .i64 0, .int .i64 0, .int .i64 0, .int .i64 0, .int .i64 0, .int .i64 0, .int .i64 0, .int .i64 0, .int .i64 0, .int .i64 0, .int .i64 0, .int .i64 0, .int .i64 0, .int .i64 0, .int .i64 0, .int .i64 0, .int .i64 0, .int .i64 0] : Array Value) = numA m (dig 0) := by
  have : dig 0 = fun _ => (0 : Int) := by funext k; simp [dig]
  rw [this]; rfl

/-- Digits behind a number's last are 0. -/
theorem dig_high {x n k : Nat} (hx : x < 256 ^ n) (h : n ≤ k) : dig x k = 0 := by
  unfold dig
  rw [Nat.div_eq_of_lt (Nat.lt_of_lt_of_le hx (Nat.pow_le_pow_right (by decide) h))]
  rfl
theorem mixN_end {w : World} {g s n : Nat} {m : Bool} (hs : s < 256 ^ n) (h : NumAt w g m (mixF s 0 n)) : NumAt w g m (dig s) := h.congr fun k hk => by
  unfold mixF
  split
  · rfl
  · rw [dig_high (x := 0) (n := 0) (by decide) (Nat.zero_le _), dig_high hs (by omega)]

/-- A number's digits, the lowest first: what is left of it. -/
theorem dig_low (x k : Nat) : ((x / 256 ^ k : Nat) : Int) % 256 = dig x k ∧ ((x / 256 ^ k : Nat) : Int) / 256 = ((x / 256 ^ (k + 1) : Nat) : Int) := by
  rw [div_succ]; unfold dig; omega

structure Om (w wr : World) (m : Bool) (x k : Nat) : Prop where
  kp : Keeps [] w wr
  r : NumAt wr w.heap.size false (dig 0)
  n : NumAt wr (w.heap.size + 1) m (mixF x 0 k)

set_option maxHeartbeats 1000000 in
theorem rof_any (a : Int) (w : World) (ha : I64 a) :
    Calls Try.prog 13 #[.int .i64 a] w fun e w' => e = .returned (.agg (numA (decide (a < 0)) (dig a.natAbs))) ∧ Keeps [] w w' := by
  unfold I64 at ha
  obtain ⟨x, hx⟩ : ∃ x, x = a.natAbs := ⟨_, rfl⟩
  have hx1 : x < 256 ^ 8 := by have : (256 : Nat) ^ 8 = 18446744073709551616 := by decide
                               omega
  obtain ⟨X, hX⟩ : ∃ X : Int, X = (x : Nat) := ⟨_, rfl⟩
  have hX0 : 0 ≤ X := by omega
  have hX1 : X < 18446744073709551616 := by omega
  obtain ⟨m, hm⟩ : ∃ m, m = decide (a < 0) := ⟨_, rfl⟩
  rw [← hx, ← hm]
  have HX1 := Lib.hid hx1
  have hcase : (a < 0 ∧ IntKind.u64.wrap (-(IntKind.u64.wrap a)) = X) ∨ (¬ a < 0 ∧ IntKind.u64.wrap a = X) := by
    by_cases h : a < 0
    · left; refine ⟨h, ?_⟩; rw [IntKind.wrap_u64, IntKind.wrap_u64]; omega
    · right; refine ⟨h, ?_⟩; rw [IntKind.wrap_u64]; omega
  have hm' : decide (a < 0) = m := hm.symm
  have HX := Lib.hid hX
  clear hx hm hx1 hX
  go_enter Try.func13, Try.ntmps13
  go_upto_region 1 with fail
  simp only [nzeros_eq]
  have h0 : NumAt (w.alloc (.cells (numA false (dig 0)) 29)) w.heap.size false (dig 0) := heap_alloc_new w _
  have k0 : Keeps [] w (w.alloc (.cells (numA false (dig 0)) 29)) := (Keeps.refl _ _).alloc _
  have s0 : (w.alloc (.cells (numA false (dig 0)) 29)).heap.size = w.heap.size + 1 := by simp
  generalize w.alloc (.cells (numA false (dig 0)) 29) = w0 at *
  have h1 : NumAt (w0.alloc (.cells (numA false (dig 0)) 29)) (w.heap.size + 1) false (dig 0) := by rw [← s0]; exact heap_alloc_new w0 _
  have h2 : NumAt (w0.alloc (.cells (numA false (dig 0)) 29)) w.heap.size false (dig 0) := heap_alloc_held h0 _
  have k1 := k0.alloc (.cells (numA false (dig 0)) 29)
  rcases hcase with ⟨g1, g2⟩ | ⟨g1, g2⟩
  · have hm2 : m = true := by rw [← hm']; simpa using g1
    subst hm2
    clear h0 k0
    go_wp2_with (first | (simp only [nzeros_eq]) | (refine st_num _ _ h1 rfl rfl rfl rfl ?_; intro w1 h3 k3 s3; simp only [Act.put]; have h4 := k3.held h2 (by simp); have k4 := k1.trans k3 (by simp); clear h1 h2 k1))
    go_loopw [4, 5] (fun xv iv wr => ∃ (k : Nat) (V : Int), k ≤ 8 ∧ iv = .int .i64 k ∧ xv = .int .u64 V ∧ V = (x / 256 ^ k : Nat) ∧ 0 ≤ V ∧ V < 18446744073709551616 ∧ Om w wr true x k) (fun _ iv _ => 8 - (intOf iv).toNat)
    case atStart => exact ⟨0, X, by omega, rfl, rfl, by have := HX.out; simpa using this, hX0, hX1, k4, h4, by rw [show mixF x 0 0 = dig 0 from mix0 x 0]; exact h3⟩
    case round =>
      obtain ⟨k, V, hk, rfl, rfl, hV, hV0, hV1, hO⟩ := hrel
      by_cases hlt : k < 8
      · have c0 := hO.n.cell k (by omega)
        rw [mix_at] at c0
        have f0 := frozen_of_block hO.n (1 + k)
        have hd := dig_low x k
        rw [← hV] at hd
        have HD := Lib.hid hd
        have HO := Lib.hid hO
        clear hd hO hV
        go_wp2_with fail
        go_roundw
        case rel =>
          refine ⟨k + 1, V / 256, by omega, by go_num, rfl, HD.out.2, by omega, by omega, ?_, ?_, ?_⟩
          · exact HO.out.kp.setCell (.inr (by simp)) _
          · exact (heap_setCell_other (by simp) _).trans HO.out.r
          · have := HO.out.n.set k (V % 256)
            rw [mix_set x 0 k _ HD.out.1] at this
            exact this
        case measure => simp [intOf]; omega
      · have hk8 : k = 8 := by omega
        subst hk8
        have hA := mixN_end HX1.out hO.n
        have hR := hO.r
        have HK := Lib.hid hO.kp
        clear hO hV
        go_wp2_with (first | (refine ld_num _ hA rfl rfl rfl ?_; simp only [Act.put]) | (refine st_num _ _ hR rfl rfl rfl rfl ?_; intro w5 h5 k5 s5; simp only [Act.put]))
        refine bodyPost_ret (ret_num rfl h5 rfl) rfl ⟨rfl, HK.out.trans k5 (by simp)⟩
  · have hm2 : m = false := by rw [← hm']; simpa using g1
    subst hm2
    clear h0 k0
    go_wp2_with (first | (simp only [nzeros_eq]) | (refine st_num _ _ h1 rfl rfl rfl rfl ?_; intro w1 h3 k3 s3; simp only [Act.put]; have h4 := k3.held h2 (by simp); have k4 := k1.trans k3 (by simp); clear h1 h2 k1))
    go_loopw [4, 5] (fun xv iv wr => ∃ (k : Nat) (V : Int), k ≤ 8 ∧ iv = .int .i64 k ∧ xv = .int .u64 V ∧ V = (x / 256 ^ k : Nat) ∧ 0 ≤ V ∧ V < 18446744073709551616 ∧ Om w wr false x k) (fun _ iv _ => 8 - (intOf iv).toNat)
    case atStart => exact ⟨0, X, by omega, rfl, rfl, by have := HX.out; simpa using this, hX0, hX1, k4, h4, by rw [show mixF x 0 0 = dig 0 from mix0 x 0]; exact h3⟩
    case round =>
      obtain ⟨k, V, hk, rfl, rfl, hV, hV0, hV1, hO⟩ := hrel
      by_cases hlt : k < 8
      · have c0 := hO.n.cell k (by omega)
        rw [mix_at] at c0
        have f0 := frozen_of_block hO.n (1 + k)
        have hd := dig_low x k
        rw [← hV] at hd
        have HD := Lib.hid hd
        have HO := Lib.hid hO
        clear hd hO hV
        go_wp2_with fail
        go_roundw
        case rel =>
          refine ⟨k + 1, V / 256, by omega, by go_num, rfl, HD.out.2, by omega, by omega, ?_, ?_, ?_⟩
          · exact HO.out.kp.setCell (.inr (by simp)) _
          · exact (heap_setCell_other (by simp) _).trans HO.out.r
          · have := HO.out.n.set k (V % 256)
            rw [mix_set x 0 k _ HD.out.1] at this
            exact this
        case measure => simp [intOf]; omega
      · have hk8 : k = 8 := by omega
        subst hk8
        have hA := mixN_end HX1.out hO.n
        have hR := hO.r
        have HK := Lib.hid hO.kp
        clear hO hV
        go_wp2_with (first | (refine ld_num _ hA rfl rfl rfl ?_; simp only [Act.put]) | (refine st_num _ _ hR rfl rfl rfl rfl ?_; intro w5 h5 k5 s5; simp only [Act.put]))
        refine bodyPost_ret (ret_num rfl h5 rfl) rfl ⟨rfl, HK.out.trans k5 (by simp)⟩
end Go.Proofs.Ytdanmeemoifapaa
