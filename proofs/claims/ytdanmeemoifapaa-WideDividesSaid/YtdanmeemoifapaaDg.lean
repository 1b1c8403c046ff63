/- The document's wide numbers: the contract of Mul: byte by byte. No condition but that both are numbers. -/
import Derived.Test.YtdanmeemoifapaaDf
namespace Go.Proofs.Ytdanmeemoifapaa
open Go.RowKit
set_option linter.unusedVariables false

/-- One digit of a product by a digit. -/
theorem mul_step (N A d Y i k c : Nat) (h : N / 256 ^ (i + k) = A / 256 ^ (i + k) + d * (Y / 256 ^ k) + c) :
    dig N (i + k) = (dig A (i + k) + c + (d : Int) * dig Y k) % 256 ∧
      ((N / 256 ^ (i + (k + 1)) : Nat) : Int) = ((A / 256 ^ (i + (k + 1)) : Nat) : Int) + ((d * (Y / 256 ^ (k + 1)) : Nat) : Int) + (dig A (i + k) + c + (d : Int) * dig Y k) / 256 := by
  rw [← Nat.add_assoc, div_succ, div_succ, div_succ]
  unfold dig
  generalize N / 256 ^ (i + k) = n at *
  generalize A / 256 ^ (i + k) = a at *
  generalize Y / 256 ^ k = y at *
  have e : d * y = d * (y / 256) * 256 + d * (y % 256) := by
    have h1 := Nat.div_add_mod y 256
    have : d * y = d * (256 * (y / 256) + y % 256) := by rw [h1]
    rw [this, Nat.mul_add, Nat.mul_left_comm]; omega
  have e2 : (d : Int) * ((y % 256 : Nat) : Int) = ((d * (y % 256) : Nat) : Int) := (Int.natCast_mul _ _).symm
  rw [e2]
  generalize d * (y / 256) = P at *
  generalize d * (y % 256) = p at *
  omega

theorem mul_start (X Y i : Nat) : X % 256 ^ (i + 1) * Y = X % 256 ^ i * Y + 256 ^ i * (X / 256 ^ i % 256 * Y) := by
  rw [pow_succ256, Nat.mod_mul, Nat.add_mul, Nat.mul_assoc]
theorem mul_start_div (X Y i : Nat) : X % 256 ^ (i + 1) * Y / 256 ^ (i + 0) = X % 256 ^ i * Y / 256 ^ (i + 0) + X / 256 ^ i % 256 * (Y / 256 ^ 0) + 0 := by
  rw [mul_start, Nat.add_zero, Nat.add_mul_div_left _ _ (pow_pos256 i), Nat.pow_zero, Nat.div_one, Nat.add_zero]
theorem mul_start_dig (X Y i j : Nat) (h : j < i) : dig (X % 256 ^ (i + 1) * Y) j = dig (X % 256 ^ i * Y) j := by
  rw [dig_mod _ i j h, dig_mod (X % 256 ^ i * Y) i j h, mul_start, Nat.add_mul_mod_self_left]
theorem mul_small (X Y i : Nat) (hY : Y < 256 ^ 8) : X % 256 ^ i * Y < 256 ^ (i + 8) := by
  rw [Nat.pow_add]
  have h1 := Nat.mod_lt X (pow_pos256 i)
  by_cases hy : Y = 0
  · subst hy; rw [Nat.mul_zero]; exact Nat.mul_pos (pow_pos256 i) (pow_pos256 8)
  · exact Nat.lt_of_lt_of_le (Nat.mul_lt_mul_of_pos_right h1 (by omega)) (Nat.mul_le_mul_left _ (Nat.le_of_lt hY))

structure Mu (w wr : World) (gx gy gn : Nat) (mx my mn : Bool) (X Y : Nat) (F : Nat → Int) : Prop where
  kp : Keeps [] w wr
  r : NumAt wr w.heap.size false (dig 0)
  x : NumAt wr gx mx (dig X)
  y : NumAt wr gy my (dig Y)
  n : NumAt wr gn mn F
  lx : w.heap.size < gx
  ly : gx < gy
  ln : gy < gn

theorem Mu.set {w wr : World} {gx gy gn : Nat} {mx my mn : Bool} {X Y : Nat} {F : Nat → Int} (h : Mu w wr gx gy gn mx my mn X Y F) (k : Nat) (v : Int) (m : Nat) :
    Mu w ((wr.setCell ⟨gn, 1 + k, none⟩ (.int .i64 v)).drewN m) gx gy gn mx my mn X Y (fun j => if j = k then v else F j) := by
  have := h.lx; have := h.ly; have := h.ln
  refine ⟨(h.kp.setCell (.inr (show w.heap.size ≤ gn by omega)) _).drewN _, ?_, ?_, ?_, h.n.set k v, h.lx, h.ly, h.ln⟩
  · exact (heap_setCell_other (by show w.heap.size ≠ gn; omega) _).trans h.r
  · exact (heap_setCell_other (by show gx ≠ gn; omega) _).trans h.x
  · exact (heap_setCell_other (by show gy ≠ gn; omega) _).trans h.y
theorem Mu.drew {w wr : World} {gx gy gn : Nat} {mx my mn : Bool} {X Y : Nat} {F : Nat → Int} (h : Mu w wr gx gy gn mx my mn X Y F) (m : Nat) : Mu w (wr.drewN m) gx gy gn mx my mn X Y F :=
  ⟨h.kp.drewN _, h.r, h.x, h.y, h.n, h.lx, h.ly, h.ln⟩
theorem Mu.congr {w wr : World} {gx gy gn : Nat} {mx my mn : Bool} {X Y : Nat} {F F' : Nat → Int} (h : Mu w wr gx gy gn mx my mn X Y F) (e : ∀ k, k < 20 → F k = F' k) : Mu w wr gx gy gn mx my mn X Y F' :=
  ⟨h.kp, h.r, h.x, h.y, h.n.congr e, h.lx, h.ly, h.ln⟩

set_option maxHeartbeats 4000000 in
theorem rmul_any (a b : Int) (w : World) (ha : I64 a) (hb : I64 b) :
    Calls Try.prog 11 #[.int .i64 a, .int .i64 b] w fun e w' => e = .returned (.agg (numA (decide (a < 0) != decide (b < 0)) (dig (a.natAbs * b.natAbs)))) ∧ Keeps [] w w' := by
  obtain ⟨X, hX⟩ : ∃ x, x = a.natAbs := ⟨_, rfl⟩
  obtain ⟨Y, hY⟩ : ∃ x, x = b.natAbs := ⟨_, rfl⟩
  have hX8 : X < 256 ^ 8 := by rw [e8]; unfold I64 at ha; omega
  have hY8 : Y < 256 ^ 8 := by rw [e8]; unfold I64 at hb; omega
  obtain ⟨mx, hmx⟩ : ∃ m, m = decide (a < 0) := ⟨_, rfl⟩
  obtain ⟨my, hmy⟩ : ∃ m, m = decide (b < 0) := ⟨_, rfl⟩
  obtain ⟨mn, hmn⟩ : ∃ m, (!(mx == my)) = m := ⟨_, rfl⟩
  have hmn' : (mx != my) = mn := hmn
  have ca := rof_any a
  have cb := rof_any b
  rw [← hX, ← hmx] at ca
  rw [← hY, ← hmy] at cb
  rw [← hX, ← hY, ← hmx, ← hmy, hmn']
  clear hmn'
  have CA := Lib.hid (fun w => ca w ha)
  have CB := Lib.hid (fun w => cb w hb)
  have HX8 := Lib.hid hX8
  have HY8 := Lib.hid hY8
  clear ca cb ha hb hX hY hmx hmy hX8 hY8
  go_enter Try.func11, Try.ntmps11
  go_upto_region 1 with fail
  simp only [nzeros_eq]
  have h0 : NumAt (w.alloc (.cells (numA false (dig 0)) 29)) w.heap.size false (dig 0) := heap_alloc_new w _
  have k0 : Keeps [] w (w.alloc (.cells (numA false (dig 0)) 29)) := (Keeps.refl _ _).alloc _
  have s0 : w.heap.size < (w.alloc (.cells (numA false (dig 0)) 29)).heap.size := by simp
  generalize w.alloc (.cells (numA false (dig 0)) 29) = w0 at *
  go_wp2_with fail
  refine (CA.out _).mono ?_
  rintro e w1 ⟨rfl, k1⟩
  go_wp2_with fail
  refine (CB.out _).mono ?_
  rintro e w2 ⟨rfl, k2⟩
  have k2' := (k0.trans0 k1).trans0 k2
  have h2 : NumAt w2 w.heap.size false (dig 0) := k2.held (k1.held h0 (by simp)) (by simp)
  have s2 : w.heap.size < w2.heap.size := lt_of_block h2
  have hx0 : NumAt ((w2.alloc (.cells (numA false (dig 0)) 29)).alloc (.cells (numA false (dig 0)) 29)) w2.heap.size false (dig 0) := heap_alloc2_old w2 _ _
  have hy0 : NumAt ((w2.alloc (.cells (numA false (dig 0)) 29)).alloc (.cells (numA false (dig 0)) 29)) (w2.heap.size + 1) false (dig 0) := heap_alloc2_new w2 _ _
  have hr0 : NumAt ((w2.alloc (.cells (numA false (dig 0)) 29)).alloc (.cells (numA false (dig 0)) 29)) w.heap.size false (dig 0) := heap_alloc_held (heap_alloc_held h2 _) _
  have kk0 := (k2'.alloc (.cells (numA false (dig 0)) 29)).alloc (.cells (numA false (dig 0)) 29)
  have ss0 : ((w2.alloc (.cells (numA false (dig 0)) 29)).alloc (.cells (numA false (dig 0)) 29)).heap.size = w2.heap.size + 2 := by simp
  clear h0 k0 k1 k2 k2' h2 s0
  go_upto_region 2 with (first
    | (simp only [nzeros_eq])
    | (refine st_num _ _ hx0 rfl rfl rfl rfl ?_; intro w3 h3 k3 s3; simp only [Act.put]; have hy1 : NumAt w3 (w2.heap.size + 1) false (dig 0) := k3.held hy0 (by simp); have hr1 : NumAt w3 w.heap.size false (dig 0) := k3.held hr0 (by simp; omega); have kk1 := kk0.trans k3 (by simp; omega); rw [ss0] at s3; clear hx0 hy0 hr0 kk0 k3 ss0)
    | (refine st_num _ _ hy1 rfl rfl rfl rfl ?_; intro w4 h4 k4 s4; simp only [Act.put]; have h5 : NumAt w4 w2.heap.size mx (dig X) := k4.held h3 (by simp); have hr2 : NumAt w4 w.heap.size false (dig 0) := k4.held hr1 (by simp; omega); have kk2 := kk1.trans k4 (by simp; omega); rw [s3] at s4; clear hy1 hr1 kk1 k4 h3 s3))
  have c1 := NumAt.sign h5
  have c2 := NumAt.sign h4
  have hn0 : NumAt (w4.alloc (.cells (numA false (dig 0)) 29)) (w2.heap.size + 2) false (dig 0) := by rw [← s4]; exact heap_alloc_new w4 _
  have hx5 : NumAt (w4.alloc (.cells (numA false (dig 0)) 29)) w2.heap.size mx (dig X) := heap_alloc_held h5 _
  have hy5 : NumAt (w4.alloc (.cells (numA false (dig 0)) 29)) (w2.heap.size + 1) my (dig Y) := heap_alloc_held h4 _
  have hr5 : NumAt (w4.alloc (.cells (numA false (dig 0)) 29)) w.heap.size false (dig 0) := heap_alloc_held hr2 _
  have kk5 := kk2.alloc (.cells (numA false (dig 0)) 29)
  clear h4 h5 hr2 kk2
  go_upto_region 3 with (first
    | (simp only [nzeros_eq])
    | (refine st_num _ _ hn0 rfl rfl rfl rfl ?_; intro w6 h6 k6 s6; simp only [Act.put]; have hM : Mu w w6 w2.heap.size (w2.heap.size + 1) (w2.heap.size + 2) mx my mn X Y (dig 0) := ⟨kk5.trans k6 (by simp; omega), k6.held hr5 (by simp; omega), k6.held hx5 (by simp), k6.held hy5 (by simp), h6, s2, by omega, by omega⟩; clear hn0 hx5 hy5 hr5 kk5 k6 s6 h6))
  clear c1 c2 s4
  go_wp2_with fail
  go_loopw [8] (fun iv wr => ∃ i : Nat, i ≤ 8 ∧ iv = .int .i64 i ∧ Mu w wr w2.heap.size (w2.heap.size + 1) (w2.heap.size + 2) mx my mn X Y (dig (X % 256 ^ i * Y))) (fun iv _ => 8 - (intOf iv).toNat)
  case atStart => exact ⟨0, by omega, rfl, by rw [Nat.pow_zero, Nat.mod_one, Nat.zero_mul]; exact hM⟩
  case round =>
    clear hM
    obtain ⟨i, hi, rfl, hM⟩ := hrel
    by_cases hlt : i < 8
    · have hst := mul_start_div X Y i
      have hsd : ∀ j, j < i → dig (X % 256 ^ (i + 1) * Y) j = dig (X % 256 ^ i * Y) j := fun j hj => mul_start_dig X Y i j hj
      have hAs := mul_small X Y i HY8.out
      have hNs := mul_small X Y (i + 1) HY8.out
      obtain ⟨A, hA⟩ : ∃ A, A = X % 256 ^ i * Y := ⟨_, rfl⟩
      obtain ⟨N, hN⟩ : ∃ A, A = X % 256 ^ (i + 1) * Y := ⟨_, rfl⟩
      obtain ⟨d, hd⟩ : ∃ A, A = X / 256 ^ i % 256 := ⟨_, rfl⟩
      rw [← hA] at hM hst hsd hAs
      rw [← hN] at hst hsd hNs
      rw [← hd] at hst
      have hM0 : Mu w wr w2.heap.size (w2.heap.size + 1) (w2.heap.size + 2) mx my mn X Y (mixF N A (i + 0)) := hM.congr (fun k hk => by
        unfold mixF
        split
        · exact (hsd k (by omega)).symm
        · rfl)
      have hdX : dig X i = (d : Int) := by rw [hd]; rfl
      have HST := Lib.hid hst
      have HAS := Lib.hid hAs
      have HNS := Lib.hid hNs
      have HN := Lib.hid hN
      have HDX := Lib.hid hdX
      have HI : (i : Int) < 8 := by omega
      clear hst hsd hAs hNs hA hN hd hM hdX hi
      obtain ⟨wo, rfl⟩ : ∃ wo : World, wo = wr := ⟨_, rfl⟩
      go_wp2_with fail
      go_loopw [9, 10] (fun cv kv wr => ∃ (k c : Nat), k ≤ 9 ∧ c ≤ 255 ∧ kv = .int .i64 k ∧ cv = .int .i64 c ∧ N / 256 ^ (i + k) = A / 256 ^ (i + k) + d * (Y / 256 ^ k) + c ∧ Mu w wr w2.heap.size (w2.heap.size + 1) (w2.heap.size + 2) mx my mn X Y (mixF N A (i + k))) (fun _ kv _ => 9 - (intOf kv).toNat)
      case atStart => exact ⟨0, 0, by omega, by omega, rfl, rfl, HST.out, hM0⟩
      case round =>
        clear hM0
        obtain ⟨k, c, hk, hc, rfl, rfl, he, hM⟩ := hrel
        by_cases hlk : k < 9
        · have hs := mul_step N A d Y i k c he
          have c1 := hM.n.cell (i + k) (by omega)
          rw [mix_at] at c1
          have c2 := hM.x.cell i (by omega)
          rw [HDX.out] at c2
          have f1 := frozen_of_block hM.n (1 + (i + k))
          have b1 := dig_lo A (i + k)
          have b2 := dig_hi A (i + k)
          have b3 := dig_lo Y k
          have b4 := dig_hi Y k
          have b5 := dig_lo X i
          have b6 := dig_hi X i
          rw [HDX.out] at b5 b6
          have hik : ((i + k : Nat) : Int) = (i : Int) + k := by omega
          have hik2 : ((i : Int) + k).toNat = i + k := by omega
          have hik3 : (i : Int) + k < 20 := by omega
          obtain ⟨C, hC⟩ : ∃ C : Int, C = (c : Nat) := ⟨_, rfl⟩
          obtain ⟨D, hD⟩ : ∃ C : Int, C = (d : Nat) := ⟨_, rfl⟩
          obtain ⟨E, hE⟩ : ∃ C : Int, C = dig Y k := ⟨_, rfl⟩
          obtain ⟨V, hV⟩ : ∃ C : Int, C = dig A (i + k) := ⟨_, rfl⟩
          have c3 : k < 8 → wr.cell? ⟨w2.heap.size + 1, 1 + k, none⟩ = some (.int .i64 E) := fun h => by rw [hE]; exact hM.y.cell k (by omega)
          have hE8 : ¬ k < 8 → E = 0 := fun h => by rw [hE]; exact dig_high HY8.out (by omega)
          rw [← hC, ← hD, ← hE, ← hV] at hs
          rw [← hV] at c1 b1 b2
          rw [← hD] at c2 b5 b6
          rw [← hE] at b3 b4
          rw [← hC]
          obtain ⟨P, hP⟩ : ∃ P, D * E = P := ⟨_, rfl⟩
          have hP0 : 0 ≤ P := by rw [← hP]; exact Int.mul_nonneg b5 b3
          have hP1 : P ≤ 65025 := by rw [← hP]; exact Int.mul_le_mul b6 b4 b3 (by decide)
          rw [hP] at hs
          have bc0 : 0 ≤ C := by omega
          have bc1 : C ≤ 255 := by omega
          have ek : (k : Int) < 9 := by omega
          have hd1 : D = 0 → P = 0 := fun h => by rw [← hP, h, Int.zero_mul]
          have HS := Lib.hid hs
          have HM := Lib.hid hM
          have HCE := Lib.hid he
          clear hs hC hD hE hV he hM hc hd1
          by_cases hk8 : k < 8
          · have c4 := c3 hk8
            have ek8 : (k : Int) < 8 := by omega
            clear c3 hE8
            go_wp2_with fail
            go_quiet (fail)
            go_wp2_with fail
            go_roundw
            case rel =>
              obtain ⟨c', hc'⟩ : ∃ c' : Nat, (V + C + P) / 256 = (c' : Int) := ⟨((V + C + P) / 256).toNat, by omega⟩
              refine ⟨k + 1, c', by omega, by omega, by go_num, by rw [hc'], ?_, ?_⟩
              · have h2 := HS.out.2
                rw [hc'] at h2
                omega
              · have := HM.out.set (i + k) ((V + C + P) % 256) nq
                rw [mix_set N A (i + k) _ HS.out.1.symm] at this
                exact this
            case measure => simp [intOf]; omega
          · have hE0 := hE8 hk8
            have hP00 : P = 0 := by rw [← hP, hE0, Int.mul_zero]
            subst hP00
            have HS2 : Hid (dig N (i + k) = (V + C) % 256 ∧ ((N / 256 ^ (i + (k + 1)) : Nat) : Int) = ((A / 256 ^ (i + (k + 1)) : Nat) : Int) + ((d * (Y / 256 ^ (k + 1)) : Nat) : Int) + (V + C) / 256) := Lib.hid (by simpa using HS.out)
            have ek8 : ¬ (k : Int) < 8 := by omega
            clear c3 hE8 hE0 hP HS
            go_wp2_with fail
            go_roundw
            case rel =>
              obtain ⟨c', hc'⟩ : ∃ c' : Nat, (V + C) / 256 = (c' : Int) := ⟨((V + C) / 256).toNat, by omega⟩
              refine ⟨k + 1, c', by omega, by omega, by go_num, by rw [hc'], ?_, ?_⟩
              · have h2 := HS2.out.2
                rw [hc'] at h2
                omega
              · have := HM.out.set (i + k) ((V + C) % 256) 0
                rw [mix_set N A (i + k) _ HS2.out.1.symm] at this
                exact this
            case measure => simp [intOf]; omega
        · have hk9 : k = 9 := by omega
          subst hk9
          have hEnd : Mu w wr w2.heap.size (w2.heap.size + 1) (w2.heap.size + 2) mx my mn X Y (dig (X % 256 ^ (i + 1) * Y)) := by
            rw [← HN.out]
            refine hM.congr fun k hk => ?_
            unfold mixF
            split
            · rfl
            · rw [dig_high HNS.out (by omega), dig_high HAS.out (by omega)]
          have HE := Lib.hid hEnd
          obtain ⟨C, hC⟩ : ∃ C : Int, C = (c : Nat) := ⟨_, rfl⟩
          rw [← hC]
          clear hM he hEnd hC hc
          go_wp2_with fail
          go_roundw
          case rel => exact ⟨i + 1, by omega, by go_num, HE.out⟩
          case measure => simp [intOf]; omega
    · have hi8 : i = 8 := by omega
      subst hi8
      have hXX : X % 256 ^ 8 = X := Nat.mod_eq_of_lt HX8.out
      rw [hXX] at hM
      have hA := hM.n
      have hR := hM.r
      have HK := Lib.hid hM.kp
      clear hM hXX
      go_wp2_with (first | (refine ld_num _ hA rfl rfl rfl ?_; simp only [Act.put]) | (refine st_num _ _ hR rfl rfl rfl rfl ?_; intro w7 h7 k7 s7; simp only [Act.put]))
      refine bodyPost_ret (ret_num rfl h7 rfl) rfl ⟨rfl, HK.out.trans k7 (by simp)⟩
end Go.Proofs.Ytdanmeemoifapaa
