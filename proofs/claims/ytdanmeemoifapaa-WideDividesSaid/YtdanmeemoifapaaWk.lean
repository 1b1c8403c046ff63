/- WideDivides walked. -/
import Derived.Test.YtdanmeemoifapaaWj
import Derived.Deep.CutRange
namespace Go.Proofs.Ytdanmeemoifapaa
open Go.RowKit
set_option linter.unusedVariables false

theorem two_one (x y : Int) : (#[Value.int .i64 x, Value.int .u64 y].all fun v => v.oneCell') = true := by simp [Value.oneCell']
theorem infoW : (Try.prog.info? 25).map (·.size) = some 2 := by kernel_rfl
theorem infoNumL (m : Bool) (f : Nat → Int) : (Try.prog.info? 29).map (·.size) = some (numA m f).toList.length := by rw [Array.length_toList, numA_size]; exact infoNum
theorem range_num {w : World} {g : Nat} {m : Bool} {f : Nat → Int} (h : NumAt w g m f) : w.rangeAt g 0 (numA m f).toList := by
  have := World.rangeAt_of_block h 0 21
  have e : ((numA m f).extract 0 (0 + 21)).toList = (numA m f).toList := by
    have : (numA m f).extract 0 (0 + 21) = numA m f := by
      rw [← numA_size m f, Nat.zero_add, Array.extract_size]
    rw [this]
  rwa [e] at this

structure Rw (w wx : World) (G10 b11 b12 : Nat) (mz ms : Bool) (xz xs : Nat) (T : Int) : Prop where
  kk : Keeps [] w wx
  z : NumAt wx G10 mz (dig xz)
  t : wx.heap[b11]? = some (.cells #[.int .i64 (T / 18446744073709551616), .int .u64 (T % 18446744073709551616)] 25 (0, 0))
  s : NumAt wx b12 ms (dig xs)

theorem set_t {w0 w : World} {G9 G10 b11 b12 : Nat} {o9 : Obj} {v0 : Array Value} {mz : Bool} {xz : Nat} (kk : Keeps [] w0 w) (h9 : w.heap[G9]? = some o9) (h10 : NumAt w G10 mz (dig xz)) (a11 : w.heap[b11]? = some (.cells v0 25 (0, 0))) (a12 : NumAt w b12 false (dig 0)) (T : Int)
    (hh : w0.heap.size ≤ b11 ∧ b12 ≠ b11 ∧ G9 ≠ b11 ∧ G10 ≠ b11) : Keeps [] w0 (w.setRow b11 #[.int .i64 (T / 18446744073709551616), .int .u64 (T % 18446744073709551616)]) ∧
      (w.setRow b11 #[.int .i64 (T / 18446744073709551616), .int .u64 (T % 18446744073709551616)]).heap[G9]? = some o9 ∧ NumAt (w.setRow b11 #[.int .i64 (T / 18446744073709551616), .int .u64 (T % 18446744073709551616)]) G10 mz (dig xz) ∧
      (w.setRow b11 #[.int .i64 (T / 18446744073709551616), .int .u64 (T % 18446744073709551616)]).heap[b11]? = some (.cells #[.int .i64 (T / 18446744073709551616), .int .u64 (T % 18446744073709551616)] 25 (0, 0)) ∧
      NumAt (w.setRow b11 #[.int .i64 (T / 18446744073709551616), .int .u64 (T % 18446744073709551616)]) b12 false (dig 0) := by
  have g1 : Keeps [b11] w (w.setRow b11 #[.int .i64 (T / 18446744073709551616), .int .u64 (T % 18446744073709551616)]) := (Keeps.refl _ _).setRow (.inl (by simp)) _
  exact ⟨kk.trans g1 (by simp; omega), g1.held h9 (by simp; omega), g1.held h10 (by simp; omega), setRow_heap w _ _ _ _ _ a11, g1.held a12 (by simp; omega)⟩

theorem set_s {w0 w : World} {G9 G10 b11 b12 : Nat} {o9 o11 : Obj} {mz : Bool} {xz : Nat} (kk : Keeps [] w0 w) (h9 : w.heap[G9]? = some o9) (h10 : NumAt w G10 mz (dig xz)) (a11 : w.heap[b11]? = some o11) (a12 : NumAt w b12 false (dig 0)) (ms : Bool) (xs : Nat)
    (hh : w0.heap.size ≤ b12 ∧ b11 ≠ b12 ∧ G9 ≠ b12 ∧ G10 ≠ b12) : Keeps [] w0 (w.setRow b12 (numA ms (dig xs))) ∧
      (w.setRow b12 (numA ms (dig xs))).heap[G9]? = some o9 ∧ NumAt (w.setRow b12 (numA ms (dig xs))) G10 mz (dig xz) ∧
      (w.setRow b12 (numA ms (dig xs))).heap[b11]? = some o11 ∧ NumAt (w.setRow b12 (numA ms (dig xs))) b12 ms (dig xs) := by
  have g1 : Keeps [b12] w (w.setRow b12 (numA ms (dig xs))) := (Keeps.refl _ _).setRow (.inl (by simp)) _
  exact ⟨kk.trans g1 (by simp; omega), g1.held h9 (by simp; omega), g1.held h10 (by simp; omega), g1.held a11 (by simp; omega), setRow_heap w _ _ _ _ _ a12⟩

structure DFacts (a b c Z T : Int) (mz ms : Bool) (xz xs : Nat) (p e r g v i x k : Int) : Prop where
  md : ∀ ww : World, Calls Try.prog 19 #[.int .i64 a, .int .i64 b, .int .i64 c] ww fun o w' => o = .returned (.tuple #[.int .i64 p, .int .i64 e]) ∧ Keeps [] ww w'
  rd : ∀ ww : World, Calls Try.prog 20 #[.agg (numA mz (dig xz)), .int .i64 c] ww fun o w' => o = .returned (.tuple #[.int .i64 p, .int .i64 e]) ∧ Keeps [] ww w'
  mn : ∀ ww : World, Calls Try.prog 21 #[.int .i64 a, .int .i64 b, .int .i64 c] ww fun o w' => o = .returned (.tuple #[.int .i64 r, .int .i64 g]) ∧ Keeps [] ww w'
  rn : ∀ ww : World, Calls Try.prog 22 #[.agg (numA mz (dig xz)), .int .i64 c] ww fun o w' => o = .returned (.tuple #[.int .i64 r, .int .i64 g]) ∧ Keeps [] ww w'
  dn : ∀ ww : World, Calls Try.prog 23 #[.agg #[.int .i64 (T / 18446744073709551616), .int .u64 (T % 18446744073709551616)], .int .i64 c] ww fun o w' => o = .returned (.tuple #[.int .i64 v, .int .i64 i]) ∧ Keeps [] ww w'
  rs : ∀ ww : World, Calls Try.prog 20 #[.agg (numA ms (dig xs)), .int .i64 c] ww fun o w' => o = .returned (.tuple #[.int .i64 v, .int .i64 i]) ∧ Keeps [] ww w'
  nr : ∀ ww : World, Calls Try.prog 24 #[.agg #[.int .i64 (T / 18446744073709551616), .int .u64 (T % 18446744073709551616)], .int .i64 c] ww fun o w' => o = .returned (.tuple #[.int .i64 x, .int .i64 k]) ∧ Keeps [] ww w'
  rt : ∀ ww : World, Calls Try.prog 22 #[.agg (numA ms (dig xs)), .int .i64 c] ww fun o w' => o = .returned (.tuple #[.int .i64 x, .int .i64 k]) ∧ Keeps [] ww w'

theorem divides_facts (a b c Z T : Int) (mz ms : Bool) (xz xs : Nat) (ha : I64 a) (hb : I64 b) (hc : I64 c) (hZ : Z = a * b) (zI : I128 Z) (tI : I128 T) (bZ : xz < 256 ^ 18) (bS : xs < 256 ^ 18) (gZ : sgn mz xz = Z) (gS : sgn ms xs = T) :
    ∃ p e r g v i x k : Int, DFacts a b c Z T mz ms xz xs p e r g v i x k := by
  by_cases h : c < 1
  · refine ⟨0, 2, 0, 2, 0, 2, 0, 2, ⟨fun ww => muldown_no a b c ww ha hb h, fun ww => rdown_no mz _ c ww h, fun ww => mulnear_no a b c ww ha hb h, fun ww => rnear_no mz _ c ww h, fun ww => ?_, fun ww => rdown_no ms _ c ww h, fun ww => ?_, fun ww => rnear_no ms _ c ww h⟩⟩
    · have := down_no T c ww h
      rwa [num_unfold] at this
    · have := near_no T c ww h
      rwa [num_unfold] at this
  · have h1 : 1 ≤ c := by omega
    have h2 : c ≤ 9223372036854775807 := by unfold I64 at hc; omega
    refine ⟨slimI (Z / c), slimE (Z / c), slimI (nearW Z c), slimE (nearW Z c), slimI (T / c), slimE (T / c), slimI (nearW T c), slimE (nearW T c), ⟨fun ww => ?_, fun ww => ?_, fun ww => ?_, fun ww => ?_, fun ww => ?_, fun ww => ?_, fun ww => ?_, fun ww => ?_⟩⟩
    · rw [hZ]; exact muldown_yes a b c ww ha hb h1 h2
    · rw [← gZ]; exact rdown_yes mz xz c ww bZ h1 h2
    · rw [hZ]; exact mulnear_yes a b c ww ha hb h1 h2
    · rw [← gZ]; exact rnear_yes mz xz c ww bZ h1 h2
    · have := down_yes T c ww tI h1 h2
      rwa [num_unfold] at this
    · rw [← gS]; exact rdown_yes ms xs c ww bS h1 h2
    · have := near_yes T c ww tI h1 h2
      rwa [num_unfold] at this
    · rw [← gS]; exact rnear_yes ms xs c ww bS h1 h2

set_option maxRecDepth 100000 in
set_option maxHeartbeats 20000000 in
theorem divides_walk (a b c e : Int) (w : World) (ha : I64 a) (hb : I64 b) (hc : I64 c) (he : I64 e) :
    Calls Try.prog 4 #[.int .i64 a, .int .i64 b, .int .i64 c, .int .i64 e] w fun r w' => r = .returned (.bool true) ∧ Keeps [] w w' := by
  obtain ⟨Z, hZ⟩ : ∃ Z, Z = a * b := ⟨_, rfl⟩
  have cZ := fun ww => wmul_any a b ww ha hb
  have rZ := fun ww => rmul_any a b ww ha hb
  have oc := fun ww => of_any e ww he
  have ro := fun ww => rof_any e ww he
  have zr := mul_range a b ha hb
  have gZ := sgn_mul a b
  have gE := sgn_of e
  rw [← hZ] at cZ zr gZ
  obtain ⟨mz, hmz⟩ : ∃ m, m = (decide (a < 0) != decide (b < 0)) := ⟨_, rfl⟩
  obtain ⟨me, hme⟩ : ∃ m, m = decide (e < 0) := ⟨_, rfl⟩
  obtain ⟨xz, hxz⟩ : ∃ m, m = a.natAbs * b.natAbs := ⟨_, rfl⟩
  obtain ⟨xe, hxe⟩ : ∃ m, m = e.natAbs := ⟨_, rfl⟩
  rw [← hmz, ← hxz] at rZ gZ
  rw [← hme, ← hxe] at ro gE
  have sZ := sgn_size gZ
  have sE := sgn_size gE
  have e18 : (256 : Nat) ^ 18 = 22300745198530623141535718272648361505980416 := by decide
  have e20 : (256 : Nat) ^ 20 = 1461501637330902918203684832716283019655932542976 := by decide
  have bZ : xz < 256 ^ 18 := by rw [e18]; omega
  have bZ20 : xz < 256 ^ 20 := by rw [e20]; omega
  have bE : xe < 256 ^ 20 := by rw [e20]; unfold I64 at he; omega
  have gS := sgn_add mz me xz xe
  rw [gZ, gE] at gS
  obtain ⟨ms, hms⟩ : ∃ m, m = addM mz me xz xe := ⟨_, rfl⟩
  obtain ⟨xs, hxs⟩ : ∃ m, m = addX mz me xz xe := ⟨_, rfl⟩
  have ra := fun ww => radd_any mz me xz xe bZ20 bE ww
  rw [← hms, ← hxs] at gS ra
  have sS := sgn_size gS
  obtain ⟨T, hT⟩ : ∃ T, T = Z + e := ⟨_, rfl⟩
  rw [← hT] at gS sS
  have tI : I128 T := by unfold I64 at he; unfold I128; omega
  have zI : I128 Z := by unfold I128; omega
  have bS : xs < 256 ^ 18 := by rw [e18]; unfold I128 at tI; omega
  have ad : ∀ (ww : World) (g : Nat), NumsAt ww g [Z, e] → Calls Try.prog 14 #[.slice (some ⟨g, 0, none⟩) 2 2] ww fun r w' => r = .returned (.agg #[.int .i64 (T / 18446744073709551616), .int .u64 (T % 18446744073709551616)]) ∧ Keeps [] ww w' := by
    intro ww g hs
    have := add_any [Z, e] g 2 2 ww (by intro z hz; simp at hz; rcases hz with rfl | rfl; exact zI; exact I128_of he) rfl (by omega) hs
    rw [show w128 (plainSum [Z, e]) = T by rw [show plainSum [Z, e] = T by rw [hT]; simp [plainSum], w128_in tI], num_unfold] at this
    exact this
  have CZ := Lib.hid cZ
  have RZ := Lib.hid rZ
  have OFC := Lib.hid oc
  have ROC := Lib.hid ro
  have RAC := Lib.hid ra
  have ADC := Lib.hid ad
  have HZ := Lib.hid hZ
  have HA := Lib.hid ha
  have HB := Lib.hid hb
  have HC := Lib.hid hc
  have HTI := Lib.hid tI
  have HZI := Lib.hid zI
  have BZ := Lib.hid bZ
  have BS := Lib.hid bS
  have GZ := Lib.hid gZ
  have GS := Lib.hid gS
  clear cZ rZ oc ro ra ad hZ ha hb hc he zr gZ gE hmz hme hxz hxe sZ sE e18 e20 bZ bZ20 bE gS hms hxs sS hT tI zI bS
  go_enter Try.func4, Try.ntmps4
  go_wp2_with fail
  refine (CZ.out _).mono ?_
  rintro r w1 ⟨hr, k1⟩
  rw [num_unfold] at hr
  subst hr
  go_wp2_with fail
  refine (RZ.out _).mono ?_
  rintro r w2 ⟨rfl, k2⟩
  have f1 : w.heap.size ≤ w2.heap.size := (k1.trans0 k2).size
  have f2 : w2.heap.size < w2.heap.size + 1 := Nat.lt_succ_self _
  have n0 : NumAt ((w2.alloc (.cells #[.int .i64 (Z / 18446744073709551616), .int .u64 (Z % 18446744073709551616)] 25)).alloc (.cells (numA false (dig 0)) 29)) (w2.heap.size + 1) false (dig 0) := heap_alloc2_new w2 _ _
  have h9 : ((w2.alloc (.cells #[.int .i64 (Z / 18446744073709551616), .int .u64 (Z % 18446744073709551616)] 25)).alloc (.cells (numA false (dig 0)) 29)).heap[w2.heap.size]? = some (.cells #[.int .i64 (Z / 18446744073709551616), .int .u64 (Z % 18446744073709551616)] 25 (0, 0)) := heap_alloc2_old w2 _ _
  have kk := ((k1.trans0 k2).alloc (.cells #[.int .i64 (Z / 18446744073709551616), .int .u64 (Z % 18446744073709551616)] 25)).alloc (.cells (numA false (dig 0)) 29)
  clear k1 k2
  go_upto_region 2 with (first
    | (simp only [nzeros_eq]; refine st_num _ _ n0 rfl rfl rfl rfl ?_; intro w3 h10 k3 s3; simp only [Act.put]; have h9' := k3.held h9 (by simp); have kk' := kk.trans k3 (by simp; omega); clear n0 h9 kk k3 s3)
    | (refine st_num _ _ n0 rfl rfl rfl rfl ?_; intro w3 h10 k3 s3; simp only [Act.put]; have h9' := k3.held h9 (by simp); have kk' := kk.trans k3 (by simp; omega); clear n0 h9 kk k3 s3)
    | (simp only [nzeros_eq]))
  generalize w2.heap.size + 1 = G10 at *
  generalize w2.heap.size = G9 at *
  go_cut [11, 12] from 35 to 43 (fun v11 v12 wx => ∃ b11 b12 : Nat, v11 = .pointer (some ⟨b11, 0, none⟩) ∧ v12 = .pointer (some ⟨b12, 0, none⟩) ∧ Rw w wx G10 b11 b12 mz ms xz xs T)
  case first =>
    have kk := kk'.drew
    have h9 := h9'
    clear kk' h9'
    refine wp_region_held_drew (S := fun w' => (w'.cell? ⟨G9, 0, none⟩ = some (.int .i64 (Z / 18446744073709551616)) ∧ w'.cell? ⟨G9, 1, none⟩ = some (.int .u64 (Z % 18446744073709551616))) ∧ NumAt w' G10 mz (dig xz)) (by kernel_rfl) ⟨⟨cell_of_block h9 rfl, cell_of_block h9 rfl⟩, h10⟩ (fun hHeld => ?_)
    refine wpAnyH_take (i := 0) (oi := ⟨some 35, _, _, _, _, _⟩) (v := .agg #[.int .i64 (Z / 18446744073709551616), .int .u64 (Z % 18446744073709551616)]) rfl (by kernel_rfl) (by kernel_rfl) (by kernel_rfl) (fun _ _ _ h => h) (Or.inl ⟨by rfl, fun wz h => by obtain ⟨⟨q1, q2⟩, q3⟩ := h; go_simp⟩) hHeld ?_
    simp only [Act.put, List.setIfInBounds_toArray, List.set_cons_zero, List.set_cons_succ]
    refine wpAnyH_take (i := 1) (oi := ⟨some 36, _, _, _, _, _⟩) (v := .int .i64 e) rfl (by kernel_rfl) (by kernel_rfl) (by kernel_rfl) (fun _ _ _ h => h) (Or.inl ⟨by rfl, fun wz h => by go_simp⟩) hHeld ?_
    simp only [Act.put, List.setIfInBounds_toArray, List.set_cons_zero, List.set_cons_succ]
    refine wpAnyH_take (i := 5) (oi := ⟨some 40, _, _, _, _, _⟩) rfl (by kernel_rfl) (by kernel_rfl) (by kernel_rfl) (fun _ _ _ h => h) (yieldsIf_load_mid (by rfl) _ _ rfl _ _ rfl (numA mz (dig xz)).toList _ (fun _ h => range_num h.2) Try.underlying29 rfl (infoNumL _ _)) hHeld ?_
    simp only [Act.put, List.setIfInBounds_toArray, List.set_cons_zero, List.set_cons_succ, Array.toArray_toList]
    refine wpAnyH_take (i := 6) (oi := ⟨some 41, _, _, _, _, _⟩) (v := .int .i64 e) rfl (by kernel_rfl) (by kernel_rfl) (by kernel_rfl) (fun _ _ _ h => h) (Or.inl ⟨by rfl, fun wz h => by go_simp⟩) hHeld ?_
    simp only [Act.put, List.setIfInBounds_toArray, List.set_cons_zero, List.set_cons_succ]
    replace h9 : w3.drew.heap[G9]? = some (.cells #[.int .i64 (Z / 18446744073709551616), .int .u64 (Z % 18446744073709551616)] 25 (0, 0)) := h9
    replace h10 : NumAt w3.drew G10 mz (dig xz) := h10
    clear hHeld
    generalize w3.drew = w4 at *
    refine wpAnyH_ready (rs := [2, 9, 10]) (by kernel_rfl) (by simp) ?_
    refine AllReadyH.cons (o := ⟨some 37, _, _, _, _, _⟩) rfl (fun K hK => ?_) (AllReadyH.cons (o := ⟨some 11, _, _, _, _, _⟩) rfl (fun K hK => ?_) (AllReadyH.cons (o := ⟨some 12, _, _, _, _, _⟩) rfl (fun K hK => ?_) AllReadyH.nil))
    ·rw [if_pos (by rfl)]
     refine wp_call_go1 12 _ _ rfl (.int .i64 e) rfl (Try.call12 _) (v := .agg #[.int .i64 (e / 18446744073709551616), .int .u64 (e % 18446744073709551616)]) (OFC.out _) (fun wz1 ka => ?_)
     replace kk := kk.trans0 ka
     replace h9 := ka.held h9 (by simp)
     replace h10 := ka.held h10 (by simp)
     refine hK.out _ _ ⟨⟨cell_of_block h9 rfl, cell_of_block h9 rfl⟩, h10⟩ (fun _ => ?_)
     clear hK K ka
     simp only [Act.put, List.setIfInBounds_toArray, List.set_cons_zero, List.set_cons_succ]
     refine wpAnyH_ready (rs := [3, 9, 10]) (by kernel_rfl) (by simp) ?_
     refine AllReadyH.cons (o := ⟨some 38, _, _, _, _, _⟩) rfl (fun K hK => ?_) (AllReadyH.cons (o := ⟨some 11, _, _, _, _, _⟩) rfl (fun K hK => ?_) (AllReadyH.cons (o := ⟨some 12, _, _, _, _, _⟩) rfl (fun K hK => ?_) AllReadyH.nil))
     ·rw [if_pos (by rfl)]
      go_wp2_with fail
      replace kk := kk.alloc (.cells #[.int .i64 (Z / 18446744073709551616), .int .u64 (Z % 18446744073709551616), .int .i64 (e / 18446744073709551616), .int .u64 (e % 18446744073709551616)] 25)
      replace h9 := heap_alloc_held h9 (.cells #[.int .i64 (Z / 18446744073709551616), .int .u64 (Z % 18446744073709551616), .int .i64 (e / 18446744073709551616), .int .u64 (e % 18446744073709551616)] 25)
      replace h10 := heap_alloc_held h10 (.cells #[.int .i64 (Z / 18446744073709551616), .int .u64 (Z % 18446744073709551616), .int .i64 (e / 18446744073709551616), .int .u64 (e % 18446744073709551616)] 25)
      have hs : NumsAt (wz1.alloc (.cells #[.int .i64 (Z / 18446744073709551616), .int .u64 (Z % 18446744073709551616), .int .i64 (e / 18446744073709551616), .int .u64 (e % 18446744073709551616)] 25)) wz1.heap.size [Z, e] := nums2 wz1 Z e
      refine hK.out _ _ ⟨⟨cell_of_block h9 rfl, cell_of_block h9 rfl⟩, h10⟩ (fun _ => ?_)
      clear hK K
      generalize wz1.alloc (.cells #[.int .i64 (Z / 18446744073709551616), .int .u64 (Z % 18446744073709551616), .int .i64 (e / 18446744073709551616), .int .u64 (e % 18446744073709551616)] 25) = wz2 at *
      refine wpAnyH_ready (rs := [4, 9, 10]) (by kernel_rfl) (by simp) ?_
      refine AllReadyH.cons (o := ⟨some 39, _, _, _, _, _⟩) rfl (fun K hK => ?_) (AllReadyH.cons (o := ⟨some 11, _, _, _, _, _⟩) rfl (fun K hK => ?_) (AllReadyH.cons (o := ⟨some 12, _, _, _, _, _⟩) rfl (fun K hK => ?_) AllReadyH.nil))
      ·rw [if_pos (by rfl)]
       refine wp_call_go1 14 _ _ rfl (.slice (some ⟨wz1.heap.size, 0, none⟩) 2 2) rfl (Try.call14 _) (v := .agg #[.int .i64 (T / 18446744073709551616), .int .u64 (T % 18446744073709551616)]) (ADC.out _ _ hs) (fun wz3 ka => ?_)
       clear hs
       replace kk := kk.trans0 ka
       replace h9 := ka.held h9 (by simp)
       replace h10 := ka.held h10 (by simp)
       refine hK.out _ _ ⟨⟨cell_of_block h9 rfl, cell_of_block h9 rfl⟩, h10⟩ (fun _ => ?_)
       clear hK K ka
       simp only [Act.put, List.setIfInBounds_toArray, List.set_cons_zero, List.set_cons_succ]
       refine wpAnyH_ready (rs := [7, 9, 10]) (by kernel_rfl) (by simp) ?_
       refine AllReadyH.cons (o := ⟨some 42, _, _, _, _, _⟩) rfl (fun K hK => ?_) (AllReadyH.cons (o := ⟨some 11, _, _, _, _, _⟩) rfl (fun K hK => ?_) (AllReadyH.cons (o := ⟨some 12, _, _, _, _, _⟩) rfl (fun K hK => ?_) AllReadyH.nil))
       ·rw [if_pos (by rfl)]
        refine wp_call_go1 13 _ _ rfl (.int .i64 e) rfl (Try.call13 _) (v := .agg (numA me (dig xe))) (ROC.out _) (fun wz4 ka => ?_)
        replace kk := kk.trans0 ka
        replace h9 := ka.held h9 (by simp)
        replace h10 := ka.held h10 (by simp)
        refine hK.out _ _ ⟨⟨cell_of_block h9 rfl, cell_of_block h9 rfl⟩, h10⟩ (fun _ => ?_)
        clear hK K ka
        simp only [Act.put, List.setIfInBounds_toArray, List.set_cons_zero, List.set_cons_succ]
        refine wpAnyH_ready (rs := [8, 9, 10]) (by kernel_rfl) (by simp) ?_
        refine AllReadyH.cons (o := ⟨some 43, _, _, _, _, _⟩) rfl (fun K hK => ?_) (AllReadyH.cons (o := ⟨some 11, _, _, _, _, _⟩) rfl (fun K hK => ?_) (AllReadyH.cons (o := ⟨some 12, _, _, _, _, _⟩) rfl (fun K hK => ?_) AllReadyH.nil))
        ·rw [if_pos (by rfl)]
         refine wp_call_go 15 _ _ _ rfl (.agg (numA mz (dig xz))) (.agg (numA me (dig xe))) rfl rfl (Try.call15 _) (v := .agg (numA ms (dig xs))) (RAC.out _) (fun wz5 ka => ?_)
         replace kk := kk.trans0 ka
         replace h9 := ka.held h9 (by simp)
         replace h10 := ka.held h10 (by simp)
         refine hK.out _ _ ⟨⟨cell_of_block h9 rfl, cell_of_block h9 rfl⟩, h10⟩ (fun _ => ?_)
         clear hK K ka
         simp only [Act.put, List.setIfInBounds_toArray, List.set_cons_zero, List.set_cons_succ]
         refine wpAnyH_ready (rs := [9, 10]) (by kernel_rfl) (by simp) ?_
         refine AllReadyH.cons (o := ⟨some 11, _, _, _, _, _⟩) rfl (fun K hK => ?_) (AllReadyH.cons (o := ⟨some 12, _, _, _, _, _⟩) rfl (fun K hK => ?_) AllReadyH.nil)
         ·rw [if_pos (by rfl)]
          have l11 : w.heap.size ≤ wz5.heap.size := kk.size
          have o11 : G9 < wz5.heap.size ∧ G10 < wz5.heap.size := ⟨lt_of_block h9, lt_of_block h10⟩
          go_wp2_with fail
          replace kk := kk.alloc (.cells #[.int .i64 0, .int .u64 0] 25)
          replace h9 := heap_alloc_held h9 (.cells #[.int .i64 0, .int .u64 0] 25)
          replace h10 := heap_alloc_held h10 (.cells #[.int .i64 0, .int .u64 0] 25)
          have a11 : (wz5.alloc (.cells #[.int .i64 0, .int .u64 0] 25)).heap[wz5.heap.size]? = some (.cells #[.int .i64 0, .int .u64 0] 25 (0, 0)) := heap_alloc_new _ _
          refine hK.out _ _ ⟨⟨cell_of_block h9 rfl, cell_of_block h9 rfl⟩, h10⟩ (fun _ => ?_)
          clear hK K
          generalize wz5.alloc (.cells #[.int .i64 0, .int .u64 0] 25) = wz6 at *
          refine wpAnyH_ready (rs := [10]) (by kernel_rfl) (by simp) ?_
          refine AllReadyH.cons (o := ⟨some 12, _, _, _, _, _⟩) rfl (fun K hK => ?_) AllReadyH.nil
          rw [if_pos (by rfl)]
          have l12 : w.heap.size ≤ wz6.heap.size := kk.size
          have o12 : G9 < wz6.heap.size ∧ G10 < wz6.heap.size := ⟨lt_of_block h9, lt_of_block h10⟩
          have ne12 : wz5.heap.size ≠ wz6.heap.size := by have := lt_of_block a11; omega
          go_wp2_with fail
          simp only [nzeros_eq]
          replace kk := kk.alloc (.cells (numA false (dig 0)) 29)
          replace h9 := heap_alloc_held h9 (.cells (numA false (dig 0)) 29)
          replace h10 := heap_alloc_held h10 (.cells (numA false (dig 0)) 29)
          replace a11 := heap_alloc_held a11 (.cells (numA false (dig 0)) 29)
          have a12 : NumAt (wz6.alloc (.cells (numA false (dig 0)) 29)) wz6.heap.size false (dig 0) := heap_alloc_new _ _
          refine hK.out _ _ ⟨⟨cell_of_block h9 rfl, cell_of_block h9 rfl⟩, h10⟩ (fun _ => ?_)
          clear hK K
          generalize wz6.alloc (.cells (numA false (dig 0)) 29) = wz7 at *
          refine wpAnyH_ready (rs := [11]) (by kernel_rfl) (by simp) ?_
          refine AllReadyH.cons (o := ⟨none, _, _, _, _, _⟩) rfl (fun K hK => ?_) AllReadyH.nil
          rw [if_pos (by rfl)]
          refine wp_store_row _ _ _ rfl (wz5.heap.size) #[.int .i64 (T / 18446744073709551616), .int .u64 (T % 18446744073709551616)] rfl rfl _ #[.int .i64 0, .int .u64 0] a11 infoW rfl (two_one _ _) ?_
          obtain ⟨kk, h9, h10, a11, a12⟩ := set_t kk h9 h10 a11 a12 T (by omega)
          refine hK.out _ _ ⟨⟨cell_of_block h9 rfl, cell_of_block h9 rfl⟩, h10⟩ (fun _ => ?_)
          clear hK K
          generalize wz7.setRow (wz5.heap.size) #[.int .i64 (T / 18446744073709551616), .int .u64 (T % 18446744073709551616)] = wz8 at *
          refine wpAnyH_ready (rs := [12]) (by kernel_rfl) (by simp) ?_
          refine AllReadyH.cons (o := ⟨none, _, _, _, _, _⟩) rfl (fun K hK => ?_) AllReadyH.nil
          rw [if_pos (by rfl)]
          refine wp_store_row _ _ _ rfl (wz6.heap.size) (numA ms (dig xs)) rfl rfl _ (numA false (dig 0)) a12 (by rw [numA_size]; exact infoNum) (by rw [numA_size, numA_size]) (numA_one _ _) ?_
          obtain ⟨kk, h9, h10, a11, a12⟩ := set_s kk h9 h10 a11 a12 ms xs (by omega)
          refine hK.out _ _ ⟨⟨cell_of_block h9 rfl, cell_of_block h9 rfl⟩, h10⟩ (fun _ => ?_)
          clear hK K
          refine wpAnyH_done (by kernel_rfl) ?_ _
          simp only [Act.put]
          go_wp2_with fail
          go_meet
          exact ⟨wz5.heap.size, wz6.heap.size, rfl, rfl, ⟨kk, h10, a11, a12⟩⟩
         ·rw [if_pos (by rfl)]
          have l12 : w.heap.size ≤ wz5.heap.size := kk.size
          have o12 : G9 < wz5.heap.size ∧ G10 < wz5.heap.size := ⟨lt_of_block h9, lt_of_block h10⟩
          go_wp2_with fail
          simp only [nzeros_eq]
          replace kk := kk.alloc (.cells (numA false (dig 0)) 29)
          replace h9 := heap_alloc_held h9 (.cells (numA false (dig 0)) 29)
          replace h10 := heap_alloc_held h10 (.cells (numA false (dig 0)) 29)
          have a12 : NumAt (wz5.alloc (.cells (numA false (dig 0)) 29)) wz5.heap.size false (dig 0) := heap_alloc_new _ _
          refine hK.out _ _ ⟨⟨cell_of_block h9 rfl, cell_of_block h9 rfl⟩, h10⟩ (fun _ => ?_)
          clear hK K
          generalize wz5.alloc (.cells (numA false (dig 0)) 29) = wz10 at *
          refine wpAnyH_ready (rs := [9]) (by kernel_rfl) (by simp) ?_
          refine AllReadyH.cons (o := ⟨some 11, _, _, _, _, _⟩) rfl (fun K hK => ?_) AllReadyH.nil
          rw [if_pos (by rfl)]
          have l11 : w.heap.size ≤ wz10.heap.size := kk.size
          have o11 : G9 < wz10.heap.size ∧ G10 < wz10.heap.size := ⟨lt_of_block h9, lt_of_block h10⟩
          have ne12 : wz10.heap.size ≠ wz5.heap.size := by have := lt_of_block a12; omega
          go_wp2_with fail
          replace kk := kk.alloc (.cells #[.int .i64 0, .int .u64 0] 25)
          replace h9 := heap_alloc_held h9 (.cells #[.int .i64 0, .int .u64 0] 25)
          replace h10 := heap_alloc_held h10 (.cells #[.int .i64 0, .int .u64 0] 25)
          replace a12 := heap_alloc_held a12 (.cells #[.int .i64 0, .int .u64 0] 25)
          have a11 : (wz10.alloc (.cells #[.int .i64 0, .int .u64 0] 25)).heap[wz10.heap.size]? = some (.cells #[.int .i64 0, .int .u64 0] 25 (0, 0)) := heap_alloc_new _ _
          refine hK.out _ _ ⟨⟨cell_of_block h9 rfl, cell_of_block h9 rfl⟩, h10⟩ (fun _ => ?_)
          clear hK K
          generalize wz10.alloc (.cells #[.int .i64 0, .int .u64 0] 25) = wz11 at *
          refine wpAnyH_ready (rs := [11]) (by kernel_rfl) (by simp) ?_
          refine AllReadyH.cons (o := ⟨none, _, _, _, _, _⟩) rfl (fun K hK => ?_) AllReadyH.nil
          rw [if_pos (by rfl)]
          refine wp_store_row _ _ _ rfl (wz10.heap.size) #[.int .i64 (T / 18446744073709551616), .int .u64 (T % 18446744073709551616)] rfl rfl _ #[.int .i64 0, .int .u64 0] a11 infoW rfl (two_one _ _) ?_
          obtain ⟨kk, h9, h10, a11, a12⟩ := set_t kk h9 h10 a11 a12 T (by omega)
          refine hK.out _ _ ⟨⟨cell_of_block h9 rfl, cell_of_block h9 rfl⟩, h10⟩ (fun _ => ?_)
          clear hK K
          generalize wz11.setRow (wz10.heap.size) #[.int .i64 (T / 18446744073709551616), .int .u64 (T % 18446744073709551616)] = wz12 at *
          refine wpAnyH_ready (rs := [12]) (by kernel_rfl) (by simp) ?_
          refine AllReadyH.cons (o := ⟨none, _, _, _, _, _⟩) rfl (fun K hK => ?_) AllReadyH.nil
          rw [if_pos (by rfl)]
          refine wp_store_row _ _ _ rfl (wz5.heap.size) (numA ms (dig xs)) rfl rfl _ (numA false (dig 0)) a12 (by rw [numA_size]; exact infoNum) (by rw [numA_size, numA_size]) (numA_one _ _) ?_
          obtain ⟨kk, h9, h10, a11, a12⟩ := set_s kk h9 h10 a11 a12 ms xs (by omega)
          refine hK.out _ _ ⟨⟨cell_of_block h9 rfl, cell_of_block h9 rfl⟩, h10⟩ (fun _ => ?_)
          clear hK K
          refine wpAnyH_done (by kernel_rfl) ?_ _
          simp only [Act.put]
          go_wp2_with fail
          go_meet
          exact ⟨wz10.heap.size, wz5.heap.size, rfl, rfl, ⟨kk, h10, a11, a12⟩⟩
        ·rw [if_pos (by rfl)]
         have l11 : w.heap.size ≤ wz4.heap.size := kk.size
         have o11 : G9 < wz4.heap.size ∧ G10 < wz4.heap.size := ⟨lt_of_block h9, lt_of_block h10⟩
         go_wp2_with fail
         replace kk := kk.alloc (.cells #[.int .i64 0, .int .u64 0] 25)
         replace h9 := heap_alloc_held h9 (.cells #[.int .i64 0, .int .u64 0] 25)
         replace h10 := heap_alloc_held h10 (.cells #[.int .i64 0, .int .u64 0] 25)
         have a11 : (wz4.alloc (.cells #[.int .i64 0, .int .u64 0] 25)).heap[wz4.heap.size]? = some (.cells #[.int .i64 0, .int .u64 0] 25 (0, 0)) := heap_alloc_new _ _
         refine hK.out _ _ ⟨⟨cell_of_block h9 rfl, cell_of_block h9 rfl⟩, h10⟩ (fun _ => ?_)
         clear hK K
         generalize wz4.alloc (.cells #[.int .i64 0, .int .u64 0] 25) = wz14 at *
         refine wpAnyH_ready (rs := [8, 10]) (by kernel_rfl) (by simp) ?_
         refine AllReadyH.cons (o := ⟨some 43, _, _, _, _, _⟩) rfl (fun K hK => ?_) (AllReadyH.cons (o := ⟨some 12, _, _, _, _, _⟩) rfl (fun K hK => ?_) AllReadyH.nil)
         ·rw [if_pos (by rfl)]
          refine wp_call_go 15 _ _ _ rfl (.agg (numA mz (dig xz))) (.agg (numA me (dig xe))) rfl rfl (Try.call15 _) (v := .agg (numA ms (dig xs))) (RAC.out _) (fun wz15 ka => ?_)
          replace kk := kk.trans0 ka
          replace h9 := ka.held h9 (by simp)
          replace h10 := ka.held h10 (by simp)
          replace a11 := ka.held a11 (by simp)
          refine hK.out _ _ ⟨⟨cell_of_block h9 rfl, cell_of_block h9 rfl⟩, h10⟩ (fun _ => ?_)
          clear hK K ka
          simp only [Act.put, List.setIfInBounds_toArray, List.set_cons_zero, List.set_cons_succ]
          refine wpAnyH_ready (rs := [10]) (by kernel_rfl) (by simp) ?_
          refine AllReadyH.cons (o := ⟨some 12, _, _, _, _, _⟩) rfl (fun K hK => ?_) AllReadyH.nil
          rw [if_pos (by rfl)]
          have l12 : w.heap.size ≤ wz15.heap.size := kk.size
          have o12 : G9 < wz15.heap.size ∧ G10 < wz15.heap.size := ⟨lt_of_block h9, lt_of_block h10⟩
          have ne12 : wz4.heap.size ≠ wz15.heap.size := by have := lt_of_block a11; omega
          go_wp2_with fail
          simp only [nzeros_eq]
          replace kk := kk.alloc (.cells (numA false (dig 0)) 29)
          replace h9 := heap_alloc_held h9 (.cells (numA false (dig 0)) 29)
          replace h10 := heap_alloc_held h10 (.cells (numA false (dig 0)) 29)
          replace a11 := heap_alloc_held a11 (.cells (numA false (dig 0)) 29)
          have a12 : NumAt (wz15.alloc (.cells (numA false (dig 0)) 29)) wz15.heap.size false (dig 0) := heap_alloc_new _ _
          refine hK.out _ _ ⟨⟨cell_of_block h9 rfl, cell_of_block h9 rfl⟩, h10⟩ (fun _ => ?_)
          clear hK K
          generalize wz15.alloc (.cells (numA false (dig 0)) 29) = wz16 at *
          refine wpAnyH_ready (rs := [11]) (by kernel_rfl) (by simp) ?_
          refine AllReadyH.cons (o := ⟨none, _, _, _, _, _⟩) rfl (fun K hK => ?_) AllReadyH.nil
          rw [if_pos (by rfl)]
          refine wp_store_row _ _ _ rfl (wz4.heap.size) #[.int .i64 (T / 18446744073709551616), .int .u64 (T % 18446744073709551616)] rfl rfl _ #[.int .i64 0, .int .u64 0] a11 infoW rfl (two_one _ _) ?_
          obtain ⟨kk, h9, h10, a11, a12⟩ := set_t kk h9 h10 a11 a12 T (by omega)
          refine hK.out _ _ ⟨⟨cell_of_block h9 rfl, cell_of_block h9 rfl⟩, h10⟩ (fun _ => ?_)
          clear hK K
          generalize wz16.setRow (wz4.heap.size) #[.int .i64 (T / 18446744073709551616), .int .u64 (T % 18446744073709551616)] = wz17 at *
          refine wpAnyH_ready (rs := [12]) (by kernel_rfl) (by simp) ?_
          refine AllReadyH.cons (o := ⟨none, _, _, _, _, _⟩) rfl (fun K hK => ?_) AllReadyH.nil
          rw [if_pos (by rfl)]
          refine wp_store_row _ _ _ rfl (wz15.heap.size) (numA ms (dig xs)) rfl rfl _ (numA false (dig 0)) a12 (by rw [numA_size]; exact infoNum) (by rw [numA_size, numA_size]) (numA_one _ _) ?_
          obtain ⟨kk, h9, h10, a11, a12⟩ := set_s kk h9 h10 a11 a12 ms xs (by omega)
          refine hK.out _ _ ⟨⟨cell_of_block h9 rfl, cell_of_block h9 rfl⟩, h10⟩ (fun _ => ?_)
          clear hK K
          refine wpAnyH_done (by kernel_rfl) ?_ _
          simp only [Act.put]
          go_wp2_with fail
          go_meet
          exact ⟨wz4.heap.size, wz15.heap.size, rfl, rfl, ⟨kk, h10, a11, a12⟩⟩
         ·rw [if_pos (by rfl)]
          have l12 : w.heap.size ≤ wz14.heap.size := kk.size
          have o12 : G9 < wz14.heap.size ∧ G10 < wz14.heap.size := ⟨lt_of_block h9, lt_of_block h10⟩
          have ne12 : wz4.heap.size ≠ wz14.heap.size := by have := lt_of_block a11; omega
          go_wp2_with fail
          simp only [nzeros_eq]
          replace kk := kk.alloc (.cells (numA false (dig 0)) 29)
          replace h9 := heap_alloc_held h9 (.cells (numA false (dig 0)) 29)
          replace h10 := heap_alloc_held h10 (.cells (numA false (dig 0)) 29)
          replace a11 := heap_alloc_held a11 (.cells (numA false (dig 0)) 29)
          have a12 : NumAt (wz14.alloc (.cells (numA false (dig 0)) 29)) wz14.heap.size false (dig 0) := heap_alloc_new _ _
          refine hK.out _ _ ⟨⟨cell_of_block h9 rfl, cell_of_block h9 rfl⟩, h10⟩ (fun _ => ?_)
          clear hK K
          generalize wz14.alloc (.cells (numA false (dig 0)) 29) = wz19 at *
          refine wpAnyH_ready (rs := [8]) (by kernel_rfl) (by simp) ?_
          refine AllReadyH.cons (o := ⟨some 43, _, _, _, _, _⟩) rfl (fun K hK => ?_) AllReadyH.nil
          rw [if_pos (by rfl)]
          refine wp_call_go 15 _ _ _ rfl (.agg (numA mz (dig xz))) (.agg (numA me (dig xe))) rfl rfl (Try.call15 _) (v := .agg (numA ms (dig xs))) (RAC.out _) (fun wz20 ka => ?_)
          replace kk := kk.trans0 ka
          replace h9 := ka.held h9 (by simp)
          replace h10 := ka.held h10 (by simp)
          replace a11 := ka.held a11 (by simp)
          replace a12 := ka.held a12 (by simp)
          refine hK.out _ _ ⟨⟨cell_of_block h9 rfl, cell_of_block h9 rfl⟩, h10⟩ (fun _ => ?_)
          clear hK K ka
          simp only [Act.put, List.setIfInBounds_toArray, List.set_cons_zero, List.set_cons_succ]
          refine wpAnyH_ready (rs := [11]) (by kernel_rfl) (by simp) ?_
          refine AllReadyH.cons (o := ⟨none, _, _, _, _, _⟩) rfl (fun K hK => ?_) AllReadyH.nil
          rw [if_pos (by rfl)]
          refine wp_store_row _ _ _ rfl (wz4.heap.size) #[.int .i64 (T / 18446744073709551616), .int .u64 (T % 18446744073709551616)] rfl rfl _ #[.int .i64 0, .int .u64 0] a11 infoW rfl (two_one _ _) ?_
          obtain ⟨kk, h9, h10, a11, a12⟩ := set_t kk h9 h10 a11 a12 T (by omega)
          refine hK.out _ _ ⟨⟨cell_of_block h9 rfl, cell_of_block h9 rfl⟩, h10⟩ (fun _ => ?_)
          clear hK K
          generalize wz20.setRow (wz4.heap.size) #[.int .i64 (T / 18446744073709551616), .int .u64 (T % 18446744073709551616)] = wz21 at *
          refine wpAnyH_ready (rs := [12]) (by kernel_rfl) (by simp) ?_
          refine AllReadyH.cons (o := ⟨none, _, _, _, _, _⟩) rfl (fun K hK => ?_) AllReadyH.nil
          rw [if_pos (by rfl)]
          refine wp_store_row _ _ _ rfl (wz14.heap.size) (numA ms (dig xs)) rfl rfl _ (numA false (dig 0)) a12 (by rw [numA_size]; exact infoNum) (by rw [numA_size, numA_size]) (numA_one _ _) ?_
          obtain ⟨kk, h9, h10, a11, a12⟩ := set_s kk h9 h10 a11 a12 ms xs (by omega)
          refine hK.out _ _ ⟨⟨cell_of_block h9 rfl, cell_of_block h9 rfl⟩, h10⟩ (fun _ => ?_)
          clear hK K
          refine wpAnyH_done (by kernel_rfl) ?_ _
          simp only [Act.put]
          go_wp2_with fail
          go_meet
          exact ⟨wz4.heap.size, wz14.heap.size, rfl, rfl, ⟨kk, h10, a11, a12⟩⟩
        ·rw [if_pos (by rfl)]
         have l12 : w.heap.size ≤ wz4.heap.size := kk.size
         have o12 : G9 < wz4.heap.size ∧ G10 < wz4.heap.size := ⟨lt_of_block h9, lt_of_block h10⟩
         go_wp2_with fail
         simp only [nzeros_eq]
         replace kk := kk.alloc (.cells (numA false (dig 0)) 29)
         replace h9 := heap_alloc_held h9 (.cells (numA false (dig 0)) 29)
         replace h10 := heap_alloc_held h10 (.cells (numA false (dig 0)) 29)
         have a12 : NumAt (wz4.alloc (.cells (numA false (dig 0)) 29)) wz4.heap.size false (dig 0) := heap_alloc_new _ _
         refine hK.out _ _ ⟨⟨cell_of_block h9 rfl, cell_of_block h9 rfl⟩, h10⟩ (fun _ => ?_)
         clear hK K
         generalize wz4.alloc (.cells (numA false (dig 0)) 29) = wz23 at *
         refine wpAnyH_ready (rs := [8, 9]) (by kernel_rfl) (by simp) ?_
         refine AllReadyH.cons (o := ⟨some 43, _, _, _, _, _⟩) rfl (fun K hK => ?_) (AllReadyH.cons (o := ⟨some 11, _, _, _, _, _⟩) rfl (fun K hK => ?_) AllReadyH.nil)
         ·rw [if_pos (by rfl)]
          refine wp_call_go 15 _ _ _ rfl (.agg (numA mz (dig xz))) (.agg (numA me (dig xe))) rfl rfl (Try.call15 _) (v := .agg (numA ms (dig xs))) (RAC.out _) (fun wz24 ka => ?_)
          replace kk := kk.trans0 ka
          replace h9 := ka.held h9 (by simp)
          replace h10 := ka.held h10 (by simp)
          replace a12 := ka.held a12 (by simp)
          refine hK.out _ _ ⟨⟨cell_of_block h9 rfl, cell_of_block h9 rfl⟩, h10⟩ (fun _ => ?_)
          clear hK K ka
          simp only [Act.put, List.setIfInBounds_toArray, List.set_cons_zero, List.set_cons_succ]
          refine wpAnyH_ready (rs := [9]) (by kernel_rfl) (by simp) ?_
          refine AllReadyH.cons (o := ⟨some 11, _, _, _, _, _⟩) rfl (fun K hK => ?_) AllReadyH.nil
          rw [if_pos (by rfl)]
          have l11 : w.heap.size ≤ wz24.heap.size := kk.size
          have o11 : G9 < wz24.heap.size ∧ G10 < wz24.heap.size := ⟨lt_of_block h9, lt_of_block h10⟩
          have ne12 : wz24.heap.size ≠ wz4.heap.size := by have := lt_of_block a12; omega
          go_wp2_with fail
          replace kk := kk.alloc (.cells #[.int .i64 0, .int .u64 0] 25)
          replace h9 := heap_alloc_held h9 (.cells #[.int .i64 0, .int .u64 0] 25)
          replace h10 := heap_alloc_held h10 (.cells #[.int .i64 0, .int .u64 0] 25)
          replace a12 := heap_alloc_held a12 (.cells #[.int .i64 0, .int .u64 0] 25)
          have a11 : (wz24.alloc (.cells #[.int .i64 0, .int .u64 0] 25)).heap[wz24.heap.size]? = some (.cells #[.int .i64 0, .int .u64 0] 25 (0, 0)) := heap_alloc_new _ _
          refine hK.out _ _ ⟨⟨cell_of_block h9 rfl, cell_of_block h9 rfl⟩, h10⟩ (fun _ => ?_)
          clear hK K
          generalize wz24.alloc (.cells #[.int .i64 0, .int .u64 0] 25) = wz25 at *
          refine wpAnyH_ready (rs := [11]) (by kernel_rfl) (by simp) ?_
          refine AllReadyH.cons (o := ⟨none, _, _, _, _, _⟩) rfl (fun K hK => ?_) AllReadyH.nil
          rw [if_pos (by rfl)]
          refine wp_store_row _ _ _ rfl (wz24.heap.size) #[.int .i64 (T / 18446744073709551616), .int .u64 (T % 18446744073709551616)] rfl rfl _ #[.int .i64 0, .int .u64 0] a11 infoW rfl (two_one _ _) ?_
          obtain ⟨kk, h9, h10, a11, a12⟩ := set_t kk h9 h10 a11 a12 T (by omega)
          refine hK.out _ _ ⟨⟨cell_of_block h9 rfl, cell_of_block h9 rfl⟩, h10⟩ (fun _ => ?_)
          clear hK K
          generalize wz25.setRow (wz24.heap.size) #[.int .i64 (T / 18446744073709551616), .int .u64 (T % 18446744073709551616)] = wz26 at *
          refine wpAnyH_ready (rs := [12]) (by kernel_rfl) (by simp) ?_
          refine AllReadyH.cons (o := ⟨none, _, _, _, _, _⟩) rfl (fun K hK => ?_) AllReadyH.nil
          rw [if_pos (by rfl)]
          refine wp_store_row _ _ _ rfl (wz4.heap.size) (numA ms (dig xs)) rfl rfl _ (numA false (dig 0)) a12 (by rw [numA_size]; exact infoNum) (by rw [numA_size, numA_size]) (numA_one _ _) ?_
          obtain ⟨kk, h9, h10, a11, a12⟩ := set_s kk h9 h10 a11 a12 ms xs (by omega)
          refine hK.out _ _ ⟨⟨cell_of_block h9 rfl, cell_of_block h9 rfl⟩, h10⟩ (fun _ => ?_)
          clear hK K
          refine wpAnyH_done (by kernel_rfl) ?_ _
          simp only [Act.put]
          go_wp2_with fail
          go_meet
          exact ⟨wz24.heap.size, wz4.heap.size, rfl, rfl, ⟨kk, h10, a11, a12⟩⟩
         ·rw [if_pos (by rfl)]
          have l11 : w.heap.size ≤ wz23.heap.size := kk.size
          have o11 : G9 < wz23.heap.size ∧ G10 < wz23.heap.size := ⟨lt_of_block h9, lt_of_block h10⟩
          have ne12 : wz23.heap.size ≠ wz4.heap.size := by have := lt_of_block a12; omega
          go_wp2_with fail
          replace kk := kk.alloc (.cells #[.int .i64 0, .int .u64 0] 25)
          replace h9 := heap_alloc_held h9 (.cells #[.int .i64 0, .int .u64 0] 25)
          replace h10 := heap_alloc_held h10 (.cells #[.int .i64 0, .int .u64 0] 25)
          replace a12 := heap_alloc_held a12 (.cells #[.int .i64 0, .int .u64 0] 25)
          have a11 : (wz23.alloc (.cells #[.int .i64 0, .int .u64 0] 25)).heap[wz23.heap.size]? = some (.cells #[.int .i64 0, .int .u64 0] 25 (0, 0)) := heap_alloc_new _ _
          refine hK.out _ _ ⟨⟨cell_of_block h9 rfl, cell_of_block h9 rfl⟩, h10⟩ (fun _ => ?_)
          clear hK K
          generalize wz23.alloc (.cells #[.int .i64 0, .int .u64 0] 25) = wz28 at *
          refine wpAnyH_ready (rs := [8]) (by kernel_rfl) (by simp) ?_
          refine AllReadyH.cons (o := ⟨some 43, _, _, _, _, _⟩) rfl (fun K hK => ?_) AllReadyH.nil
          rw [if_pos (by rfl)]
          refine wp_call_go 15 _ _ _ rfl (.agg (numA mz (dig xz))) (.agg (numA me (dig xe))) rfl rfl (Try.call15 _) (v := .agg (numA ms (dig xs))) (RAC.out _) (fun wz29 ka => ?_)
          replace kk := kk.trans0 ka
          replace h9 := ka.held h9 (by simp)
          replace h10 := ka.held h10 (by simp)
          replace a11 := ka.held a11 (by simp)
          replace a12 := ka.held a12 (by simp)
          refine hK.out _ _ ⟨⟨cell_of_block h9 rfl, cell_of_block h9 rfl⟩, h10⟩ (fun _ => ?_)
          clear hK K ka
          simp only [Act.put, List.setIfInBounds_toArray, List.set_cons_zero, List.set_cons_succ]
          refine wpAnyH_ready (rs := [11]) (by kernel_rfl) (by simp) ?_
          refine AllReadyH.cons (o := ⟨none, _, _, _, _, _⟩) rfl (fun K hK => ?_) AllReadyH.nil
          rw [if_pos (by rfl)]
          refine wp_store_row _ _ _ rfl (wz23.heap.size) #[.int .i64 (T / 18446744073709551616), .int .u64 (T % 18446744073709551616)] rfl rfl _ #[.int .i64 0, .int .u64 0] a11 infoW rfl (two_one _ _) ?_
          obtain ⟨kk, h9, h10, a11, a12⟩ := set_t kk h9 h10 a11 a12 T (by omega)
          refine hK.out _ _ ⟨⟨cell_of_block h9 rfl, cell_of_block h9 rfl⟩, h10⟩ (fun _ => ?_)
          clear hK K
          generalize wz29.setRow (wz23.heap.size) #[.int .i64 (T / 18446744073709551616), .int .u64 (T % 18446744073709551616)] = wz30 at *
          refine wpAnyH_ready (rs := [12]) (by kernel_rfl) (by simp) ?_
          refine AllReadyH.cons (o := ⟨none, _, _, _, _, _⟩) rfl (fun K hK => ?_) AllReadyH.nil
          rw [if_pos (by rfl)]
          refine wp_store_row _ _ _ rfl (wz4.heap.size) (numA ms (dig xs)) rfl rfl _ (numA false (dig 0)) a12 (by rw [numA_size]; exact infoNum) (by rw [numA_size, numA_size]) (numA_one _ _) ?_
          obtain ⟨kk, h9, h10, a11, a12⟩ := set_s kk h9 h10 a11 a12 ms xs (by omega)
          refine hK.out _ _ ⟨⟨cell_of_block h9 rfl, cell_of_block h9 rfl⟩, h10⟩ (fun _ => ?_)
          clear hK K
          refine wpAnyH_done (by kernel_rfl) ?_ _
          simp only [Act.put]
          go_wp2_with fail
          go_meet
          exact ⟨wz23.heap.size, wz4.heap.size, rfl, rfl, ⟨kk, h10, a11, a12⟩⟩
       ·rw [if_pos (by rfl)]
        have l11 : w.heap.size ≤ wz3.heap.size := kk.size
        have o11 : G9 < wz3.heap.size ∧ G10 < wz3.heap.size := ⟨lt_of_block h9, lt_of_block h10⟩
        go_wp2_with fail
        replace kk := kk.alloc (.cells #[.int .i64 0, .int .u64 0] 25)
        replace h9 := heap_alloc_held h9 (.cells #[.int .i64 0, .int .u64 0] 25)
        replace h10 := heap_alloc_held h10 (.cells #[.int .i64 0, .int .u64 0] 25)
        have a11 : (wz3.alloc (.cells #[.int .i64 0, .int .u64 0] 25)).heap[wz3.heap.size]? = some (.cells #[.int .i64 0, .int .u64 0] 25 (0, 0)) := heap_alloc_new _ _
        refine hK.out _ _ ⟨⟨cell_of_block h9 rfl, cell_of_block h9 rfl⟩, h10⟩ (fun _ => ?_)
        clear hK K
        generalize wz3.alloc (.cells #[.int .i64 0, .int .u64 0] 25) = wz32 at *
        refine wpAnyH_ready (rs := [7, 10]) (by kernel_rfl) (by simp) ?_
        refine AllReadyH.cons (o := ⟨some 42, _, _, _, _, _⟩) rfl (fun K hK => ?_) (AllReadyH.cons (o := ⟨some 12, _, _, _, _, _⟩) rfl (fun K hK => ?_) AllReadyH.nil)
        ·rw [if_pos (by rfl)]
         refine wp_call_go1 13 _ _ rfl (.int .i64 e) rfl (Try.call13 _) (v := .agg (numA me (dig xe))) (ROC.out _) (fun wz33 ka => ?_)
         replace kk := kk.trans0 ka
         replace h9 := ka.held h9 (by simp)
         replace h10 := ka.held h10 (by simp)
         replace a11 := ka.held a11 (by simp)
         refine hK.out _ _ ⟨⟨cell_of_block h9 rfl, cell_of_block h9 rfl⟩, h10⟩ (fun _ => ?_)
         clear hK K ka
         simp only [Act.put, List.setIfInBounds_toArray, List.set_cons_zero, List.set_cons_succ]
         refine wpAnyH_ready (rs := [8, 10]) (by kernel_rfl) (by simp) ?_
         refine AllReadyH.cons (o := ⟨some 43, _, _, _, _, _⟩) rfl (fun K hK => ?_) (AllReadyH.cons (o := ⟨some 12, _, _, _, _, _⟩) rfl (fun K hK => ?_) AllReadyH.nil)
         ·rw [if_pos (by rfl)]
          refine wp_call_go 15 _ _ _ rfl (.agg (numA mz (dig xz))) (.agg (numA me (dig xe))) rfl rfl (Try.call15 _) (v := .agg (numA ms (dig xs))) (RAC.out _) (fun wz34 ka => ?_)
          replace kk := kk.trans0 ka
          replace h9 := ka.held h9 (by simp)
          replace h10 := ka.held h10 (by simp)
          replace a11 := ka.held a11 (by simp)
          refine hK.out _ _ ⟨⟨cell_of_block h9 rfl, cell_of_block h9 rfl⟩, h10⟩ (fun _ => ?_)
          clear hK K ka
          simp only [Act.put, List.setIfInBounds_toArray, List.set_cons_zero, List.set_cons_succ]
          refine wpAnyH_ready (rs := [10]) (by kernel_rfl) (by simp) ?_
          refine AllReadyH.cons (o := ⟨some 12, _, _, _, _, _⟩) rfl (fun K hK => ?_) AllReadyH.nil
          rw [if_pos (by rfl)]
          have l12 : w.heap.size ≤ wz34.heap.size := kk.size
          have o12 : G9 < wz34.heap.size ∧ G10 < wz34.heap.size := ⟨lt_of_block h9, lt_of_block h10⟩
          have ne12 : wz3.heap.size ≠ wz34.heap.size := by have := lt_of_block a11; omega
          go_wp2_with fail
          simp only [nzeros_eq]
          replace kk := kk.alloc (.cells (numA false (dig 0)) 29)
          replace h9 := heap_alloc_held h9 (.cells (numA false (dig 0)) 29)
          replace h10 := heap_alloc_held h10 (.cells (numA false (dig 0)) 29)
          replace a11 := heap_alloc_held a11 (.cells (numA false (dig 0)) 29)
          have a12 : NumAt (wz34.alloc (.cells (numA false (dig 0)) 29)) wz34.heap.size false (dig 0) := heap_alloc_new _ _
          refine hK.out _ _ ⟨⟨cell_of_block h9 rfl, cell_of_block h9 rfl⟩, h10⟩ (fun _ => ?_)
          clear hK K
          generalize wz34.alloc (.cells (numA false (dig 0)) 29) = wz35 at *
          refine wpAnyH_ready (rs := [11]) (by kernel_rfl) (by simp) ?_
          refine AllReadyH.cons (o := ⟨none, _, _, _, _, _⟩) rfl (fun K hK => ?_) AllReadyH.nil
          rw [if_pos (by rfl)]
          refine wp_store_row _ _ _ rfl (wz3.heap.size) #[.int .i64 (T / 18446744073709551616), .int .u64 (T % 18446744073709551616)] rfl rfl _ #[.int .i64 0, .int .u64 0] a11 infoW rfl (two_one _ _) ?_
          obtain ⟨kk, h9, h10, a11, a12⟩ := set_t kk h9 h10 a11 a12 T (by omega)
          refine hK.out _ _ ⟨⟨cell_of_block h9 rfl, cell_of_block h9 rfl⟩, h10⟩ (fun _ => ?_)
          clear hK K
          generalize wz35.setRow (wz3.heap.size) #[.int .i64 (T / 18446744073709551616), .int .u64 (T % 18446744073709551616)] = wz36 at *
          refine wpAnyH_ready (rs := [12]) (by kernel_rfl) (by simp) ?_
          refine AllReadyH.cons (o := ⟨none, _, _, _, _, _⟩) rfl (fun K hK => ?_) AllReadyH.nil
          rw [if_pos (by rfl)]
          refine wp_store_row _ _ _ rfl (wz34.heap.size) (numA ms (dig xs)) rfl rfl _ (numA false (dig 0)) a12 (by rw [numA_size]; exact infoNum) (by rw [numA_size, numA_size]) (numA_one _ _) ?_
          obtain ⟨kk, h9, h10, a11, a12⟩ := set_s kk h9 h10 a11 a12 ms xs (by omega)
          refine hK.out _ _ ⟨⟨cell_of_block h9 rfl, cell_of_block h9 rfl⟩, h10⟩ (fun _ => ?_)
          clear hK K
          refine wpAnyH_done (by kernel_rfl) ?_ _
          simp only [Act.put]
          go_wp2_with fail
          go_meet
          exact ⟨wz3.heap.size, wz34.heap.size, rfl, rfl, ⟨kk, h10, a11, a12⟩⟩
         ·rw [if_pos (by rfl)]
          have l12 : w.heap.size ≤ wz33.heap.size := kk.size
          have o12 : G9 < wz33.heap.size ∧ G10 < wz33.heap.size := ⟨lt_of_block h9, lt_of_block h10⟩
          have ne12 : wz3.heap.size ≠ wz33.heap.size := by have := lt_of_block a11; omega
          go_wp2_with fail
          simp only [nzeros_eq]
          replace kk := kk.alloc (.cells (numA false (dig 0)) 29)
          replace h9 := heap_alloc_held h9 (.cells (numA false (dig 0)) 29)
          replace h10 := heap_alloc_held h10 (.cells (numA false (dig 0)) 29)
          replace a11 := heap_alloc_held a11 (.cells (numA false (dig 0)) 29)
          have a12 : NumAt (wz33.alloc (.cells (numA false (dig 0)) 29)) wz33.heap.size false (dig 0) := heap_alloc_new _ _
          refine hK.out _ _ ⟨⟨cell_of_block h9 rfl, cell_of_block h9 rfl⟩, h10⟩ (fun _ => ?_)
          clear hK K
          generalize wz33.alloc (.cells (numA false (dig 0)) 29) = wz38 at *
          refine wpAnyH_ready (rs := [8]) (by kernel_rfl) (by simp) ?_
          refine AllReadyH.cons (o := ⟨some 43, _, _, _, _, _⟩) rfl (fun K hK => ?_) AllReadyH.nil
          rw [if_pos (by rfl)]
          refine wp_call_go 15 _ _ _ rfl (.agg (numA mz (dig xz))) (.agg (numA me (dig xe))) rfl rfl (Try.call15 _) (v := .agg (numA ms (dig xs))) (RAC.out _) (fun wz39 ka => ?_)
          replace kk := kk.trans0 ka
          replace h9 := ka.held h9 (by simp)
          replace h10 := ka.held h10 (by simp)
          replace a11 := ka.held a11 (by simp)
          replace a12 := ka.held a12 (by simp)
          refine hK.out _ _ ⟨⟨cell_of_block h9 rfl, cell_of_block h9 rfl⟩, h10⟩ (fun _ => ?_)
          clear hK K ka
          simp only [Act.put, List.setIfInBounds_toArray, List.set_cons_zero, List.set_cons_succ]
          refine wpAnyH_ready (rs := [11]) (by kernel_rfl) (by simp) ?_
          refine AllReadyH.cons (o := ⟨none, _, _, _, _, _⟩) rfl (fun K hK => ?_) AllReadyH.nil
          rw [if_pos (by rfl)]
          refine wp_store_row _ _ _ rfl (wz3.heap.size) #[.int .i64 (T / 18446744073709551616), .int .u64 (T % 18446744073709551616)] rfl rfl _ #[.int .i64 0, .int .u64 0] a11 infoW rfl (two_one _ _) ?_
          obtain ⟨kk, h9, h10, a11, a12⟩ := set_t kk h9 h10 a11 a12 T (by omega)
          refine hK.out _ _ ⟨⟨cell_of_block h9 rfl, cell_of_block h9 rfl⟩, h10⟩ (fun _ => ?_)
          clear hK K
          generalize wz39.setRow (wz3.heap.size) #[.int .i64 (T / 18446744073709551616), .int .u64 (T % 18446744073709551616)] = wz40 at *
          refine wpAnyH_ready (rs := [12]) (by kernel_rfl) (by simp) ?_
          refine AllReadyH.cons (o := ⟨none, _, _, _, _, _⟩) rfl (fun K hK => ?_) AllReadyH.nil
          rw [if_pos (by rfl)]
          refine wp_store_row _ _ _ rfl (wz33.heap.size) (numA ms (dig xs)) rfl rfl _ (numA false (dig 0)) a12 (by rw [numA_size]; exact infoNum) (by rw [numA_size, numA_size]) (numA_one _ _) ?_
          obtain ⟨kk, h9, h10, a11, a12⟩ := set_s kk h9 h10 a11 a12 ms xs (by omega)
          refine hK.out _ _ ⟨⟨cell_of_block h9 rfl, cell_of_block h9 rfl⟩, h10⟩ (fun _ => ?_)
          clear hK K
          refine wpAnyH_done (by kernel_rfl) ?_ _
          simp only [Act.put]
          go_wp2_with fail
          go_meet
          exact ⟨wz3.heap.size, wz33.heap.size, rfl, rfl, ⟨kk, h10, a11, a12⟩⟩
        ·rw [if_pos (by rfl)]
         have l12 : w.heap.size ≤ wz32.heap.size := kk.size
         have o12 : G9 < wz32.heap.size ∧ G10 < wz32.heap.size := ⟨lt_of_block h9, lt_of_block h10⟩
         have ne12 : wz3.heap.size ≠ wz32.heap.size := by have := lt_of_block a11; omega
         go_wp2_with fail
         simp only [nzeros_eq]
         replace kk := kk.alloc (.cells (numA false (dig 0)) 29)
         replace h9 := heap_alloc_held h9 (.cells (numA false (dig 0)) 29)
         replace h10 := heap_alloc_held h10 (.cells (numA false (dig 0)) 29)
         replace a11 := heap_alloc_held a11 (.cells (numA false (dig 0)) 29)
         have a12 : NumAt (wz32.alloc (.cells (numA false (dig 0)) 29)) wz32.heap.size false (dig 0) := heap_alloc_new _ _
         refine hK.out _ _ ⟨⟨cell_of_block h9 rfl, cell_of_block h9 rfl⟩, h10⟩ (fun _ => ?_)
         clear hK K
         generalize wz32.alloc (.cells (numA false (dig 0)) 29) = wz42 at *
         refine wpAnyH_ready (rs := [7]) (by kernel_rfl) (by simp) ?_
         refine AllReadyH.cons (o := ⟨some 42, _, _, _, _, _⟩) rfl (fun K hK => ?_) AllReadyH.nil
         rw [if_pos (by rfl)]
         refine wp_call_go1 13 _ _ rfl (.int .i64 e) rfl (Try.call13 _) (v := .agg (numA me (dig xe))) (ROC.out _) (fun wz43 ka => ?_)
         replace kk := kk.trans0 ka
         replace h9 := ka.held h9 (by simp)
         replace h10 := ka.held h10 (by simp)
         replace a11 := ka.held a11 (by simp)
         replace a12 := ka.held a12 (by simp)
         refine hK.out _ _ ⟨⟨cell_of_block h9 rfl, cell_of_block h9 rfl⟩, h10⟩ (fun _ => ?_)
         clear hK K ka
         simp only [Act.put, List.setIfInBounds_toArray, List.set_cons_zero, List.set_cons_succ]
         refine wpAnyH_ready (rs := [8]) (by kernel_rfl) (by simp) ?_
         refine AllReadyH.cons (o := ⟨some 43, _, _, _, _, _⟩) rfl (fun K hK => ?_) AllReadyH.nil
         rw [if_pos (by rfl)]
         refine wp_call_go 15 _ _ _ rfl (.agg (numA mz (dig xz))) (.agg (numA me (dig xe))) rfl rfl (Try.call15 _) (v := .agg (numA ms (dig xs))) (RAC.out _) (fun wz44 ka => ?_)
         replace kk := kk.trans0 ka
         replace h9 := ka.held h9 (by simp)
         replace h10 := ka.held h10 (by simp)
         replace a11 := ka.held a11 (by simp)
         replace a12 := ka.held a12 (by simp)
         refine hK.out _ _ ⟨⟨cell_of_block h9 rfl, cell_of_block h9 rfl⟩, h10⟩ (fun _ => ?_)
         clear hK K ka
         simp only [Act.put, List.setIfInBounds_toArray, List.set_cons_zero, List.set_cons_succ]
         refine wpAnyH_ready (rs := [11]) (by kernel_rfl) (by simp) ?_
         refine AllReadyH.cons (o := ⟨none, _, _, _, _, _⟩) rfl (fun K hK => ?_) AllReadyH.nil
         rw [if_pos (by rfl)]
         refine wp_store_row _ _ _ rfl (wz3.heap.size) #[.int .i64 (T / 18446744073709551616), .int .u64 (T % 18446744073709551616)] rfl rfl _ #[.int .i64 0, .int .u64 0] a11 infoW rfl (two_one _ _) ?_
         obtain ⟨kk, h9, h10, a11, a12⟩ := set_t kk h9 h10 a11 a12 T (by omega)
         refine hK.out _ _ ⟨⟨cell_of_block h9 rfl, cell_of_block h9 rfl⟩, h10⟩ (fun _ => ?_)
         clear hK K
         generalize wz44.setRow (wz3.heap.size) #[.int .i64 (T / 18446744073709551616), .int .u64 (T % 18446744073709551616)] = wz45 at *
         refine wpAnyH_ready (rs := [12]) (by kernel_rfl) (by simp) ?_
         refine AllReadyH.cons (o := ⟨none, _, _, _, _, _⟩) rfl (fun K hK => ?_) AllReadyH.nil
         rw [if_pos (by rfl)]
         refine wp_store_row _ _ _ rfl (wz32.heap.size) (numA ms (dig xs)) rfl rfl _ (numA false (dig 0)) a12 (by rw [numA_size]; exact infoNum) (by rw [numA_size, numA_size]) (numA_one _ _) ?_
         obtain ⟨kk, h9, h10, a11, a12⟩ := set_s kk h9 h10 a11 a12 ms xs (by omega)
         refine hK.out _ _ ⟨⟨cell_of_block h9 rfl, cell_of_block h9 rfl⟩, h10⟩ (fun _ => ?_)
         clear hK K
         refine wpAnyH_done (by kernel_rfl) ?_ _
         simp only [Act.put]
         go_wp2_with fail
         go_meet
         exact ⟨wz3.heap.size, wz32.heap.size, rfl, rfl, ⟨kk, h10, a11, a12⟩⟩
       ·rw [if_pos (by rfl)]
        have l12 : w.heap.size ≤ wz3.heap.size := kk.size
        have o12 : G9 < wz3.heap.size ∧ G10 < wz3.heap.size := ⟨lt_of_block h9, lt_of_block h10⟩
        go_wp2_with fail
        simp only [nzeros_eq]
        replace kk := kk.alloc (.cells (numA false (dig 0)) 29)
        replace h9 := heap_alloc_held h9 (.cells (numA false (dig 0)) 29)
        replace h10 := heap_alloc_held h10 (.cells (numA false (dig 0)) 29)
        have a12 : NumAt (wz3.alloc (.cells (numA false (dig 0)) 29)) wz3.heap.size false (dig 0) := heap_alloc_new _ _
        refine hK.out _ _ ⟨⟨cell_of_block h9 rfl, cell_of_block h9 rfl⟩, h10⟩ (fun _ => ?_)
        clear hK K
        generalize wz3.alloc (.cells (numA false (dig 0)) 29) = wz47 at *
        refine wpAnyH_ready (rs := [7, 9]) (by kernel_rfl) (by simp) ?_
        refine AllReadyH.cons (o := ⟨some 42, _, _, _, _, _⟩) rfl (fun K hK => ?_) (AllReadyH.cons (o := ⟨some 11, _, _, _, _, _⟩) rfl (fun K hK => ?_) AllReadyH.nil)
        ·rw [if_pos (by rfl)]
         refine wp_call_go1 13 _ _ rfl (.int .i64 e) rfl (Try.call13 _) (v := .agg (numA me (dig xe))) (ROC.out _) (fun wz48 ka => ?_)
         replace kk := kk.trans0 ka
         replace h9 := ka.held h9 (by simp)
         replace h10 := ka.held h10 (by simp)
         replace a12 := ka.held a12 (by simp)
         refine hK.out _ _ ⟨⟨cell_of_block h9 rfl, cell_of_block h9 rfl⟩, h10⟩ (fun _ => ?_)
         clear hK K ka
         simp only [Act.put, List.setIfInBounds_toArray, List.set_cons_zero, List.set_cons_succ]
         refine wpAnyH_ready (rs := [8, 9]) (by kernel_rfl) (by simp) ?_
         refine AllReadyH.cons (o := ⟨some 43, _, _, _, _, _⟩) rfl (fun K hK => ?_) (AllReadyH.cons (o := ⟨some 11, _, _, _, _, _⟩) rfl (fun K hK => ?_) AllReadyH.nil)
         ·rw [if_pos (by rfl)]
          refine wp_call_go 15 _ _ _ rfl (.agg (numA mz (dig xz))) (.agg (numA me (dig xe))) rfl rfl (Try.call15 _) (v := .agg (numA ms (dig xs))) (RAC.out _) (fun wz49 ka => ?_)
          replace kk := kk.trans0 ka
          replace h9 := ka.held h9 (by simp)
          replace h10 := ka.held h10 (by simp)
          replace a12 := ka.held a12 (by simp)
          refine hK.out _ _ ⟨⟨cell_of_block h9 rfl, cell_of_block h9 rfl⟩, h10⟩ (fun _ => ?_)
          clear hK K ka
          simp only [Act.put, List.setIfInBounds_toArray, List.set_cons_zero, List.set_cons_succ]
          refine wpAnyH_ready (rs := [9]) (by kernel_rfl) (by simp) ?_
          refine AllReadyH.cons (o := ⟨some 11, _, _, _, _, _⟩) rfl (fun K hK => ?_) AllReadyH.nil
          rw [if_pos (by rfl)]
          have l11 : w.heap.size ≤ wz49.heap.size := kk.size
          have o11 : G9 < wz49.heap.size ∧ G10 < wz49.heap.size := ⟨lt_of_block h9, lt_of_block h10⟩
          have ne12 : wz49.heap.size ≠ wz3.heap.size := by have := lt_of_block a12; omega
          go_wp2_with fail
          replace kk := kk.alloc (.cells #[.int .i64 0, .int .u64 0] 25)
          replace h9 := heap_alloc_held h9 (.cells #[.int .i64 0, .int .u64 0] 25)
          replace h10 := heap_alloc_held h10 (.cells #[.int .i64 0, .int .u64 0] 25)
          replace a12 := heap_alloc_held a12 (.cells #[.int .i64 0, .int .u64 0] 25)
          have a11 : (wz49.alloc (.cells #[.int .i64 0, .int .u64 0] 25)).heap[wz49.heap.size]? = some (.cells #[.int .i64 0, .int .u64 0] 25 (0, 0)) := heap_alloc_new _ _
          refine hK.out _ _ ⟨⟨cell_of_block h9 rfl, cell_of_block h9 rfl⟩, h10⟩ (fun _ => ?_)
          clear hK K
          generalize wz49.alloc (.cells #[.int .i64 0, .int .u64 0] 25) = wz50 at *
          refine wpAnyH_ready (rs := [11]) (by kernel_rfl) (by simp) ?_
          refine AllReadyH.cons (o := ⟨none, _, _, _, _, _⟩) rfl (fun K hK => ?_) AllReadyH.nil
          rw [if_pos (by rfl)]
          refine wp_store_row _ _ _ rfl (wz49.heap.size) #[.int .i64 (T / 18446744073709551616), .int .u64 (T % 18446744073709551616)] rfl rfl _ #[.int .i64 0, .int .u64 0] a11 infoW rfl (two_one _ _) ?_
          obtain ⟨kk, h9, h10, a11, a12⟩ := set_t kk h9 h10 a11 a12 T (by omega)
          refine hK.out _ _ ⟨⟨cell_of_block h9 rfl, cell_of_block h9 rfl⟩, h10⟩ (fun _ => ?_)
          clear hK K
          generalize wz50.setRow (wz49.heap.size) #[.int .i64 (T / 18446744073709551616), .int .u64 (T % 18446744073709551616)] = wz51 at *
          refine wpAnyH_ready (rs := [12]) (by kernel_rfl) (by simp) ?_
          refine AllReadyH.cons (o := ⟨none, _, _, _, _, _⟩) rfl (fun K hK => ?_) AllReadyH.nil
          rw [if_pos (by rfl)]
          refine wp_store_row _ _ _ rfl (wz3.heap.size) (numA ms (dig xs)) rfl rfl _ (numA false (dig 0)) a12 (by rw [numA_size]; exact infoNum) (by rw [numA_size, numA_size]) (numA_one _ _) ?_
          obtain ⟨kk, h9, h10, a11, a12⟩ := set_s kk h9 h10 a11 a12 ms xs (by omega)
          refine hK.out _ _ ⟨⟨cell_of_block h9 rfl, cell_of_block h9 rfl⟩, h10⟩ (fun _ => ?_)
          clear hK K
          refine wpAnyH_done (by kernel_rfl) ?_ _
          simp only [Act.put]
          go_wp2_with fail
          go_meet
          exact ⟨wz49.heap.size, wz3.heap.size, rfl, rfl, ⟨kk, h10, a11, a12⟩⟩
         ·rw [if_pos (by rfl)]
          have l11 : w.heap.size ≤ wz48.heap.size := kk.size
          have o11 : G9 < wz48.heap.size ∧ G10 < wz48.heap.size := ⟨lt_of_block h9, lt_of_block h10⟩
          have ne12 : wz48.heap.size ≠ wz3.heap.size := by have := lt_of_block a12; omega
          go_wp2_with fail
          replace kk := kk.alloc (.cells #[.int .i64 0, .int .u64 0] 25)
          replace h9 := heap_alloc_held h9 (.cells #[.int .i64 0, .int .u64 0] 25)
          replace h10 := heap_alloc_held h10 (.cells #[.int .i64 0, .int .u64 0] 25)
          replace a12 := heap_alloc_held a12 (.cells #[.int .i64 0, .int .u64 0] 25)
          have a11 : (wz48.alloc (.cells #[.int .i64 0, .int .u64 0] 25)).heap[wz48.heap.size]? = some (.cells #[.int .i64 0, .int .u64 0] 25 (0, 0)) := heap_alloc_new _ _
          refine hK.out _ _ ⟨⟨cell_of_block h9 rfl, cell_of_block h9 rfl⟩, h10⟩ (fun _ => ?_)
          clear hK K
          generalize wz48.alloc (.cells #[.int .i64 0, .int .u64 0] 25) = wz53 at *
          refine wpAnyH_ready (rs := [8]) (by kernel_rfl) (by simp) ?_
          refine AllReadyH.cons (o := ⟨some 43, _, _, _, _, _⟩) rfl (fun K hK => ?_) AllReadyH.nil
          rw [if_pos (by rfl)]
          refine wp_call_go 15 _ _ _ rfl (.agg (numA mz (dig xz))) (.agg (numA me (dig xe))) rfl rfl (Try.call15 _) (v := .agg (numA ms (dig xs))) (RAC.out _) (fun wz54 ka => ?_)
          replace kk := kk.trans0 ka
          replace h9 := ka.held h9 (by simp)
          replace h10 := ka.held h10 (by simp)
          replace a11 := ka.held a11 (by simp)
          replace a12 := ka.held a12 (by simp)
          refine hK.out _ _ ⟨⟨cell_of_block h9 rfl, cell_of_block h9 rfl⟩, h10⟩ (fun _ => ?_)
          clear hK K ka
          simp only [Act.put, List.setIfInBounds_toArray, List.set_cons_zero, List.set_cons_succ]
          refine wpAnyH_ready (rs := [11]) (by kernel_rfl) (by simp) ?_
          refine AllReadyH.cons (o := ⟨none, _, _, _, _, _⟩) rfl (fun K hK => ?_) AllReadyH.nil
          rw [if_pos (by rfl)]
          refine wp_store_row _ _ _ rfl (wz48.heap.size) #[.int .i64 (T / 18446744073709551616), .int .u64 (T % 18446744073709551616)] rfl rfl _ #[.int .i64 0, .int .u64 0] a11 infoW rfl (two_one _ _) ?_
          obtain ⟨kk, h9, h10, a11, a12⟩ := set_t kk h9 h10 a11 a12 T (by omega)
          refine hK.out _ _ ⟨⟨cell_of_block h9 rfl, cell_of_block h9 rfl⟩, h10⟩ (fun _ => ?_)
          clear hK K
          generalize wz54.setRow (wz48.heap.size) #[.int .i64 (T / 18446744073709551616), .int .u64 (T % 18446744073709551616)] = wz55 at *
          refine wpAnyH_ready (rs := [12]) (by kernel_rfl) (by simp) ?_
          refine AllReadyH.cons (o := ⟨none, _, _, _, _, _⟩) rfl (fun K hK => ?_) AllReadyH.nil
          rw [if_pos (by rfl)]
          refine wp_store_row _ _ _ rfl (wz3.heap.size) (numA ms (dig xs)) rfl rfl _ (numA false (dig 0)) a12 (by rw [numA_size]; exact infoNum) (by rw [numA_size, numA_size]) (numA_one _ _) ?_
          obtain ⟨kk, h9, h10, a11, a12⟩ := set_s kk h9 h10 a11 a12 ms xs (by omega)
          refine hK.out _ _ ⟨⟨cell_of_block h9 rfl, cell_of_block h9 rfl⟩, h10⟩ (fun _ => ?_)
          clear hK K
          refine wpAnyH_done (by kernel_rfl) ?_ _
          simp only [Act.put]
          go_wp2_with fail
          go_meet
          exact ⟨wz48.heap.size, wz3.heap.size, rfl, rfl, ⟨kk, h10, a11, a12⟩⟩
        ·rw [if_pos (by rfl)]
         have l11 : w.heap.size ≤ wz47.heap.size := kk.size
         have o11 : G9 < wz47.heap.size ∧ G10 < wz47.heap.size := ⟨lt_of_block h9, lt_of_block h10⟩
         have ne12 : wz47.heap.size ≠ wz3.heap.size := by have := lt_of_block a12; omega
         go_wp2_with fail
         replace kk := kk.alloc (.cells #[.int .i64 0, .int .u64 0] 25)
         replace h9 := heap_alloc_held h9 (.cells #[.int .i64 0, .int .u64 0] 25)
         replace h10 := heap_alloc_held h10 (.cells #[.int .i64 0, .int .u64 0] 25)
         replace a12 := heap_alloc_held a12 (.cells #[.int .i64 0, .int .u64 0] 25)
         have a11 : (wz47.alloc (.cells #[.int .i64 0, .int .u64 0] 25)).heap[wz47.heap.size]? = some (.cells #[.int .i64 0, .int .u64 0] 25 (0, 0)) := heap_alloc_new _ _
         refine hK.out _ _ ⟨⟨cell_of_block h9 rfl, cell_of_block h9 rfl⟩, h10⟩ (fun _ => ?_)
         clear hK K
         generalize wz47.alloc (.cells #[.int .i64 0, .int .u64 0] 25) = wz57 at *
         refine wpAnyH_ready (rs := [7]) (by kernel_rfl) (by simp) ?_
         refine AllReadyH.cons (o := ⟨some 42, _, _, _, _, _⟩) rfl (fun K hK => ?_) AllReadyH.nil
         rw [if_pos (by rfl)]
         refine wp_call_go1 13 _ _ rfl (.int .i64 e) rfl (Try.call13 _) (v := .agg (numA me (dig xe))) (ROC.out _) (fun wz58 ka => ?_)
         replace kk := kk.trans0 ka
         replace h9 := ka.held h9 (by simp)
         replace h10 := ka.held h10 (by simp)
         replace a11 := ka.held a11 (by simp)
         replace a12 := ka.held a12 (by simp)
         refine hK.out _ _ ⟨⟨cell_of_block h9 rfl, cell_of_block h9 rfl⟩, h10⟩ (fun _ => ?_)
         clear hK K ka
         simp only [Act.put, List.setIfInBounds_toArray, List.set_cons_zero, List.set_cons_succ]
         refine wpAnyH_ready (rs := [8]) (by kernel_rfl) (by simp) ?_
         refine AllReadyH.cons (o := ⟨some 43, _, _, _, _, _⟩) rfl (fun K hK => ?_) AllReadyH.nil
         rw [if_pos (by rfl)]
         refine wp_call_go 15 _ _ _ rfl (.agg (numA mz (dig xz))) (.agg (numA me (dig xe))) rfl rfl (Try.call15 _) (v := .agg (numA ms (dig xs))) (RAC.out _) (fun wz59 ka => ?_)
         replace kk := kk.trans0 ka
         replace h9 := ka.held h9 (by simp)
         replace h10 := ka.held h10 (by simp)
         replace a11 := ka.held a11 (by simp)
         replace a12 := ka.held a12 (by simp)
         refine hK.out _ _ ⟨⟨cell_of_block h9 rfl, cell_of_block h9 rfl⟩, h10⟩ (fun _ => ?_)
         clear hK K ka
         simp only [Act.put, List.setIfInBounds_toArray, List.set_cons_zero, List.set_cons_succ]
         refine wpAnyH_ready (rs := [11]) (by kernel_rfl) (by simp) ?_
         refine AllReadyH.cons (o := ⟨none, _, _, _, _, _⟩) rfl (fun K hK => ?_) AllReadyH.nil
         rw [if_pos (by rfl)]
         refine wp_store_row _ _ _ rfl (wz47.heap.size) #[.int .i64 (T / 18446744073709551616), .int .u64 (T % 18446744073709551616)] rfl rfl _ #[.int .i64 0, .int .u64 0] a11 infoW rfl (two_one _ _) ?_
         obtain ⟨kk, h9, h10, a11, a12⟩ := set_t kk h9 h10 a11 a12 T (by omega)
         refine hK.out _ _ ⟨⟨cell_of_block h9 rfl, cell_of_block h9 rfl⟩, h10⟩ (fun _ => ?_)
         clear hK K
         generalize wz59.setRow (wz47.heap.size) #[.int .i64 (T / 18446744073709551616), .int .u64 (T % 18446744073709551616)] = wz60 at *
         refine wpAnyH_ready (rs := [12]) (by kernel_rfl) (by simp) ?_
         refine AllReadyH.cons (o := ⟨none, _, _, _, _, _⟩) rfl (fun K hK => ?_) AllReadyH.nil
         rw [if_pos (by rfl)]
         refine wp_store_row _ _ _ rfl (wz3.heap.size) (numA ms (dig xs)) rfl rfl _ (numA false (dig 0)) a12 (by rw [numA_size]; exact infoNum) (by rw [numA_size, numA_size]) (numA_one _ _) ?_
         obtain ⟨kk, h9, h10, a11, a12⟩ := set_s kk h9 h10 a11 a12 ms xs (by omega)
         refine hK.out _ _ ⟨⟨cell_of_block h9 rfl, cell_of_block h9 rfl⟩, h10⟩ (fun _ => ?_)
         clear hK K
         refine wpAnyH_done (by kernel_rfl) ?_ _
         simp only [Act.put]
         go_wp2_with fail
         go_meet
         exact ⟨wz47.heap.size, wz3.heap.size, rfl, rfl, ⟨kk, h10, a11, a12⟩⟩
      ·rw [if_pos (by rfl)]
       have l11 : w.heap.size ≤ wz2.heap.size := kk.size
       have o11 : G9 < wz2.heap.size ∧ G10 < wz2.heap.size := ⟨lt_of_block h9, lt_of_block h10⟩
       go_wp2_with fail
       replace kk := kk.alloc (.cells #[.int .i64 0, .int .u64 0] 25)
       replace h9 := heap_alloc_held h9 (.cells #[.int .i64 0, .int .u64 0] 25)
       replace h10 := heap_alloc_held h10 (.cells #[.int .i64 0, .int .u64 0] 25)
       replace hs := hs.keep ((Keeps.refl [] _).alloc (.cells #[.int .i64 0, .int .u64 0] 25))
       have a11 : (wz2.alloc (.cells #[.int .i64 0, .int .u64 0] 25)).heap[wz2.heap.size]? = some (.cells #[.int .i64 0, .int .u64 0] 25 (0, 0)) := heap_alloc_new _ _
       refine hK.out _ _ ⟨⟨cell_of_block h9 rfl, cell_of_block h9 rfl⟩, h10⟩ (fun _ => ?_)
       clear hK K
       generalize wz2.alloc (.cells #[.int .i64 0, .int .u64 0] 25) = wz62 at *
       refine wpAnyH_ready (rs := [4, 10]) (by kernel_rfl) (by simp) ?_
       refine AllReadyH.cons (o := ⟨some 39, _, _, _, _, _⟩) rfl (fun K hK => ?_) (AllReadyH.cons (o := ⟨some 12, _, _, _, _, _⟩) rfl (fun K hK => ?_) AllReadyH.nil)
       ·rw [if_pos (by rfl)]
        refine wp_call_go1 14 _ _ rfl (.slice (some ⟨wz1.heap.size, 0, none⟩) 2 2) rfl (Try.call14 _) (v := .agg #[.int .i64 (T / 18446744073709551616), .int .u64 (T % 18446744073709551616)]) (ADC.out _ _ hs) (fun wz63 ka => ?_)
        clear hs
        replace kk := kk.trans0 ka
        replace h9 := ka.held h9 (by simp)
        replace h10 := ka.held h10 (by simp)
        replace a11 := ka.held a11 (by simp)
        refine hK.out _ _ ⟨⟨cell_of_block h9 rfl, cell_of_block h9 rfl⟩, h10⟩ (fun _ => ?_)
        clear hK K ka
        simp only [Act.put, List.setIfInBounds_toArray, List.set_cons_zero, List.set_cons_succ]
        refine wpAnyH_ready (rs := [7, 10]) (by kernel_rfl) (by simp) ?_
        refine AllReadyH.cons (o := ⟨some 42, _, _, _, _, _⟩) rfl (fun K hK => ?_) (AllReadyH.cons (o := ⟨some 12, _, _, _, _, _⟩) rfl (fun K hK => ?_) AllReadyH.nil)
        ·rw [if_pos (by rfl)]
         refine wp_call_go1 13 _ _ rfl (.int .i64 e) rfl (Try.call13 _) (v := .agg (numA me (dig xe))) (ROC.out _) (fun wz64 ka => ?_)
         replace kk := kk.trans0 ka
         replace h9 := ka.held h9 (by simp)
         replace h10 := ka.held h10 (by simp)
         replace a11 := ka.held a11 (by simp)
         refine hK.out _ _ ⟨⟨cell_of_block h9 rfl, cell_of_block h9 rfl⟩, h10⟩ (fun _ => ?_)
         clear hK K ka
         simp only [Act.put, List.setIfInBounds_toArray, List.set_cons_zero, List.set_cons_succ]
         refine wpAnyH_ready (rs := [8, 10]) (by kernel_rfl) (by simp) ?_
         refine AllReadyH.cons (o := ⟨some 43, _, _, _, _, _⟩) rfl (fun K hK => ?_) (AllReadyH.cons (o := ⟨some 12, _, _, _, _, _⟩) rfl (fun K hK => ?_) AllReadyH.nil)
         ·rw [if_pos (by rfl)]
          refine wp_call_go 15 _ _ _ rfl (.agg (numA mz (dig xz))) (.agg (numA me (dig xe))) rfl rfl (Try.call15 _) (v := .agg (numA ms (dig xs))) (RAC.out _) (fun wz65 ka => ?_)
          replace kk := kk.trans0 ka
          replace h9 := ka.held h9 (by simp)
          replace h10 := ka.held h10 (by simp)
          replace a11 := ka.held a11 (by simp)
          refine hK.out _ _ ⟨⟨cell_of_block h9 rfl, cell_of_block h9 rfl⟩, h10⟩ (fun _ => ?_)
          clear hK K ka
          simp only [Act.put, List.setIfInBounds_toArray, List.set_cons_zero, List.set_cons_succ]
          refine wpAnyH_ready (rs := [10]) (by kernel_rfl) (by simp) ?_
          refine AllReadyH.cons (o := ⟨some 12, _, _, _, _, _⟩) rfl (fun K hK => ?_) AllReadyH.nil
          rw [if_pos (by rfl)]
          have l12 : w.heap.size ≤ wz65.heap.size := kk.size
          have o12 : G9 < wz65.heap.size ∧ G10 < wz65.heap.size := ⟨lt_of_block h9, lt_of_block h10⟩
          have ne12 : wz2.heap.size ≠ wz65.heap.size := by have := lt_of_block a11; omega
          go_wp2_with fail
          simp only [nzeros_eq]
          replace kk := kk.alloc (.cells (numA false (dig 0)) 29)
          replace h9 := heap_alloc_held h9 (.cells (numA false (dig 0)) 29)
          replace h10 := heap_alloc_held h10 (.cells (numA false (dig 0)) 29)
          replace a11 := heap_alloc_held a11 (.cells (numA false (dig 0)) 29)
          have a12 : NumAt (wz65.alloc (.cells (numA false (dig 0)) 29)) wz65.heap.size false (dig 0) := heap_alloc_new _ _
          refine hK.out _ _ ⟨⟨cell_of_block h9 rfl, cell_of_block h9 rfl⟩, h10⟩ (fun _ => ?_)
          clear hK K
          generalize wz65.alloc (.cells (numA false (dig 0)) 29) = wz66 at *
          refine wpAnyH_ready (rs := [11]) (by kernel_rfl) (by simp) ?_
          refine AllReadyH.cons (o := ⟨none, _, _, _, _, _⟩) rfl (fun K hK => ?_) AllReadyH.nil
          rw [if_pos (by rfl)]
          refine wp_store_row _ _ _ rfl (wz2.heap.size) #[.int .i64 (T / 18446744073709551616), .int .u64 (T % 18446744073709551616)] rfl rfl _ #[.int .i64 0, .int .u64 0] a11 infoW rfl (two_one _ _) ?_
          obtain ⟨kk, h9, h10, a11, a12⟩ := set_t kk h9 h10 a11 a12 T (by omega)
          refine hK.out _ _ ⟨⟨cell_of_block h9 rfl, cell_of_block h9 rfl⟩, h10⟩ (fun _ => ?_)
          clear hK K
          generalize wz66.setRow (wz2.heap.size) #[.int .i64 (T / 18446744073709551616), .int .u64 (T % 18446744073709551616)] = wz67 at *
          refine wpAnyH_ready (rs := [12]) (by kernel_rfl) (by simp) ?_
          refine AllReadyH.cons (o := ⟨none, _, _, _, _, _⟩) rfl (fun K hK => ?_) AllReadyH.nil
          rw [if_pos (by rfl)]
          refine wp_store_row _ _ _ rfl (wz65.heap.size) (numA ms (dig xs)) rfl rfl _ (numA false (dig 0)) a12 (by rw [numA_size]; exact infoNum) (by rw [numA_size, numA_size]) (numA_one _ _) ?_
          obtain ⟨kk, h9, h10, a11, a12⟩ := set_s kk h9 h10 a11 a12 ms xs (by omega)
          refine hK.out _ _ ⟨⟨cell_of_block h9 rfl, cell_of_block h9 rfl⟩, h10⟩ (fun _ => ?_)
          clear hK K
          refine wpAnyH_done (by kernel_rfl) ?_ _
          simp only [Act.put]
          go_wp2_with fail
          go_meet
          exact ⟨wz2.heap.size, wz65.heap.size, rfl, rfl, ⟨kk, h10, a11, a12⟩⟩
         ·rw [if_pos (by rfl)]
          have l12 : w.heap.size ≤ wz64.heap.size := kk.size
          have o12 : G9 < wz64.heap.size ∧ G10 < wz64.heap.size := ⟨lt_of_block h9, lt_of_block h10⟩
          have ne12 : wz2.heap.size ≠ wz64.heap.size := by have := lt_of_block a11; omega
          go_wp2_with fail
          simp only [nzeros_eq]
          replace kk := kk.alloc (.cells (numA false (dig 0)) 29)
          replace h9 := heap_alloc_held h9 (.cells (numA false (dig 0)) 29)
          replace h10 := heap_alloc_held h10 (.cells (numA false (dig 0)) 29)
          replace a11 := heap_alloc_held a11 (.cells (numA false (dig 0)) 29)
          have a12 : NumAt (wz64.alloc (.cells (numA false (dig 0)) 29)) wz64.heap.size false (dig 0) := heap_alloc_new _ _
          refine hK.out _ _ ⟨⟨cell_of_block h9 rfl, cell_of_block h9 rfl⟩, h10⟩ (fun _ => ?_)
          clear hK K
          generalize wz64.alloc (.cells (numA false (dig 0)) 29) = wz69 at *
          refine wpAnyH_ready (rs := [8]) (by kernel_rfl) (by simp) ?_
          refine AllReadyH.cons (o := ⟨some 43, _, _, _, _, _⟩) rfl (fun K hK => ?_) AllReadyH.nil
          rw [if_pos (by rfl)]
          refine wp_call_go 15 _ _ _ rfl (.agg (numA mz (dig xz))) (.agg (numA me (dig xe))) rfl rfl (Try.call15 _) (v := .agg (numA ms (dig xs))) (RAC.out _) (fun wz70 ka => ?_)
          replace kk := kk.trans0 ka
          replace h9 := ka.held h9 (by simp)
          replace h10 := ka.held h10 (by simp)
          replace a11 := ka.held a11 (by simp)
          replace a12 := ka.held a12 (by simp)
          refine hK.out _ _ ⟨⟨cell_of_block h9 rfl, cell_of_block h9 rfl⟩, h10⟩ (fun _ => ?_)
          clear hK K ka
          simp only [Act.put, List.setIfInBounds_toArray, List.set_cons_zero, List.set_cons_succ]
          refine wpAnyH_ready (rs := [11]) (by kernel_rfl) (by simp) ?_
          refine AllReadyH.cons (o := ⟨none, _, _, _, _, _⟩) rfl (fun K hK => ?_) AllReadyH.nil
          rw [if_pos (by rfl)]
          refine wp_store_row _ _ _ rfl (wz2.heap.size) #[.int .i64 (T / 18446744073709551616), .int .u64 (T % 18446744073709551616)] rfl rfl _ #[.int .i64 0, .int .u64 0] a11 infoW rfl (two_one _ _) ?_
          obtain ⟨kk, h9, h10, a11, a12⟩ := set_t kk h9 h10 a11 a12 T (by omega)
          refine hK.out _ _ ⟨⟨cell_of_block h9 rfl, cell_of_block h9 rfl⟩, h10⟩ (fun _ => ?_)
          clear hK K
          generalize wz70.setRow (wz2.heap.size) #[.int .i64 (T / 18446744073709551616), .int .u64 (T % 18446744073709551616)] = wz71 at *
          refine wpAnyH_ready (rs := [12]) (by kernel_rfl) (by simp) ?_
          refine AllReadyH.cons (o := ⟨none, _, _, _, _, _⟩) rfl (fun K hK => ?_) AllReadyH.nil
          rw [if_pos (by rfl)]
          refine wp_store_row _ _ _ rfl (wz64.heap.size) (numA ms (dig xs)) rfl rfl _ (numA false (dig 0)) a12 (by rw [numA_size]; exact infoNum) (by rw [numA_size, numA_size]) (numA_one _ _) ?_
          obtain ⟨kk, h9, h10, a11, a12⟩ := set_s kk h9 h10 a11 a12 ms xs (by omega)
          refine hK.out _ _ ⟨⟨cell_of_block h9 rfl, cell_of_block h9 rfl⟩, h10⟩ (fun _ => ?_)
          clear hK K
          refine wpAnyH_done (by kernel_rfl) ?_ _
          simp only [Act.put]
          go_wp2_with fail
          go_meet
          exact ⟨wz2.heap.size, wz64.heap.size, rfl, rfl, ⟨kk, h10, a11, a12⟩⟩
        ·rw [if_pos (by rfl)]
         have l12 : w.heap.size ≤ wz63.heap.size := kk.size
         have o12 : G9 < wz63.heap.size ∧ G10 < wz63.heap.size := ⟨lt_of_block h9, lt_of_block h10⟩
         have ne12 : wz2.heap.size ≠ wz63.heap.size := by have := lt_of_block a11; omega
         go_wp2_with fail
         simp only [nzeros_eq]
         replace kk := kk.alloc (.cells (numA false (dig 0)) 29)
         replace h9 := heap_alloc_held h9 (.cells (numA false (dig 0)) 29)
         replace h10 := heap_alloc_held h10 (.cells (numA false (dig 0)) 29)
         replace a11 := heap_alloc_held a11 (.cells (numA false (dig 0)) 29)
         have a12 : NumAt (wz63.alloc (.cells (numA false (dig 0)) 29)) wz63.heap.size false (dig 0) := heap_alloc_new _ _
         refine hK.out _ _ ⟨⟨cell_of_block h9 rfl, cell_of_block h9 rfl⟩, h10⟩ (fun _ => ?_)
         clear hK K
         generalize wz63.alloc (.cells (numA false (dig 0)) 29) = wz73 at *
         refine wpAnyH_ready (rs := [7]) (by kernel_rfl) (by simp) ?_
         refine AllReadyH.cons (o := ⟨some 42, _, _, _, _, _⟩) rfl (fun K hK => ?_) AllReadyH.nil
         rw [if_pos (by rfl)]
         refine wp_call_go1 13 _ _ rfl (.int .i64 e) rfl (Try.call13 _) (v := .agg (numA me (dig xe))) (ROC.out _) (fun wz74 ka => ?_)
         replace kk := kk.trans0 ka
         replace h9 := ka.held h9 (by simp)
         replace h10 := ka.held h10 (by simp)
         replace a11 := ka.held a11 (by simp)
         replace a12 := ka.held a12 (by simp)
         refine hK.out _ _ ⟨⟨cell_of_block h9 rfl, cell_of_block h9 rfl⟩, h10⟩ (fun _ => ?_)
         clear hK K ka
         simp only [Act.put, List.setIfInBounds_toArray, List.set_cons_zero, List.set_cons_succ]
         refine wpAnyH_ready (rs := [8]) (by kernel_rfl) (by simp) ?_
         refine AllReadyH.cons (o := ⟨some 43, _, _, _, _, _⟩) rfl (fun K hK => ?_) AllReadyH.nil
         rw [if_pos (by rfl)]
         refine wp_call_go 15 _ _ _ rfl (.agg (numA mz (dig xz))) (.agg (numA me (dig xe))) rfl rfl (Try.call15 _) (v := .agg (numA ms (dig xs))) (RAC.out _) (fun wz75 ka => ?_)
         replace kk := kk.trans0 ka
         replace h9 := ka.held h9 (by simp)
         replace h10 := ka.held h10 (by simp)
         replace a11 := ka.held a11 (by simp)
         replace a12 := ka.held a12 (by simp)
         refine hK.out _ _ ⟨⟨cell_of_block h9 rfl, cell_of_block h9 rfl⟩, h10⟩ (fun _ => ?_)
         clear hK K ka
         simp only [Act.put, List.setIfInBounds_toArray, List.set_cons_zero, List.set_cons_succ]
         refine wpAnyH_ready (rs := [11]) (by kernel_rfl) (by simp) ?_
         refine AllReadyH.cons (o := ⟨none, _, _, _, _, _⟩) rfl (fun K hK => ?_) AllReadyH.nil
         rw [if_pos (by rfl)]
         refine wp_store_row _ _ _ rfl (wz2.heap.size) #[.int .i64 (T / 18446744073709551616), .int .u64 (T % 18446744073709551616)] rfl rfl _ #[.int .i64 0, .int .u64 0] a11 infoW rfl (two_one _ _) ?_
         obtain ⟨kk, h9, h10, a11, a12⟩ := set_t kk h9 h10 a11 a12 T (by omega)
         refine hK.out _ _ ⟨⟨cell_of_block h9 rfl, cell_of_block h9 rfl⟩, h10⟩ (fun _ => ?_)
         clear hK K
         generalize wz75.setRow (wz2.heap.size) #[.int .i64 (T / 18446744073709551616), .int .u64 (T % 18446744073709551616)] = wz76 at *
         refine wpAnyH_ready (rs := [12]) (by kernel_rfl) (by simp) ?_
         refine AllReadyH.cons (o := ⟨none, _, _, _, _, _⟩) rfl (fun K hK => ?_) AllReadyH.nil
         rw [if_pos (by rfl)]
         refine wp_store_row _ _ _ rfl (wz63.heap.size) (numA ms (dig xs)) rfl rfl _ (numA false (dig 0)) a12 (by rw [numA_size]; exact infoNum) (by rw [numA_size, numA_size]) (numA_one _ _) ?_
         obtain ⟨kk, h9, h10, a11, a12⟩ := set_s kk h9 h10 a11 a12 ms xs (by omega)
         refine hK.out _ _ ⟨⟨cell_of_block h9 rfl, cell_of_block h9 rfl⟩, h10⟩ (fun _ => ?_)
         clear hK K
         refine wpAnyH_done (by kernel_rfl) ?_ _
         simp only [Act.put]
         go_wp2_with fail
         go_meet
         exact ⟨wz2.heap.size, wz63.heap.size, rfl, rfl, ⟨kk, h10, a11, a12⟩⟩
       ·rw [if_pos (by rfl)]
        have l12 : w.heap.size ≤ wz62.heap.size := kk.size
        have o12 : G9 < wz62.heap.size ∧ G10 < wz62.heap.size := ⟨lt_of_block h9, lt_of_block h10⟩
        have ne12 : wz2.heap.size ≠ wz62.heap.size := by have := lt_of_block a11; omega
        go_wp2_with fail
        simp only [nzeros_eq]
        replace kk := kk.alloc (.cells (numA false (dig 0)) 29)
        replace h9 := heap_alloc_held h9 (.cells (numA false (dig 0)) 29)
        replace h10 := heap_alloc_held h10 (.cells (numA false (dig 0)) 29)
        replace a11 := heap_alloc_held a11 (.cells (numA false (dig 0)) 29)
        replace hs := hs.keep ((Keeps.refl [] _).alloc (.cells (numA false (dig 0)) 29))
        have a12 : NumAt (wz62.alloc (.cells (numA false (dig 0)) 29)) wz62.heap.size false (dig 0) := heap_alloc_new _ _
        refine hK.out _ _ ⟨⟨cell_of_block h9 rfl, cell_of_block h9 rfl⟩, h10⟩ (fun _ => ?_)
        clear hK K
        generalize wz62.alloc (.cells (numA false (dig 0)) 29) = wz78 at *
        refine wpAnyH_ready (rs := [4]) (by kernel_rfl) (by simp) ?_
        refine AllReadyH.cons (o := ⟨some 39, _, _, _, _, _⟩) rfl (fun K hK => ?_) AllReadyH.nil
        rw [if_pos (by rfl)]
        refine wp_call_go1 14 _ _ rfl (.slice (some ⟨wz1.heap.size, 0, none⟩) 2 2) rfl (Try.call14 _) (v := .agg #[.int .i64 (T / 18446744073709551616), .int .u64 (T % 18446744073709551616)]) (ADC.out _ _ hs) (fun wz79 ka => ?_)
        clear hs
        replace kk := kk.trans0 ka
        replace h9 := ka.held h9 (by simp)
        replace h10 := ka.held h10 (by simp)
        replace a11 := ka.held a11 (by simp)
        replace a12 := ka.held a12 (by simp)
        refine hK.out _ _ ⟨⟨cell_of_block h9 rfl, cell_of_block h9 rfl⟩, h10⟩ (fun _ => ?_)
        clear hK K ka
        simp only [Act.put, List.setIfInBounds_toArray, List.set_cons_zero, List.set_cons_succ]
        refine wpAnyH_ready (rs := [7]) (by kernel_rfl) (by simp) ?_
        refine AllReadyH.cons (o := ⟨some 42, _, _, _, _, _⟩) rfl (fun K hK => ?_) AllReadyH.nil
        rw [if_pos (by rfl)]
        refine wp_call_go1 13 _ _ rfl (.int .i64 e) rfl (Try.call13 _) (v := .agg (numA me (dig xe))) (ROC.out _) (fun wz80 ka => ?_)
        replace kk := kk.trans0 ka
        replace h9 := ka.held h9 (by simp)
        replace h10 := ka.held h10 (by simp)
        replace a11 := ka.held a11 (by simp)
        replace a12 := ka.held a12 (by simp)
        refine hK.out _ _ ⟨⟨cell_of_block h9 rfl, cell_of_block h9 rfl⟩, h10⟩ (fun _ => ?_)
        clear hK K ka
        simp only [Act.put, List.setIfInBounds_toArray, List.set_cons_zero, List.set_cons_succ]
        refine wpAnyH_ready (rs := [8]) (by kernel_rfl) (by simp) ?_
        refine AllReadyH.cons (o := ⟨some 43, _, _, _, _, _⟩) rfl (fun K hK => ?_) AllReadyH.nil
        rw [if_pos (by rfl)]
        refine wp_call_go 15 _ _ _ rfl (.agg (numA mz (dig xz))) (.agg (numA me (dig xe))) rfl rfl (Try.call15 _) (v := .agg (numA ms (dig xs))) (RAC.out _) (fun wz81 ka => ?_)
        replace kk := kk.trans0 ka
        replace h9 := ka.held h9 (by simp)
        replace h10 := ka.held h10 (by simp)
        replace a11 := ka.held a11 (by simp)
        replace a12 := ka.held a12 (by simp)
        refine hK.out _ _ ⟨⟨cell_of_block h9 rfl, cell_of_block h9 rfl⟩, h10⟩ (fun _ => ?_)
        clear hK K ka
        simp only [Act.put, List.setIfInBounds_toArray, List.set_cons_zero, List.set_cons_succ]
        refine wpAnyH_ready (rs := [11]) (by kernel_rfl) (by simp) ?_
        refine AllReadyH.cons (o := ⟨none, _, _, _, _, _⟩) rfl (fun K hK => ?_) AllReadyH.nil
        rw [if_pos (by rfl)]
        refine wp_store_row _ _ _ rfl (wz2.heap.size) #[.int .i64 (T / 18446744073709551616), .int .u64 (T % 18446744073709551616)] rfl rfl _ #[.int .i64 0, .int .u64 0] a11 infoW rfl (two_one _ _) ?_
        obtain ⟨kk, h9, h10, a11, a12⟩ := set_t kk h9 h10 a11 a12 T (by omega)
        refine hK.out _ _ ⟨⟨cell_of_block h9 rfl, cell_of_block h9 rfl⟩, h10⟩ (fun _ => ?_)
        clear hK K
        generalize wz81.setRow (wz2.heap.size) #[.int .i64 (T / 18446744073709551616), .int .u64 (T % 18446744073709551616)] = wz82 at *
        refine wpAnyH_ready (rs := [12]) (by kernel_rfl) (by simp) ?_
        refine AllReadyH.cons (o := ⟨none, _, _, _, _, _⟩) rfl (fun K hK => ?_) AllReadyH.nil
        rw [if_pos (by rfl)]
        refine wp_store_row _ _ _ rfl (wz62.heap.size) (numA ms (dig xs)) rfl rfl _ (numA false (dig 0)) a12 (by rw [numA_size]; exact infoNum) (by rw [numA_size, numA_size]) (numA_one _ _) ?_
        obtain ⟨kk, h9, h10, a11, a12⟩ := set_s kk h9 h10 a11 a12 ms xs (by omega)
        refine hK.out _ _ ⟨⟨cell_of_block h9 rfl, cell_of_block h9 rfl⟩, h10⟩ (fun _ => ?_)
        clear hK K
        refine wpAnyH_done (by kernel_rfl) ?_ _
        simp only [Act.put]
        go_wp2_with fail
        go_meet
        exact ⟨wz2.heap.size, wz62.heap.size, rfl, rfl, ⟨kk, h10, a11, a12⟩⟩
      ·rw [if_pos (by rfl)]
       have l12 : w.heap.size ≤ wz2.heap.size := kk.size
       have o12 : G9 < wz2.heap.size ∧ G10 < wz2.heap.size := ⟨lt_of_block h9, lt_of_block h10⟩
       go_wp2_with fail
       simp only [nzeros_eq]
       replace kk := kk.alloc (.cells (numA false (dig 0)) 29)
       replace h9 := heap_alloc_held h9 (.cells (numA false (dig 0)) 29)
       replace h10 := heap_alloc_held h10 (.cells (numA false (dig 0)) 29)
       replace hs := hs.keep ((Keeps.refl [] _).alloc (.cells (numA false (dig 0)) 29))
       have a12 : NumAt (wz2.alloc (.cells (numA false (dig 0)) 29)) wz2.heap.size false (dig 0) := heap_alloc_new _ _
       refine hK.out _ _ ⟨⟨cell_of_block h9 rfl, cell_of_block h9 rfl⟩, h10⟩ (fun _ => ?_)
       clear hK K
       generalize wz2.alloc (.cells (numA false (dig 0)) 29) = wz84 at *
       refine wpAnyH_ready (rs := [4, 9]) (by kernel_rfl) (by simp) ?_
       refine AllReadyH.cons (o := ⟨some 39, _, _, _, _, _⟩) rfl (fun K hK => ?_) (AllReadyH.cons (o := ⟨some 11, _, _, _, _, _⟩) rfl (fun K hK => ?_) AllReadyH.nil)
       ·rw [if_pos (by rfl)]
        refine wp_call_go1 14 _ _ rfl (.slice (some ⟨wz1.heap.size, 0, none⟩) 2 2) rfl (Try.call14 _) (v := .agg #[.int .i64 (T / 18446744073709551616), .int .u64 (T % 18446744073709551616)]) (ADC.out _ _ hs) (fun wz85 ka => ?_)
        clear hs
        replace kk := kk.trans0 ka
        replace h9 := ka.held h9 (by simp)
        replace h10 := ka.held h10 (by simp)
        replace a12 := ka.held a12 (by simp)
        refine hK.out _ _ ⟨⟨cell_of_block h9 rfl, cell_of_block h9 rfl⟩, h10⟩ (fun _ => ?_)
        clear hK K ka
        simp only [Act.put, List.setIfInBounds_toArray, List.set_cons_zero, List.set_cons_succ]
        refine wpAnyH_ready (rs := [7, 9]) (by kernel_rfl) (by simp) ?_
        refine AllReadyH.cons (o := ⟨some 42, _, _, _, _, _⟩) rfl (fun K hK => ?_) (AllReadyH.cons (o := ⟨some 11, _, _, _, _, _⟩) rfl (fun K hK => ?_) AllReadyH.nil)
        ·rw [if_pos (by rfl)]
         refine wp_call_go1 13 _ _ rfl (.int .i64 e) rfl (Try.call13 _) (v := .agg (numA me (dig xe))) (ROC.out _) (fun wz86 ka => ?_)
         replace kk := kk.trans0 ka
         replace h9 := ka.held h9 (by simp)
         replace h10 := ka.held h10 (by simp)
         replace a12 := ka.held a12 (by simp)
         refine hK.out _ _ ⟨⟨cell_of_block h9 rfl, cell_of_block h9 rfl⟩, h10⟩ (fun _ => ?_)
         clear hK K ka
         simp only [Act.put, List.setIfInBounds_toArray, List.set_cons_zero, List.set_cons_succ]
         refine wpAnyH_ready (rs := [8, 9]) (by kernel_rfl) (by simp) ?_
         refine AllReadyH.cons (o := ⟨some 43, _, _, _, _, _⟩) rfl (fun K hK => ?_) (AllReadyH.cons (o := ⟨some 11, _, _, _, _, _⟩) rfl (fun K hK => ?_) AllReadyH.nil)
         ·rw [if_pos (by rfl)]
          refine wp_call_go 15 _ _ _ rfl (.agg (numA mz (dig xz))) (.agg (numA me (dig xe))) rfl rfl (Try.call15 _) (v := .agg (numA ms (dig xs))) (RAC.out _) (fun wz87 ka => ?_)
          replace kk := kk.trans0 ka
          replace h9 := ka.held h9 (by simp)
          replace h10 := ka.held h10 (by simp)
          replace a12 := ka.held a12 (by simp)
          refine hK.out _ _ ⟨⟨cell_of_block h9 rfl, cell_of_block h9 rfl⟩, h10⟩ (fun _ => ?_)
          clear hK K ka
          simp only [Act.put, List.setIfInBounds_toArray, List.set_cons_zero, List.set_cons_succ]
          refine wpAnyH_ready (rs := [9]) (by kernel_rfl) (by simp) ?_
          refine AllReadyH.cons (o := ⟨some 11, _, _, _, _, _⟩) rfl (fun K hK => ?_) AllReadyH.nil
          rw [if_pos (by rfl)]
          have l11 : w.heap.size ≤ wz87.heap.size := kk.size
          have o11 : G9 < wz87.heap.size ∧ G10 < wz87.heap.size := ⟨lt_of_block h9, lt_of_block h10⟩
          have ne12 : wz87.heap.size ≠ wz2.heap.size := by have := lt_of_block a12; omega
          go_wp2_with fail
          replace kk := kk.alloc (.cells #[.int .i64 0, .int .u64 0] 25)
          replace h9 := heap_alloc_held h9 (.cells #[.int .i64 0, .int .u64 0] 25)
          replace h10 := heap_alloc_held h10 (.cells #[.int .i64 0, .int .u64 0] 25)
          replace a12 := heap_alloc_held a12 (.cells #[.int .i64 0, .int .u64 0] 25)
          have a11 : (wz87.alloc (.cells #[.int .i64 0, .int .u64 0] 25)).heap[wz87.heap.size]? = some (.cells #[.int .i64 0, .int .u64 0] 25 (0, 0)) := heap_alloc_new _ _
          refine hK.out _ _ ⟨⟨cell_of_block h9 rfl, cell_of_block h9 rfl⟩, h10⟩ (fun _ => ?_)
          clear hK K
          generalize wz87.alloc (.cells #[.int .i64 0, .int .u64 0] 25) = wz88 at *
          refine wpAnyH_ready (rs := [11]) (by kernel_rfl) (by simp) ?_
          refine AllReadyH.cons (o := ⟨none, _, _, _, _, _⟩) rfl (fun K hK => ?_) AllReadyH.nil
          rw [if_pos (by rfl)]
          refine wp_store_row _ _ _ rfl (wz87.heap.size) #[.int .i64 (T / 18446744073709551616), .int .u64 (T % 18446744073709551616)] rfl rfl _ #[.int .i64 0, .int .u64 0] a11 infoW rfl (two_one _ _) ?_
          obtain ⟨kk, h9, h10, a11, a12⟩ := set_t kk h9 h10 a11 a12 T (by omega)
          refine hK.out _ _ ⟨⟨cell_of_block h9 rfl, cell_of_block h9 rfl⟩, h10⟩ (fun _ => ?_)
          clear hK K
          generalize wz88.setRow (wz87.heap.size) #[.int .i64 (T / 18446744073709551616), .int .u64 (T % 18446744073709551616)] = wz89 at *
          refine wpAnyH_ready (rs := [12]) (by kernel_rfl) (by simp) ?_
          refine AllReadyH.cons (o := ⟨none, _, _, _, _, _⟩) rfl (fun K hK => ?_) AllReadyH.nil
          rw [if_pos (by rfl)]
          refine wp_store_row _ _ _ rfl (wz2.heap.size) (numA ms (dig xs)) rfl rfl _ (numA false (dig 0)) a12 (by rw [numA_size]; exact infoNum) (by rw [numA_size, numA_size]) (numA_one _ _) ?_
          obtain ⟨kk, h9, h10, a11, a12⟩ := set_s kk h9 h10 a11 a12 ms xs (by omega)
          refine hK.out _ _ ⟨⟨cell_of_block h9 rfl, cell_of_block h9 rfl⟩, h10⟩ (fun _ => ?_)
          clear hK K
          refine wpAnyH_done (by kernel_rfl) ?_ _
          simp only [Act.put]
          go_wp2_with fail
          go_meet
          exact ⟨wz87.heap.size, wz2.heap.size, rfl, rfl, ⟨kk, h10, a11, a12⟩⟩
         ·rw [if_pos (by rfl)]
          have l11 : w.heap.size ≤ wz86.heap.size := kk.size
          have o11 : G9 < wz86.heap.size ∧ G10 < wz86.heap.size := ⟨lt_of_block h9, lt_of_block h10⟩
          have ne12 : wz86.heap.size ≠ wz2.heap.size := by have := lt_of_block a12; omega
          go_wp2_with fail
          replace kk := kk.alloc (.cells #[.int .i64 0, .int .u64 0] 25)
          replace h9 := heap_alloc_held h9 (.cells #[.int .i64 0, .int .u64 0] 25)
          replace h10 := heap_alloc_held h10 (.cells #[.int .i64 0, .int .u64 0] 25)
          replace a12 := heap_alloc_held a12 (.cells #[.int .i64 0, .int .u64 0] 25)
          have a11 : (wz86.alloc (.cells #[.int .i64 0, .int .u64 0] 25)).heap[wz86.heap.size]? = some (.cells #[.int .i64 0, .int .u64 0] 25 (0, 0)) := heap_alloc_new _ _
          refine hK.out _ _ ⟨⟨cell_of_block h9 rfl, cell_of_block h9 rfl⟩, h10⟩ (fun _ => ?_)
          clear hK K
          generalize wz86.alloc (.cells #[.int .i64 0, .int .u64 0] 25) = wz91 at *
          refine wpAnyH_ready (rs := [8]) (by kernel_rfl) (by simp) ?_
          refine AllReadyH.cons (o := ⟨some 43, _, _, _, _, _⟩) rfl (fun K hK => ?_) AllReadyH.nil
          rw [if_pos (by rfl)]
          refine wp_call_go 15 _ _ _ rfl (.agg (numA mz (dig xz))) (.agg (numA me (dig xe))) rfl rfl (Try.call15 _) (v := .agg (numA ms (dig xs))) (RAC.out _) (fun wz92 ka => ?_)
          replace kk := kk.trans0 ka
          replace h9 := ka.held h9 (by simp)
          replace h10 := ka.held h10 (by simp)
          replace a11 := ka.held a11 (by simp)
          replace a12 := ka.held a12 (by simp)
          refine hK.out _ _ ⟨⟨cell_of_block h9 rfl, cell_of_block h9 rfl⟩, h10⟩ (fun _ => ?_)
          clear hK K ka
          simp only [Act.put, List.setIfInBounds_toArray, List.set_cons_zero, List.set_cons_succ]
          refine wpAnyH_ready (rs := [11]) (by kernel_rfl) (by simp) ?_
          refine AllReadyH.cons (o := ⟨none, _, _, _, _, _⟩) rfl (fun K hK => ?_) AllReadyH.nil
          rw [if_pos (by rfl)]
          refine wp_store_row _ _ _ rfl (wz86.heap.size) #[.int .i64 (T / 18446744073709551616), .int .u64 (T % 18446744073709551616)] rfl rfl _ #[.int .i64 0, .int .u64 0] a11 infoW rfl (two_one _ _) ?_
          obtain ⟨kk, h9, h10, a11, a12⟩ := set_t kk h9 h10 a11 a12 T (by omega)
          refine hK.out _ _ ⟨⟨cell_of_block h9 rfl, cell_of_block h9 rfl⟩, h10⟩ (fun _ => ?_)
          clear hK K
          generalize wz92.setRow (wz86.heap.size) #[.int .i64 (T / 18446744073709551616), .int .u64 (T % 18446744073709551616)] = wz93 at *
          refine wpAnyH_ready (rs := [12]) (by kernel_rfl) (by simp) ?_
          refine AllReadyH.cons (o := ⟨none, _, _, _, _, _⟩) rfl (fun K hK => ?_) AllReadyH.nil
          rw [if_pos (by rfl)]
          refine wp_store_row _ _ _ rfl (wz2.heap.size) (numA ms (dig xs)) rfl rfl _ (numA false (dig 0)) a12 (by rw [numA_size]; exact infoNum) (by rw [numA_size, numA_size]) (numA_one _ _) ?_
          obtain ⟨kk, h9, h10, a11, a12⟩ := set_s kk h9 h10 a11 a12 ms xs (by omega)
          refine hK.out _ _ ⟨⟨cell_of_block h9 rfl, cell_of_block h9 rfl⟩, h10⟩ (fun _ => ?_)
          clear hK K
          refine wpAnyH_done (by kernel_rfl) ?_ _
          simp only [Act.put]
          go_wp2_with fail
          go_meet
          exact ⟨wz86.heap.size, wz2.heap.size, rfl, rfl, ⟨kk, h10, a11, a12⟩⟩
        ·rw [if_pos (by rfl)]
         have l11 : w.heap.size ≤ wz85.heap.size := kk.size
         have o11 : G9 < wz85.heap.size ∧ G10 < wz85.heap.size := ⟨lt_of_block h9, lt_of_block h10⟩
         have ne12 : wz85.heap.size ≠ wz2.heap.size := by have := lt_of_block a12; omega
         go_wp2_with fail
         replace kk := kk.alloc (.cells #[.int .i64 0, .int .u64 0] 25)
         replace h9 := heap_alloc_held h9 (.cells #[.int .i64 0, .int .u64 0] 25)
         replace h10 := heap_alloc_held h10 (.cells #[.int .i64 0, .int .u64 0] 25)
         replace a12 := heap_alloc_held a12 (.cells #[.int .i64 0, .int .u64 0] 25)
         have a11 : (wz85.alloc (.cells #[.int .i64 0, .int .u64 0] 25)).heap[wz85.heap.size]? = some (.cells #[.int .i64 0, .int .u64 0] 25 (0, 0)) := heap_alloc_new _ _
         refine hK.out _ _ ⟨⟨cell_of_block h9 rfl, cell_of_block h9 rfl⟩, h10⟩ (fun _ => ?_)
         clear hK K
         generalize wz85.alloc (.cells #[.int .i64 0, .int .u64 0] 25) = wz95 at *
         refine wpAnyH_ready (rs := [7]) (by kernel_rfl) (by simp) ?_
         refine AllReadyH.cons (o := ⟨some 42, _, _, _, _, _⟩) rfl (fun K hK => ?_) AllReadyH.nil
         rw [if_pos (by rfl)]
         refine wp_call_go1 13 _ _ rfl (.int .i64 e) rfl (Try.call13 _) (v := .agg (numA me (dig xe))) (ROC.out _) (fun wz96 ka => ?_)
         replace kk := kk.trans0 ka
         replace h9 := ka.held h9 (by simp)
         replace h10 := ka.held h10 (by simp)
         replace a11 := ka.held a11 (by simp)
         replace a12 := ka.held a12 (by simp)
         refine hK.out _ _ ⟨⟨cell_of_block h9 rfl, cell_of_block h9 rfl⟩, h10⟩ (fun _ => ?_)
         clear hK K ka
         simp only [Act.put, List.setIfInBounds_toArray, List.set_cons_zero, List.set_cons_succ]
         refine wpAnyH_ready (rs := [8]) (by kernel_rfl) (by simp) ?_
         refine AllReadyH.cons (o := ⟨some 43, _, _, _, _, _⟩) rfl (fun K hK => ?_) AllReadyH.nil
         rw [if_pos (by rfl)]
         refine wp_call_go 15 _ _ _ rfl (.agg (numA mz (dig xz))) (.agg (numA me (dig xe))) rfl rfl (Try.call15 _) (v := .agg (numA ms (dig xs))) (RAC.out _) (fun wz97 ka => ?_)
         replace kk := kk.trans0 ka
         replace h9 := ka.held h9 (by simp)
         replace h10 := ka.held h10 (by simp)
         replace a11 := ka.held a11 (by simp)
         replace a12 := ka.held a12 (by simp)
         refine hK.out _ _ ⟨⟨cell_of_block h9 rfl, cell_of_block h9 rfl⟩, h10⟩ (fun _ => ?_)
         clear hK K ka
         simp only [Act.put, List.setIfInBounds_toArray, List.set_cons_zero, List.set_cons_succ]
         refine wpAnyH_ready (rs := [11]) (by kernel_rfl) (by simp) ?_
         refine AllReadyH.cons (o := ⟨none, _, _, _, _, _⟩) rfl (fun K hK => ?_) AllReadyH.nil
         rw [if_pos (by rfl)]
         refine wp_store_row _ _ _ rfl (wz85.heap.size) #[.int .i64 (T / 18446744073709551616), .int .u64 (T % 18446744073709551616)] rfl rfl _ #[.int .i64 0, .int .u64 0] a11 infoW rfl (two_one _ _) ?_
         obtain ⟨kk, h9, h10, a11, a12⟩ := set_t kk h9 h10 a11 a12 T (by omega)
         refine hK.out _ _ ⟨⟨cell_of_block h9 rfl, cell_of_block h9 rfl⟩, h10⟩ (fun _ => ?_)
         clear hK K
         generalize wz97.setRow (wz85.heap.size) #[.int .i64 (T / 18446744073709551616), .int .u64 (T % 18446744073709551616)] = wz98 at *
         refine wpAnyH_ready (rs := [12]) (by kernel_rfl) (by simp) ?_
         refine AllReadyH.cons (o := ⟨none, _, _, _, _, _⟩) rfl (fun K hK => ?_) AllReadyH.nil
         rw [if_pos (by rfl)]
         refine wp_store_row _ _ _ rfl (wz2.heap.size) (numA ms (dig xs)) rfl rfl _ (numA false (dig 0)) a12 (by rw [numA_size]; exact infoNum) (by rw [numA_size, numA_size]) (numA_one _ _) ?_
         obtain ⟨kk, h9, h10, a11, a12⟩ := set_s kk h9 h10 a11 a12 ms xs (by omega)
         refine hK.out _ _ ⟨⟨cell_of_block h9 rfl, cell_of_block h9 rfl⟩, h10⟩ (fun _ => ?_)
         clear hK K
         refine wpAnyH_done (by kernel_rfl) ?_ _
         simp only [Act.put]
         go_wp2_with fail
         go_meet
         exact ⟨wz85.heap.size, wz2.heap.size, rfl, rfl, ⟨kk, h10, a11, a12⟩⟩
       ·rw [if_pos (by rfl)]
        have l11 : w.heap.size ≤ wz84.heap.size := kk.size
        have o11 : G9 < wz84.heap.size ∧ G10 < wz84.heap.size := ⟨lt_of_block h9, lt_of_block h10⟩
        have ne12 : wz84.heap.size ≠ wz2.heap.size := by have := lt_of_block a12; omega
        go_wp2_with fail
        replace kk := kk.alloc (.cells #[.int .i64 0, .int .u64 0] 25)
        replace h9 := heap_alloc_held h9 (.cells #[.int .i64 0, .int .u64 0] 25)
        replace h10 := heap_alloc_held h10 (.cells #[.int .i64 0, .int .u64 0] 25)
        replace a12 := heap_alloc_held a12 (.cells #[.int .i64 0, .int .u64 0] 25)
        replace hs := hs.keep ((Keeps.refl [] _).alloc (.cells #[.int .i64 0, .int .u64 0] 25))
        have a11 : (wz84.alloc (.cells #[.int .i64 0, .int .u64 0] 25)).heap[wz84.heap.size]? = some (.cells #[.int .i64 0, .int .u64 0] 25 (0, 0)) := heap_alloc_new _ _
        refine hK.out _ _ ⟨⟨cell_of_block h9 rfl, cell_of_block h9 rfl⟩, h10⟩ (fun _ => ?_)
        clear hK K
        generalize wz84.alloc (.cells #[.int .i64 0, .int .u64 0] 25) = wz100 at *
        refine wpAnyH_ready (rs := [4]) (by kernel_rfl) (by simp) ?_
        refine AllReadyH.cons (o := ⟨some 39, _, _, _, _, _⟩) rfl (fun K hK => ?_) AllReadyH.nil
        rw [if_pos (by rfl)]
        refine wp_call_go1 14 _ _ rfl (.slice (some ⟨wz1.heap.size, 0, none⟩) 2 2) rfl (Try.call14 _) (v := .agg #[.int .i64 (T / 18446744073709551616), .int .u64 (T % 18446744073709551616)]) (ADC.out _ _ hs) (fun wz101 ka => ?_)
        clear hs
        replace kk := kk.trans0 ka
        replace h9 := ka.held h9 (by simp)
        replace h10 := ka.held h10 (by simp)
        replace a11 := ka.held a11 (by simp)
        replace a12 := ka.held a12 (by simp)
        refine hK.out _ _ ⟨⟨cell_of_block h9 rfl, cell_of_block h9 rfl⟩, h10⟩ (fun _ => ?_)
        clear hK K ka
        simp only [Act.put, List.setIfInBounds_toArray, List.set_cons_zero, List.set_cons_succ]
        refine wpAnyH_ready (rs := [7]) (by kernel_rfl) (by simp) ?_
        refine AllReadyH.cons (o := ⟨some 42, _, _, _, _, _⟩) rfl (fun K hK => ?_) AllReadyH.nil
        rw [if_pos (by rfl)]
        refine wp_call_go1 13 _ _ rfl (.int .i64 e) rfl (Try.call13 _) (v := .agg (numA me (dig xe))) (ROC.out _) (fun wz102 ka => ?_)
        replace kk := kk.trans0 ka
        replace h9 := ka.held h9 (by simp)
        replace h10 := ka.held h10 (by simp)
        replace a11 := ka.held a11 (by simp)
        replace a12 := ka.held a12 (by simp)
        refine hK.out _ _ ⟨⟨cell_of_block h9 rfl, cell_of_block h9 rfl⟩, h10⟩ (fun _ => ?_)
        clear hK K ka
        simp only [Act.put, List.setIfInBounds_toArray, List.set_cons_zero, List.set_cons_succ]
        refine wpAnyH_ready (rs := [8]) (by kernel_rfl) (by simp) ?_
        refine AllReadyH.cons (o := ⟨some 43, _, _, _, _, _⟩) rfl (fun K hK => ?_) AllReadyH.nil
        rw [if_pos (by rfl)]
        refine wp_call_go 15 _ _ _ rfl (.agg (numA mz (dig xz))) (.agg (numA me (dig xe))) rfl rfl (Try.call15 _) (v := .agg (numA ms (dig xs))) (RAC.out _) (fun wz103 ka => ?_)
        replace kk := kk.trans0 ka
        replace h9 := ka.held h9 (by simp)
        replace h10 := ka.held h10 (by simp)
        replace a11 := ka.held a11 (by simp)
        replace a12 := ka.held a12 (by simp)
        refine hK.out _ _ ⟨⟨cell_of_block h9 rfl, cell_of_block h9 rfl⟩, h10⟩ (fun _ => ?_)
        clear hK K ka
        simp only [Act.put, List.setIfInBounds_toArray, List.set_cons_zero, List.set_cons_succ]
        refine wpAnyH_ready (rs := [11]) (by kernel_rfl) (by simp) ?_
        refine AllReadyH.cons (o := ⟨none, _, _, _, _, _⟩) rfl (fun K hK => ?_) AllReadyH.nil
        rw [if_pos (by rfl)]
        refine wp_store_row _ _ _ rfl (wz84.heap.size) #[.int .i64 (T / 18446744073709551616), .int .u64 (T % 18446744073709551616)] rfl rfl _ #[.int .i64 0, .int .u64 0] a11 infoW rfl (two_one _ _) ?_
        obtain ⟨kk, h9, h10, a11, a12⟩ := set_t kk h9 h10 a11 a12 T (by omega)
        refine hK.out _ _ ⟨⟨cell_of_block h9 rfl, cell_of_block h9 rfl⟩, h10⟩ (fun _ => ?_)
        clear hK K
        generalize wz103.setRow (wz84.heap.size) #[.int .i64 (T / 18446744073709551616), .int .u64 (T % 18446744073709551616)] = wz104 at *
        refine wpAnyH_ready (rs := [12]) (by kernel_rfl) (by simp) ?_
        refine AllReadyH.cons (o := ⟨none, _, _, _, _, _⟩) rfl (fun K hK => ?_) AllReadyH.nil
        rw [if_pos (by rfl)]
        refine wp_store_row _ _ _ rfl (wz2.heap.size) (numA ms (dig xs)) rfl rfl _ (numA false (dig 0)) a12 (by rw [numA_size]; exact infoNum) (by rw [numA_size, numA_size]) (numA_one _ _) ?_
        obtain ⟨kk, h9, h10, a11, a12⟩ := set_s kk h9 h10 a11 a12 ms xs (by omega)
        refine hK.out _ _ ⟨⟨cell_of_block h9 rfl, cell_of_block h9 rfl⟩, h10⟩ (fun _ => ?_)
        clear hK K
        refine wpAnyH_done (by kernel_rfl) ?_ _
        simp only [Act.put]
        go_wp2_with fail
        go_meet
        exact ⟨wz84.heap.size, wz2.heap.size, rfl, rfl, ⟨kk, h10, a11, a12⟩⟩
     ·rw [if_pos (by rfl)]
      have l11 : w.heap.size ≤ wz1.heap.size := kk.size
      have o11 : G9 < wz1.heap.size ∧ G10 < wz1.heap.size := ⟨lt_of_block h9, lt_of_block h10⟩
      go_wp2_with fail
      replace kk := kk.alloc (.cells #[.int .i64 0, .int .u64 0] 25)
      replace h9 := heap_alloc_held h9 (.cells #[.int .i64 0, .int .u64 0] 25)
      replace h10 := heap_alloc_held h10 (.cells #[.int .i64 0, .int .u64 0] 25)
      have a11 : (wz1.alloc (.cells #[.int .i64 0, .int .u64 0] 25)).heap[wz1.heap.size]? = some (.cells #[.int .i64 0, .int .u64 0] 25 (0, 0)) := heap_alloc_new _ _
      refine hK.out _ _ ⟨⟨cell_of_block h9 rfl, cell_of_block h9 rfl⟩, h10⟩ (fun _ => ?_)
      clear hK K
      generalize wz1.alloc (.cells #[.int .i64 0, .int .u64 0] 25) = wz106 at *
      refine wpAnyH_ready (rs := [3, 10]) (by kernel_rfl) (by simp) ?_
      refine AllReadyH.cons (o := ⟨some 38, _, _, _, _, _⟩) rfl (fun K hK => ?_) (AllReadyH.cons (o := ⟨some 12, _, _, _, _, _⟩) rfl (fun K hK => ?_) AllReadyH.nil)
      ·rw [if_pos (by rfl)]
       go_wp2_with fail
       replace kk := kk.alloc (.cells #[.int .i64 (Z / 18446744073709551616), .int .u64 (Z % 18446744073709551616), .int .i64 (e / 18446744073709551616), .int .u64 (e % 18446744073709551616)] 25)
       replace h9 := heap_alloc_held h9 (.cells #[.int .i64 (Z / 18446744073709551616), .int .u64 (Z % 18446744073709551616), .int .i64 (e / 18446744073709551616), .int .u64 (e % 18446744073709551616)] 25)
       replace h10 := heap_alloc_held h10 (.cells #[.int .i64 (Z / 18446744073709551616), .int .u64 (Z % 18446744073709551616), .int .i64 (e / 18446744073709551616), .int .u64 (e % 18446744073709551616)] 25)
       replace a11 := heap_alloc_held a11 (.cells #[.int .i64 (Z / 18446744073709551616), .int .u64 (Z % 18446744073709551616), .int .i64 (e / 18446744073709551616), .int .u64 (e % 18446744073709551616)] 25)
       have hs : NumsAt (wz106.alloc (.cells #[.int .i64 (Z / 18446744073709551616), .int .u64 (Z % 18446744073709551616), .int .i64 (e / 18446744073709551616), .int .u64 (e % 18446744073709551616)] 25)) wz106.heap.size [Z, e] := nums2 wz106 Z e
       refine hK.out _ _ ⟨⟨cell_of_block h9 rfl, cell_of_block h9 rfl⟩, h10⟩ (fun _ => ?_)
       clear hK K
       generalize wz106.alloc (.cells #[.int .i64 (Z / 18446744073709551616), .int .u64 (Z % 18446744073709551616), .int .i64 (e / 18446744073709551616), .int .u64 (e % 18446744073709551616)] 25) = wz107 at *
       refine wpAnyH_ready (rs := [4, 10]) (by kernel_rfl) (by simp) ?_
       refine AllReadyH.cons (o := ⟨some 39, _, _, _, _, _⟩) rfl (fun K hK => ?_) (AllReadyH.cons (o := ⟨some 12, _, _, _, _, _⟩) rfl (fun K hK => ?_) AllReadyH.nil)
       ·rw [if_pos (by rfl)]
        refine wp_call_go1 14 _ _ rfl (.slice (some ⟨wz106.heap.size, 0, none⟩) 2 2) rfl (Try.call14 _) (v := .agg #[.int .i64 (T / 18446744073709551616), .int .u64 (T % 18446744073709551616)]) (ADC.out _ _ hs) (fun wz108 ka => ?_)
        clear hs
        replace kk := kk.trans0 ka
        replace h9 := ka.held h9 (by simp)
        replace h10 := ka.held h10 (by simp)
        replace a11 := ka.held a11 (by simp)
        refine hK.out _ _ ⟨⟨cell_of_block h9 rfl, cell_of_block h9 rfl⟩, h10⟩ (fun _ => ?_)
        clear hK K ka
        simp only [Act.put, List.setIfInBounds_toArray, List.set_cons_zero, List.set_cons_succ]
        refine wpAnyH_ready (rs := [7, 10]) (by kernel_rfl) (by simp) ?_
        refine AllReadyH.cons (o := ⟨some 42, _, _, _, _, _⟩) rfl (fun K hK => ?_) (AllReadyH.cons (o := ⟨some 12, _, _, _, _, _⟩) rfl (fun K hK => ?_) AllReadyH.nil)
        ·rw [if_pos (by rfl)]
         refine wp_call_go1 13 _ _ rfl (.int .i64 e) rfl (Try.call13 _) (v := .agg (numA me (dig xe))) (ROC.out _) (fun wz109 ka => ?_)
         replace kk := kk.trans0 ka
         replace h9 := ka.held h9 (by simp)
         replace h10 := ka.held h10 (by simp)
         replace a11 := ka.held a11 (by simp)
         refine hK.out _ _ ⟨⟨cell_of_block h9 rfl, cell_of_block h9 rfl⟩, h10⟩ (fun _ => ?_)
         clear hK K ka
         simp only [Act.put, List.setIfInBounds_toArray, List.set_cons_zero, List.set_cons_succ]
         refine wpAnyH_ready (rs := [8, 10]) (by kernel_rfl) (by simp) ?_
         refine AllReadyH.cons (o := ⟨some 43, _, _, _, _, _⟩) rfl (fun K hK => ?_) (AllReadyH.cons (o := ⟨some 12, _, _, _, _, _⟩) rfl (fun K hK => ?_) AllReadyH.nil)
         ·rw [if_pos (by rfl)]
          refine wp_call_go 15 _ _ _ rfl (.agg (numA mz (dig xz))) (.agg (numA me (dig xe))) rfl rfl (Try.call15 _) (v := .agg (numA ms (dig xs))) (RAC.out _) (fun wz110 ka => ?_)
          replace kk := kk.trans0 ka
          replace h9 := ka.held h9 (by simp)
          replace h10 := ka.held h10 (by simp)
          replace a11 := ka.held a11 (by simp)
          refine hK.out _ _ ⟨⟨cell_of_block h9 rfl, cell_of_block h9 rfl⟩, h10⟩ (fun _ => ?_)
          clear hK K ka
          simp only [Act.put, List.setIfInBounds_toArray, List.set_cons_zero, List.set_cons_succ]
          refine wpAnyH_ready (rs := [10]) (by kernel_rfl) (by simp) ?_
          refine AllReadyH.cons (o := ⟨some 12, _, _, _, _, _⟩) rfl (fun K hK => ?_) AllReadyH.nil
          rw [if_pos (by rfl)]
          have l12 : w.heap.size ≤ wz110.heap.size := kk.size
          have o12 : G9 < wz110.heap.size ∧ G10 < wz110.heap.size := ⟨lt_of_block h9, lt_of_block h10⟩
          have ne12 : wz1.heap.size ≠ wz110.heap.size := by have := lt_of_block a11; omega
          go_wp2_with fail
          simp only [nzeros_eq]
          replace kk := kk.alloc (.cells (numA false (dig 0)) 29)
          replace h9 := heap_alloc_held h9 (.cells (numA false (dig 0)) 29)
          replace h10 := heap_alloc_held h10 (.cells (numA false (dig 0)) 29)
          replace a11 := heap_alloc_held a11 (.cells (numA false (dig 0)) 29)
          have a12 : NumAt (wz110.alloc (.cells (numA false (dig 0)) 29)) wz110.heap.size false (dig 0) := heap_alloc_new _ _
          refine hK.out _ _ ⟨⟨cell_of_block h9 rfl, cell_of_block h9 rfl⟩, h10⟩ (fun _ => ?_)
          clear hK K
          generalize wz110.alloc (.cells (numA false (dig 0)) 29) = wz111 at *
          refine wpAnyH_ready (rs := [11]) (by kernel_rfl) (by simp) ?_
          refine AllReadyH.cons (o := ⟨none, _, _, _, _, _⟩) rfl (fun K hK => ?_) AllReadyH.nil
          rw [if_pos (by rfl)]
          refine wp_store_row _ _ _ rfl (wz1.heap.size) #[.int .i64 (T / 18446744073709551616), .int .u64 (T % 18446744073709551616)] rfl rfl _ #[.int .i64 0, .int .u64 0] a11 infoW rfl (two_one _ _) ?_
          obtain ⟨kk, h9, h10, a11, a12⟩ := set_t kk h9 h10 a11 a12 T (by omega)
          refine hK.out _ _ ⟨⟨cell_of_block h9 rfl, cell_of_block h9 rfl⟩, h10⟩ (fun _ => ?_)
          clear hK K
          generalize wz111.setRow (wz1.heap.size) #[.int .i64 (T / 18446744073709551616), .int .u64 (T % 18446744073709551616)] = wz112 at *
          refine wpAnyH_ready (rs := [12]) (by kernel_rfl) (by simp) ?_
          refine AllReadyH.cons (o := ⟨none, _, _, _, _, _⟩) rfl (fun K hK => ?_) AllReadyH.nil
          rw [if_pos (by rfl)]
          refine wp_store_row _ _ _ rfl (wz110.heap.size) (numA ms (dig xs)) rfl rfl _ (numA false (dig 0)) a12 (by rw [numA_size]; exact infoNum) (by rw [numA_size, numA_size]) (numA_one _ _) ?_
          obtain ⟨kk, h9, h10, a11, a12⟩ := set_s kk h9 h10 a11 a12 ms xs (by omega)
          refine hK.out _ _ ⟨⟨cell_of_block h9 rfl, cell_of_block h9 rfl⟩, h10⟩ (fun _ => ?_)
          clear hK K
          refine wpAnyH_done (by kernel_rfl) ?_ _
          simp only [Act.put]
          go_wp2_with fail
          go_meet
          exact ⟨wz1.heap.size, wz110.heap.size, rfl, rfl, ⟨kk, h10, a11, a12⟩⟩
         ·rw [if_pos (by rfl)]
          have l12 : w.heap.size ≤ wz109.heap.size := kk.size
          have o12 : G9 < wz109.heap.size ∧ G10 < wz109.heap.size := ⟨lt_of_block h9, lt_of_block h10⟩
          have ne12 : wz1.heap.size ≠ wz109.heap.size := by have := lt_of_block a11; omega
          go_wp2_with fail
          simp only [nzeros_eq]
          replace kk := kk.alloc (.cells (numA false (dig 0)) 29)
          replace h9 := heap_alloc_held h9 (.cells (numA false (dig 0)) 29)
          replace h10 := heap_alloc_held h10 (.cells (numA false (dig 0)) 29)
          replace a11 := heap_alloc_held a11 (.cells (numA false (dig 0)) 29)
          have a12 : NumAt (wz109.alloc (.cells (numA false (dig 0)) 29)) wz109.heap.size false (dig 0) := heap_alloc_new _ _
          refine hK.out _ _ ⟨⟨cell_of_block h9 rfl, cell_of_block h9 rfl⟩, h10⟩ (fun _ => ?_)
          clear hK K
          generalize wz109.alloc (.cells (numA false (dig 0)) 29) = wz114 at *
          refine wpAnyH_ready (rs := [8]) (by kernel_rfl) (by simp) ?_
          refine AllReadyH.cons (o := ⟨some 43, _, _, _, _, _⟩) rfl (fun K hK => ?_) AllReadyH.nil
          rw [if_pos (by rfl)]
          refine wp_call_go 15 _ _ _ rfl (.agg (numA mz (dig xz))) (.agg (numA me (dig xe))) rfl rfl (Try.call15 _) (v := .agg (numA ms (dig xs))) (RAC.out _) (fun wz115 ka => ?_)
          replace kk := kk.trans0 ka
          replace h9 := ka.held h9 (by simp)
          replace h10 := ka.held h10 (by simp)
          replace a11 := ka.held a11 (by simp)
          replace a12 := ka.held a12 (by simp)
          refine hK.out _ _ ⟨⟨cell_of_block h9 rfl, cell_of_block h9 rfl⟩, h10⟩ (fun _ => ?_)
          clear hK K ka
          simp only [Act.put, List.setIfInBounds_toArray, List.set_cons_zero, List.set_cons_succ]
          refine wpAnyH_ready (rs := [11]) (by kernel_rfl) (by simp) ?_
          refine AllReadyH.cons (o := ⟨none, _, _, _, _, _⟩) rfl (fun K hK => ?_) AllReadyH.nil
          rw [if_pos (by rfl)]
          refine wp_store_row _ _ _ rfl (wz1.heap.size) #[.int .i64 (T / 18446744073709551616), .int .u64 (T % 18446744073709551616)] rfl rfl _ #[.int .i64 0, .int .u64 0] a11 infoW rfl (two_one _ _) ?_
          obtain ⟨kk, h9, h10, a11, a12⟩ := set_t kk h9 h10 a11 a12 T (by omega)
          refine hK.out _ _ ⟨⟨cell_of_block h9 rfl, cell_of_block h9 rfl⟩, h10⟩ (fun _ => ?_)
          clear hK K
          generalize wz115.setRow (wz1.heap.size) #[.int .i64 (T / 18446744073709551616), .int .u64 (T % 18446744073709551616)] = wz116 at *
          refine wpAnyH_ready (rs := [12]) (by kernel_rfl) (by simp) ?_
          refine AllReadyH.cons (o := ⟨none, _, _, _, _, _⟩) rfl (fun K hK => ?_) AllReadyH.nil
          rw [if_pos (by rfl)]
          refine wp_store_row _ _ _ rfl (wz109.heap.size) (numA ms (dig xs)) rfl rfl _ (numA false (dig 0)) a12 (by rw [numA_size]; exact infoNum) (by rw [numA_size, numA_size]) (numA_one _ _) ?_
          obtain ⟨kk, h9, h10, a11, a12⟩ := set_s kk h9 h10 a11 a12 ms xs (by omega)
          refine hK.out _ _ ⟨⟨cell_of_block h9 rfl, cell_of_block h9 rfl⟩, h10⟩ (fun _ => ?_)
          clear hK K
          refine wpAnyH_done (by kernel_rfl) ?_ _
          simp only [Act.put]
          go_wp2_with fail
          go_meet
          exact ⟨wz1.heap.size, wz109.heap.size, rfl, rfl, ⟨kk, h10, a11, a12⟩⟩
        ·rw [if_pos (by rfl)]
         have l12 : w.heap.size ≤ wz108.heap.size := kk.size
         have o12 : G9 < wz108.heap.size ∧ G10 < wz108.heap.size := ⟨lt_of_block h9, lt_of_block h10⟩
         have ne12 : wz1.heap.size ≠ wz108.heap.size := by have := lt_of_block a11; omega
         go_wp2_with fail
         simp only [nzeros_eq]
         replace kk := kk.alloc (.cells (numA false (dig 0)) 29)
         replace h9 := heap_alloc_held h9 (.cells (numA false (dig 0)) 29)
         replace h10 := heap_alloc_held h10 (.cells (numA false (dig 0)) 29)
         replace a11 := heap_alloc_held a11 (.cells (numA false (dig 0)) 29)
         have a12 : NumAt (wz108.alloc (.cells (numA false (dig 0)) 29)) wz108.heap.size false (dig 0) := heap_alloc_new _ _
         refine hK.out _ _ ⟨⟨cell_of_block h9 rfl, cell_of_block h9 rfl⟩, h10⟩ (fun _ => ?_)
         clear hK K
         generalize wz108.alloc (.cells (numA false (dig 0)) 29) = wz118 at *
         refine wpAnyH_ready (rs := [7]) (by kernel_rfl) (by simp) ?_
         refine AllReadyH.cons (o := ⟨some 42, _, _, _, _, _⟩) rfl (fun K hK => ?_) AllReadyH.nil
         rw [if_pos (by rfl)]
         refine wp_call_go1 13 _ _ rfl (.int .i64 e) rfl (Try.call13 _) (v := .agg (numA me (dig xe))) (ROC.out _) (fun wz119 ka => ?_)
         replace kk := kk.trans0 ka
         replace h9 := ka.held h9 (by simp)
         replace h10 := ka.held h10 (by simp)
         replace a11 := ka.held a11 (by simp)
         replace a12 := ka.held a12 (by simp)
         refine hK.out _ _ ⟨⟨cell_of_block h9 rfl, cell_of_block h9 rfl⟩, h10⟩ (fun _ => ?_)
         clear hK K ka
         simp only [Act.put, List.setIfInBounds_toArray, List.set_cons_zero, List.set_cons_succ]
         refine wpAnyH_ready (rs := [8]) (by kernel_rfl) (by simp) ?_
         refine AllReadyH.cons (o := ⟨some 43, _, _, _, _, _⟩) rfl (fun K hK => ?_) AllReadyH.nil
         rw [if_pos (by rfl)]
         refine wp_call_go 15 _ _ _ rfl (.agg (numA mz (dig xz))) (.agg (numA me (dig xe))) rfl rfl (Try.call15 _) (v := .agg (numA ms (dig xs))) (RAC.out _) (fun wz120 ka => ?_)
         replace kk := kk.trans0 ka
         replace h9 := ka.held h9 (by simp)
         replace h10 := ka.held h10 (by simp)
         replace a11 := ka.held a11 (by simp)
         replace a12 := ka.held a12 (by simp)
         refine hK.out _ _ ⟨⟨cell_of_block h9 rfl, cell_of_block h9 rfl⟩, h10⟩ (fun _ => ?_)
         clear hK K ka
         simp only [Act.put, List.setIfInBounds_toArray, List.set_cons_zero, List.set_cons_succ]
         refine wpAnyH_ready (rs := [11]) (by kernel_rfl) (by simp) ?_
         refine AllReadyH.cons (o := ⟨none, _, _, _, _, _⟩) rfl (fun K hK => ?_) AllReadyH.nil
         rw [if_pos (by rfl)]
         refine wp_store_row _ _ _ rfl (wz1.heap.size) #[.int .i64 (T / 18446744073709551616), .int .u64 (T % 18446744073709551616)] rfl rfl _ #[.int .i64 0, .int .u64 0] a11 infoW rfl (two_one _ _) ?_
         obtain ⟨kk, h9, h10, a11, a12⟩ := set_t kk h9 h10 a11 a12 T (by omega)
         refine hK.out _ _ ⟨⟨cell_of_block h9 rfl, cell_of_block h9 rfl⟩, h10⟩ (fun _ => ?_)
         clear hK K
         generalize wz120.setRow (wz1.heap.size) #[.int .i64 (T / 18446744073709551616), .int .u64 (T % 18446744073709551616)] = wz121 at *
         refine wpAnyH_ready (rs := [12]) (by kernel_rfl) (by simp) ?_
         refine AllReadyH.cons (o := ⟨none, _, _, _, _, _⟩) rfl (fun K hK => ?_) AllReadyH.nil
         rw [if_pos (by rfl)]
         refine wp_store_row _ _ _ rfl (wz108.heap.size) (numA ms (dig xs)) rfl rfl _ (numA false (dig 0)) a12 (by rw [numA_size]; exact infoNum) (by rw [numA_size, numA_size]) (numA_one _ _) ?_
         obtain ⟨kk, h9, h10, a11, a12⟩ := set_s kk h9 h10 a11 a12 ms xs (by omega)
         refine hK.out _ _ ⟨⟨cell_of_block h9 rfl, cell_of_block h9 rfl⟩, h10⟩ (fun _ => ?_)
         clear hK K
         refine wpAnyH_done (by kernel_rfl) ?_ _
         simp only [Act.put]
         go_wp2_with fail
         go_meet
         exact ⟨wz1.heap.size, wz108.heap.size, rfl, rfl, ⟨kk, h10, a11, a12⟩⟩
       ·rw [if_pos (by rfl)]
        have l12 : w.heap.size ≤ wz107.heap.size := kk.size
        have o12 : G9 < wz107.heap.size ∧ G10 < wz107.heap.size := ⟨lt_of_block h9, lt_of_block h10⟩
        have ne12 : wz1.heap.size ≠ wz107.heap.size := by have := lt_of_block a11; omega
        go_wp2_with fail
        simp only [nzeros_eq]
        replace kk := kk.alloc (.cells (numA false (dig 0)) 29)
        replace h9 := heap_alloc_held h9 (.cells (numA false (dig 0)) 29)
        replace h10 := heap_alloc_held h10 (.cells (numA false (dig 0)) 29)
        replace a11 := heap_alloc_held a11 (.cells (numA false (dig 0)) 29)
        replace hs := hs.keep ((Keeps.refl [] _).alloc (.cells (numA false (dig 0)) 29))
        have a12 : NumAt (wz107.alloc (.cells (numA false (dig 0)) 29)) wz107.heap.size false (dig 0) := heap_alloc_new _ _
        refine hK.out _ _ ⟨⟨cell_of_block h9 rfl, cell_of_block h9 rfl⟩, h10⟩ (fun _ => ?_)
        clear hK K
        generalize wz107.alloc (.cells (numA false (dig 0)) 29) = wz123 at *
        refine wpAnyH_ready (rs := [4]) (by kernel_rfl) (by simp) ?_
        refine AllReadyH.cons (o := ⟨some 39, _, _, _, _, _⟩) rfl (fun K hK => ?_) AllReadyH.nil
        rw [if_pos (by rfl)]
        refine wp_call_go1 14 _ _ rfl (.slice (some ⟨wz106.heap.size, 0, none⟩) 2 2) rfl (Try.call14 _) (v := .agg #[.int .i64 (T / 18446744073709551616), .int .u64 (T % 18446744073709551616)]) (ADC.out _ _ hs) (fun wz124 ka => ?_)
        clear hs
        replace kk := kk.trans0 ka
        replace h9 := ka.held h9 (by simp)
        replace h10 := ka.held h10 (by simp)
        replace a11 := ka.held a11 (by simp)
        replace a12 := ka.held a12 (by simp)
        refine hK.out _ _ ⟨⟨cell_of_block h9 rfl, cell_of_block h9 rfl⟩, h10⟩ (fun _ => ?_)
        clear hK K ka
        simp only [Act.put, List.setIfInBounds_toArray, List.set_cons_zero, List.set_cons_succ]
        refine wpAnyH_ready (rs := [7]) (by kernel_rfl) (by simp) ?_
        refine AllReadyH.cons (o := ⟨some 42, _, _, _, _, _⟩) rfl (fun K hK => ?_) AllReadyH.nil
        rw [if_pos (by rfl)]
        refine wp_call_go1 13 _ _ rfl (.int .i64 e) rfl (Try.call13 _) (v := .agg (numA me (dig xe))) (ROC.out _) (fun wz125 ka => ?_)
        replace kk := kk.trans0 ka
        replace h9 := ka.held h9 (by simp)
        replace h10 := ka.held h10 (by simp)
        replace a11 := ka.held a11 (by simp)
        replace a12 := ka.held a12 (by simp)
        refine hK.out _ _ ⟨⟨cell_of_block h9 rfl, cell_of_block h9 rfl⟩, h10⟩ (fun _ => ?_)
        clear hK K ka
        simp only [Act.put, List.setIfInBounds_toArray, List.set_cons_zero, List.set_cons_succ]
        refine wpAnyH_ready (rs := [8]) (by kernel_rfl) (by simp) ?_
        refine AllReadyH.cons (o := ⟨some 43, _, _, _, _, _⟩) rfl (fun K hK => ?_) AllReadyH.nil
        rw [if_pos (by rfl)]
        refine wp_call_go 15 _ _ _ rfl (.agg (numA mz (dig xz))) (.agg (numA me (dig xe))) rfl rfl (Try.call15 _) (v := .agg (numA ms (dig xs))) (RAC.out _) (fun wz126 ka => ?_)
        replace kk := kk.trans0 ka
        replace h9 := ka.held h9 (by simp)
        replace h10 := ka.held h10 (by simp)
        replace a11 := ka.held a11 (by simp)
        replace a12 := ka.held a12 (by simp)
        refine hK.out _ _ ⟨⟨cell_of_block h9 rfl, cell_of_block h9 rfl⟩, h10⟩ (fun _ => ?_)
        clear hK K ka
        simp only [Act.put, List.setIfInBounds_toArray, List.set_cons_zero, List.set_cons_succ]
        refine wpAnyH_ready (rs := [11]) (by kernel_rfl) (by simp) ?_
        refine AllReadyH.cons (o := ⟨none, _, _, _, _, _⟩) rfl (fun K hK => ?_) AllReadyH.nil
        rw [if_pos (by rfl)]
        refine wp_store_row _ _ _ rfl (wz1.heap.size) #[.int .i64 (T / 18446744073709551616), .int .u64 (T % 18446744073709551616)] rfl rfl _ #[.int .i64 0, .int .u64 0] a11 infoW rfl (two_one _ _) ?_
        obtain ⟨kk, h9, h10, a11, a12⟩ := set_t kk h9 h10 a11 a12 T (by omega)
        refine hK.out _ _ ⟨⟨cell_of_block h9 rfl, cell_of_block h9 rfl⟩, h10⟩ (fun _ => ?_)
        clear hK K
        generalize wz126.setRow (wz1.heap.size) #[.int .i64 (T / 18446744073709551616), .int .u64 (T % 18446744073709551616)] = wz127 at *
        refine wpAnyH_ready (rs := [12]) (by kernel_rfl) (by simp) ?_
        refine AllReadyH.cons (o := ⟨none, _, _, _, _, _⟩) rfl (fun K hK => ?_) AllReadyH.nil
        rw [if_pos (by rfl)]
        refine wp_store_row _ _ _ rfl (wz107.heap.size) (numA ms (dig xs)) rfl rfl _ (numA false (dig 0)) a12 (by rw [numA_size]; exact infoNum) (by rw [numA_size, numA_size]) (numA_one _ _) ?_
        obtain ⟨kk, h9, h10, a11, a12⟩ := set_s kk h9 h10 a11 a12 ms xs (by omega)
        refine hK.out _ _ ⟨⟨cell_of_block h9 rfl, cell_of_block h9 rfl⟩, h10⟩ (fun _ => ?_)
        clear hK K
        refine wpAnyH_done (by kernel_rfl) ?_ _
        simp only [Act.put]
        go_wp2_with fail
        go_meet
        exact ⟨wz1.heap.size, wz107.heap.size, rfl, rfl, ⟨kk, h10, a11, a12⟩⟩
      ·rw [if_pos (by rfl)]
       have l12 : w.heap.size ≤ wz106.heap.size := kk.size
       have o12 : G9 < wz106.heap.size ∧ G10 < wz106.heap.size := ⟨lt_of_block h9, lt_of_block h10⟩
       have ne12 : wz1.heap.size ≠ wz106.heap.size := by have := lt_of_block a11; omega
       go_wp2_with fail
       simp only [nzeros_eq]
       replace kk := kk.alloc (.cells (numA false (dig 0)) 29)
       replace h9 := heap_alloc_held h9 (.cells (numA false (dig 0)) 29)
       replace h10 := heap_alloc_held h10 (.cells (numA false (dig 0)) 29)
       replace a11 := heap_alloc_held a11 (.cells (numA false (dig 0)) 29)
       have a12 : NumAt (wz106.alloc (.cells (numA false (dig 0)) 29)) wz106.heap.size false (dig 0) := heap_alloc_new _ _
       refine hK.out _ _ ⟨⟨cell_of_block h9 rfl, cell_of_block h9 rfl⟩, h10⟩ (fun _ => ?_)
       clear hK K
       generalize wz106.alloc (.cells (numA false (dig 0)) 29) = wz129 at *
       refine wpAnyH_ready (rs := [3]) (by kernel_rfl) (by simp) ?_
       refine AllReadyH.cons (o := ⟨some 38, _, _, _, _, _⟩) rfl (fun K hK => ?_) AllReadyH.nil
       rw [if_pos (by rfl)]
       go_wp2_with fail
       replace kk := kk.alloc (.cells #[.int .i64 (Z / 18446744073709551616), .int .u64 (Z % 18446744073709551616), .int .i64 (e / 18446744073709551616), .int .u64 (e % 18446744073709551616)] 25)
       replace h9 := heap_alloc_held h9 (.cells #[.int .i64 (Z / 18446744073709551616), .int .u64 (Z % 18446744073709551616), .int .i64 (e / 18446744073709551616), .int .u64 (e % 18446744073709551616)] 25)
       replace h10 := heap_alloc_held h10 (.cells #[.int .i64 (Z / 18446744073709551616), .int .u64 (Z % 18446744073709551616), .int .i64 (e / 18446744073709551616), .int .u64 (e % 18446744073709551616)] 25)
       replace a11 := heap_alloc_held a11 (.cells #[.int .i64 (Z / 18446744073709551616), .int .u64 (Z % 18446744073709551616), .int .i64 (e / 18446744073709551616), .int .u64 (e % 18446744073709551616)] 25)
       replace a12 := heap_alloc_held a12 (.cells #[.int .i64 (Z / 18446744073709551616), .int .u64 (Z % 18446744073709551616), .int .i64 (e / 18446744073709551616), .int .u64 (e % 18446744073709551616)] 25)
       have hs : NumsAt (wz129.alloc (.cells #[.int .i64 (Z / 18446744073709551616), .int .u64 (Z % 18446744073709551616), .int .i64 (e / 18446744073709551616), .int .u64 (e % 18446744073709551616)] 25)) wz129.heap.size [Z, e] := nums2 wz129 Z e
       refine hK.out _ _ ⟨⟨cell_of_block h9 rfl, cell_of_block h9 rfl⟩, h10⟩ (fun _ => ?_)
       clear hK K
       generalize wz129.alloc (.cells #[.int .i64 (Z / 18446744073709551616), .int .u64 (Z % 18446744073709551616), .int .i64 (e / 18446744073709551616), .int .u64 (e % 18446744073709551616)] 25) = wz130 at *
       refine wpAnyH_ready (rs := [4]) (by kernel_rfl) (by simp) ?_
       refine AllReadyH.cons (o := ⟨some 39, _, _, _, _, _⟩) rfl (fun K hK => ?_) AllReadyH.nil
       rw [if_pos (by rfl)]
       refine wp_call_go1 14 _ _ rfl (.slice (some ⟨wz129.heap.size, 0, none⟩) 2 2) rfl (Try.call14 _) (v := .agg #[.int .i64 (T / 18446744073709551616), .int .u64 (T % 18446744073709551616)]) (ADC.out _ _ hs) (fun wz131 ka => ?_)
       clear hs
       replace kk := kk.trans0 ka
       replace h9 := ka.held h9 (by simp)
       replace h10 := ka.held h10 (by simp)
       replace a11 := ka.held a11 (by simp)
       replace a12 := ka.held a12 (by simp)
       refine hK.out _ _ ⟨⟨cell_of_block h9 rfl, cell_of_block h9 rfl⟩, h10⟩ (fun _ => ?_)
       clear hK K ka
       simp only [Act.put, List.setIfInBounds_toArray, List.set_cons_zero, List.set_cons_succ]
       refine wpAnyH_ready (rs := [7]) (by kernel_rfl) (by simp) ?_
       refine AllReadyH.cons (o := ⟨some 42, _, _, _, _, _⟩) rfl (fun K hK => ?_) AllReadyH.nil
       rw [if_pos (by rfl)]
       refine wp_call_go1 13 _ _ rfl (.int .i64 e) rfl (Try.call13 _) (v := .agg (numA me (dig xe))) (ROC.out _) (fun wz132 ka => ?_)
       replace kk := kk.trans0 ka
       replace h9 := ka.held h9 (by simp)
       replace h10 := ka.held h10 (by simp)
       replace a11 := ka.held a11 (by simp)
       replace a12 := ka.held a12 (by simp)
       refine hK.out _ _ ⟨⟨cell_of_block h9 rfl, cell_of_block h9 rfl⟩, h10⟩ (fun _ => ?_)
       clear hK K ka
       simp only [Act.put, List.setIfInBounds_toArray, List.set_cons_zero, List.set_cons_succ]
       refine wpAnyH_ready (rs := [8]) (by kernel_rfl) (by simp) ?_
       refine AllReadyH.cons (o := ⟨some 43, _, _, _, _, _⟩) rfl (fun K hK => ?_) AllReadyH.nil
       rw [if_pos (by rfl)]
       refine wp_call_go 15 _ _ _ rfl (.agg (numA mz (dig xz))) (.agg (numA me (dig xe))) rfl rfl (Try.call15 _) (v := .agg (numA ms (dig xs))) (RAC.out _) (fun wz133 ka => ?_)
       replace kk := kk.trans0 ka
       replace h9 := ka.held h9 (by simp)
       replace h10 := ka.held h10 (by simp)
       replace a11 := ka.held a11 (by simp)
       replace a12 := ka.held a12 (by simp)
       refine hK.out _ _ ⟨⟨cell_of_block h9 rfl, cell_of_block h9 rfl⟩, h10⟩ (fun _ => ?_)
       clear hK K ka
       simp only [Act.put, List.setIfInBounds_toArray, List.set_cons_zero, List.set_cons_succ]
       refine wpAnyH_ready (rs := [11]) (by kernel_rfl) (by simp) ?_
       refine AllReadyH.cons (o := ⟨none, _, _, _, _, _⟩) rfl (fun K hK => ?_) AllReadyH.nil
       rw [if_pos (by rfl)]
       refine wp_store_row _ _ _ rfl (wz1.heap.size) #[.int .i64 (T / 18446744073709551616), .int .u64 (T % 18446744073709551616)] rfl rfl _ #[.int .i64 0, .int .u64 0] a11 infoW rfl (two_one _ _) ?_
       obtain ⟨kk, h9, h10, a11, a12⟩ := set_t kk h9 h10 a11 a12 T (by omega)
       refine hK.out _ _ ⟨⟨cell_of_block h9 rfl, cell_of_block h9 rfl⟩, h10⟩ (fun _ => ?_)
       clear hK K
       generalize wz133.setRow (wz1.heap.size) #[.int .i64 (T / 18446744073709551616), .int .u64 (T % 18446744073709551616)] = wz134 at *
       refine wpAnyH_ready (rs := [12]) (by kernel_rfl) (by simp) ?_
       refine AllReadyH.cons (o := ⟨none, _, _, _, _, _⟩) rfl (fun K hK => ?_) AllReadyH.nil
       rw [if_pos (by rfl)]
       refine wp_store_row _ _ _ rfl (wz106.heap.size) (numA ms (dig xs)) rfl rfl _ (numA false (dig 0)) a12 (by rw [numA_size]; exact infoNum) (by rw [numA_size, numA_size]) (numA_one _ _) ?_
       obtain ⟨kk, h9, h10, a11, a12⟩ := set_s kk h9 h10 a11 a12 ms xs (by omega)
       refine hK.out _ _ ⟨⟨cell_of_block h9 rfl, cell_of_block h9 rfl⟩, h10⟩ (fun _ => ?_)
       clear hK K
       refine wpAnyH_done (by kernel_rfl) ?_ _
       simp only [Act.put]
       go_wp2_with fail
       go_meet
       exact ⟨wz1.heap.size, wz106.heap.size, rfl, rfl, ⟨kk, h10, a11, a12⟩⟩
     ·rw [if_pos (by rfl)]
      have l12 : w.heap.size ≤ wz1.heap.size := kk.size
      have o12 : G9 < wz1.heap.size ∧ G10 < wz1.heap.size := ⟨lt_of_block h9, lt_of_block h10⟩
      go_wp2_with fail
      simp only [nzeros_eq]
      replace kk := kk.alloc (.cells (numA false (dig 0)) 29)
      replace h9 := heap_alloc_held h9 (.cells (numA false (dig 0)) 29)
      replace h10 := heap_alloc_held h10 (.cells (numA false (dig 0)) 29)
      have a12 : NumAt (wz1.alloc (.cells (numA false (dig 0)) 29)) wz1.heap.size false (dig 0) := heap_alloc_new _ _
      refine hK.out _ _ ⟨⟨cell_of_block h9 rfl, cell_of_block h9 rfl⟩, h10⟩ (fun _ => ?_)
      clear hK K
      generalize wz1.alloc (.cells (numA false (dig 0)) 29) = wz136 at *
      refine wpAnyH_ready (rs := [3, 9]) (by kernel_rfl) (by simp) ?_
      refine AllReadyH.cons (o := ⟨some 38, _, _, _, _, _⟩) rfl (fun K hK => ?_) (AllReadyH.cons (o := ⟨some 11, _, _, _, _, _⟩) rfl (fun K hK => ?_) AllReadyH.nil)
      ·rw [if_pos (by rfl)]
       go_wp2_with fail
       replace kk := kk.alloc (.cells #[.int .i64 (Z / 18446744073709551616), .int .u64 (Z % 18446744073709551616), .int .i64 (e / 18446744073709551616), .int .u64 (e % 18446744073709551616)] 25)
       replace h9 := heap_alloc_held h9 (.cells #[.int .i64 (Z / 18446744073709551616), .int .u64 (Z % 18446744073709551616), .int .i64 (e / 18446744073709551616), .int .u64 (e % 18446744073709551616)] 25)
       replace h10 := heap_alloc_held h10 (.cells #[.int .i64 (Z / 18446744073709551616), .int .u64 (Z % 18446744073709551616), .int .i64 (e / 18446744073709551616), .int .u64 (e % 18446744073709551616)] 25)
       replace a12 := heap_alloc_held a12 (.cells #[.int .i64 (Z / 18446744073709551616), .int .u64 (Z % 18446744073709551616), .int .i64 (e / 18446744073709551616), .int .u64 (e % 18446744073709551616)] 25)
       have hs : NumsAt (wz136.alloc (.cells #[.int .i64 (Z / 18446744073709551616), .int .u64 (Z % 18446744073709551616), .int .i64 (e / 18446744073709551616), .int .u64 (e % 18446744073709551616)] 25)) wz136.heap.size [Z, e] := nums2 wz136 Z e
       refine hK.out _ _ ⟨⟨cell_of_block h9 rfl, cell_of_block h9 rfl⟩, h10⟩ (fun _ => ?_)
       clear hK K
       generalize wz136.alloc (.cells #[.int .i64 (Z / 18446744073709551616), .int .u64 (Z % 18446744073709551616), .int .i64 (e / 18446744073709551616), .int .u64 (e % 18446744073709551616)] 25) = wz137 at *
       refine wpAnyH_ready (rs := [4, 9]) (by kernel_rfl) (by simp) ?_
       refine AllReadyH.cons (o := ⟨some 39, _, _, _, _, _⟩) rfl (fun K hK => ?_) (AllReadyH.cons (o := ⟨some 11, _, _, _, _, _⟩) rfl (fun K hK => ?_) AllReadyH.nil)
       ·rw [if_pos (by rfl)]
        refine wp_call_go1 14 _ _ rfl (.slice (some ⟨wz136.heap.size, 0, none⟩) 2 2) rfl (Try.call14 _) (v := .agg #[.int .i64 (T / 18446744073709551616), .int .u64 (T % 18446744073709551616)]) (ADC.out _ _ hs) (fun wz138 ka => ?_)
        clear hs
        replace kk := kk.trans0 ka
        replace h9 := ka.held h9 (by simp)
        replace h10 := ka.held h10 (by simp)
        replace a12 := ka.held a12 (by simp)
        refine hK.out _ _ ⟨⟨cell_of_block h9 rfl, cell_of_block h9 rfl⟩, h10⟩ (fun _ => ?_)
        clear hK K ka
        simp only [Act.put, List.setIfInBounds_toArray, List.set_cons_zero, List.set_cons_succ]
        refine wpAnyH_ready (rs := [7, 9]) (by kernel_rfl) (by simp) ?_
        refine AllReadyH.cons (o := ⟨some 42, _, _, _, _, _⟩) rfl (fun K hK => ?_) (AllReadyH.cons (o := ⟨some 11, _, _, _, _, _⟩) rfl (fun K hK => ?_) AllReadyH.nil)
        ·rw [if_pos (by rfl)]
         refine wp_call_go1 13 _ _ rfl (.int .i64 e) rfl (Try.call13 _) (v := .agg (numA me (dig xe))) (ROC.out _) (fun wz139 ka => ?_)
         replace kk := kk.trans0 ka
         replace h9 := ka.held h9 (by simp)
         replace h10 := ka.held h10 (by simp)
         replace a12 := ka.held a12 (by simp)
         refine hK.out _ _ ⟨⟨cell_of_block h9 rfl, cell_of_block h9 rfl⟩, h10⟩ (fun _ => ?_)
         clear hK K ka
         simp only [Act.put, List.setIfInBounds_toArray, List.set_cons_zero, List.set_cons_succ]
         refine wpAnyH_ready (rs := [8, 9]) (by kernel_rfl) (by simp) ?_
         refine AllReadyH.cons (o := ⟨some 43, _, _, _, _, _⟩) rfl (fun K hK => ?_) (AllReadyH.cons (o := ⟨some 11, _, _, _, _, _⟩) rfl (fun K hK => ?_) AllReadyH.nil)
         ·rw [if_pos (by rfl)]
          refine wp_call_go 15 _ _ _ rfl (.agg (numA mz (dig xz))) (.agg (numA me (dig xe))) rfl rfl (Try.call15 _) (v := .agg (numA ms (dig xs))) (RAC.out _) (fun wz140 ka => ?_)
          replace kk := kk.trans0 ka
          replace h9 := ka.held h9 (by simp)
          replace h10 := ka.held h10 (by simp)
          replace a12 := ka.held a12 (by simp)
          refine hK.out _ _ ⟨⟨cell_of_block h9 rfl, cell_of_block h9 rfl⟩, h10⟩ (fun _ => ?_)
          clear hK K ka
          simp only [Act.put, List.setIfInBounds_toArray, List.set_cons_zero, List.set_cons_succ]
          refine wpAnyH_ready (rs := [9]) (by kernel_rfl) (by simp) ?_
          refine AllReadyH.cons (o := ⟨some 11, _, _, _, _, _⟩) rfl (fun K hK => ?_) AllReadyH.nil
          rw [if_pos (by rfl)]
          have l11 : w.heap.size ≤ wz140.heap.size := kk.size
          have o11 : G9 < wz140.heap.size ∧ G10 < wz140.heap.size := ⟨lt_of_block h9, lt_of_block h10⟩
          have ne12 : wz140.heap.size ≠ wz1.heap.size := by have := lt_of_block a12; omega
          go_wp2_with fail
          replace kk := kk.alloc (.cells #[.int .i64 0, .int .u64 0] 25)
          replace h9 := heap_alloc_held h9 (.cells #[.int .i64 0, .int .u64 0] 25)
          replace h10 := heap_alloc_held h10 (.cells #[.int .i64 0, .int .u64 0] 25)
          replace a12 := heap_alloc_held a12 (.cells #[.int .i64 0, .int .u64 0] 25)
          have a11 : (wz140.alloc (.cells #[.int .i64 0, .int .u64 0] 25)).heap[wz140.heap.size]? = some (.cells #[.int .i64 0, .int .u64 0] 25 (0, 0)) := heap_alloc_new _ _
          refine hK.out _ _ ⟨⟨cell_of_block h9 rfl, cell_of_block h9 rfl⟩, h10⟩ (fun _ => ?_)
          clear hK K
          generalize wz140.alloc (.cells #[.int .i64 0, .int .u64 0] 25) = wz141 at *
          refine wpAnyH_ready (rs := [11]) (by kernel_rfl) (by simp) ?_
          refine AllReadyH.cons (o := ⟨none, _, _, _, _, _⟩) rfl (fun K hK => ?_) AllReadyH.nil
          rw [if_pos (by rfl)]
          refine wp_store_row _ _ _ rfl (wz140.heap.size) #[.int .i64 (T / 18446744073709551616), .int .u64 (T % 18446744073709551616)] rfl rfl _ #[.int .i64 0, .int .u64 0] a11 infoW rfl (two_one _ _) ?_
          obtain ⟨kk, h9, h10, a11, a12⟩ := set_t kk h9 h10 a11 a12 T (by omega)
          refine hK.out _ _ ⟨⟨cell_of_block h9 rfl, cell_of_block h9 rfl⟩, h10⟩ (fun _ => ?_)
          clear hK K
          generalize wz141.setRow (wz140.heap.size) #[.int .i64 (T / 18446744073709551616), .int .u64 (T % 18446744073709551616)] = wz142 at *
          refine wpAnyH_ready (rs := [12]) (by kernel_rfl) (by simp) ?_
          refine AllReadyH.cons (o := ⟨none, _, _, _, _, _⟩) rfl (fun K hK => ?_) AllReadyH.nil
          rw [if_pos (by rfl)]
          refine wp_store_row _ _ _ rfl (wz1.heap.size) (numA ms (dig xs)) rfl rfl _ (numA false (dig 0)) a12 (by rw [numA_size]; exact infoNum) (by rw [numA_size, numA_size]) (numA_one _ _) ?_
          obtain ⟨kk, h9, h10, a11, a12⟩ := set_s kk h9 h10 a11 a12 ms xs (by omega)
          refine hK.out _ _ ⟨⟨cell_of_block h9 rfl, cell_of_block h9 rfl⟩, h10⟩ (fun _ => ?_)
          clear hK K
          refine wpAnyH_done (by kernel_rfl) ?_ _
          simp only [Act.put]
          go_wp2_with fail
          go_meet
          exact ⟨wz140.heap.size, wz1.heap.size, rfl, rfl, ⟨kk, h10, a11, a12⟩⟩
         ·rw [if_pos (by rfl)]
          have l11 : w.heap.size ≤ wz139.heap.size := kk.size
          have o11 : G9 < wz139.heap.size ∧ G10 < wz139.heap.size := ⟨lt_of_block h9, lt_of_block h10⟩
          have ne12 : wz139.heap.size ≠ wz1.heap.size := by have := lt_of_block a12; omega
          go_wp2_with fail
          replace kk := kk.alloc (.cells #[.int .i64 0, .int .u64 0] 25)
          replace h9 := heap_alloc_held h9 (.cells #[.int .i64 0, .int .u64 0] 25)
          replace h10 := heap_alloc_held h10 (.cells #[.int .i64 0, .int .u64 0] 25)
          replace a12 := heap_alloc_held a12 (.cells #[.int .i64 0, .int .u64 0] 25)
          have a11 : (wz139.alloc (.cells #[.int .i64 0, .int .u64 0] 25)).heap[wz139.heap.size]? = some (.cells #[.int .i64 0, .int .u64 0] 25 (0, 0)) := heap_alloc_new _ _
          refine hK.out _ _ ⟨⟨cell_of_block h9 rfl, cell_of_block h9 rfl⟩, h10⟩ (fun _ => ?_)
          clear hK K
          generalize wz139.alloc (.cells #[.int .i64 0, .int .u64 0] 25) = wz144 at *
          refine wpAnyH_ready (rs := [8]) (by kernel_rfl) (by simp) ?_
          refine AllReadyH.cons (o := ⟨some 43, _, _, _, _, _⟩) rfl (fun K hK => ?_) AllReadyH.nil
          rw [if_pos (by rfl)]
          refine wp_call_go 15 _ _ _ rfl (.agg (numA mz (dig xz))) (.agg (numA me (dig xe))) rfl rfl (Try.call15 _) (v := .agg (numA ms (dig xs))) (RAC.out _) (fun wz145 ka => ?_)
          replace kk := kk.trans0 ka
          replace h9 := ka.held h9 (by simp)
          replace h10 := ka.held h10 (by simp)
          replace a11 := ka.held a11 (by simp)
          replace a12 := ka.held a12 (by simp)
          refine hK.out _ _ ⟨⟨cell_of_block h9 rfl, cell_of_block h9 rfl⟩, h10⟩ (fun _ => ?_)
          clear hK K ka
          simp only [Act.put, List.setIfInBounds_toArray, List.set_cons_zero, List.set_cons_succ]
          refine wpAnyH_ready (rs := [11]) (by kernel_rfl) (by simp) ?_
          refine AllReadyH.cons (o := ⟨none, _, _, _, _, _⟩) rfl (fun K hK => ?_) AllReadyH.nil
          rw [if_pos (by rfl)]
          refine wp_store_row _ _ _ rfl (wz139.heap.size) #[.int .i64 (T / 18446744073709551616), .int .u64 (T % 18446744073709551616)] rfl rfl _ #[.int .i64 0, .int .u64 0] a11 infoW rfl (two_one _ _) ?_
          obtain ⟨kk, h9, h10, a11, a12⟩ := set_t kk h9 h10 a11 a12 T (by omega)
          refine hK.out _ _ ⟨⟨cell_of_block h9 rfl, cell_of_block h9 rfl⟩, h10⟩ (fun _ => ?_)
          clear hK K
          generalize wz145.setRow (wz139.heap.size) #[.int .i64 (T / 18446744073709551616), .int .u64 (T % 18446744073709551616)] = wz146 at *
          refine wpAnyH_ready (rs := [12]) (by kernel_rfl) (by simp) ?_
          refine AllReadyH.cons (o := ⟨none, _, _, _, _, _⟩) rfl (fun K hK => ?_) AllReadyH.nil
          rw [if_pos (by rfl)]
          refine wp_store_row _ _ _ rfl (wz1.heap.size) (numA ms (dig xs)) rfl rfl _ (numA false (dig 0)) a12 (by rw [numA_size]; exact infoNum) (by rw [numA_size, numA_size]) (numA_one _ _) ?_
          obtain ⟨kk, h9, h10, a11, a12⟩ := set_s kk h9 h10 a11 a12 ms xs (by omega)
          refine hK.out _ _ ⟨⟨cell_of_block h9 rfl, cell_of_block h9 rfl⟩, h10⟩ (fun _ => ?_)
          clear hK K
          refine wpAnyH_done (by kernel_rfl) ?_ _
          simp only [Act.put]
          go_wp2_with fail
          go_meet
          exact ⟨wz139.heap.size, wz1.heap.size, rfl, rfl, ⟨kk, h10, a11, a12⟩⟩
        ·rw [if_pos (by rfl)]
         have l11 : w.heap.size ≤ wz138.heap.size := kk.size
         have o11 : G9 < wz138.heap.size ∧ G10 < wz138.heap.size := ⟨lt_of_block h9, lt_of_block h10⟩
         have ne12 : wz138.heap.size ≠ wz1.heap.size := by have := lt_of_block a12; omega
         go_wp2_with fail
         replace kk := kk.alloc (.cells #[.int .i64 0, .int .u64 0] 25)
         replace h9 := heap_alloc_held h9 (.cells #[.int .i64 0, .int .u64 0] 25)
         replace h10 := heap_alloc_held h10 (.cells #[.int .i64 0, .int .u64 0] 25)
         replace a12 := heap_alloc_held a12 (.cells #[.int .i64 0, .int .u64 0] 25)
         have a11 : (wz138.alloc (.cells #[.int .i64 0, .int .u64 0] 25)).heap[wz138.heap.size]? = some (.cells #[.int .i64 0, .int .u64 0] 25 (0, 0)) := heap_alloc_new _ _
         refine hK.out _ _ ⟨⟨cell_of_block h9 rfl, cell_of_block h9 rfl⟩, h10⟩ (fun _ => ?_)
         clear hK K
         generalize wz138.alloc (.cells #[.int .i64 0, .int .u64 0] 25) = wz148 at *
         refine wpAnyH_ready (rs := [7]) (by kernel_rfl) (by simp) ?_
         refine AllReadyH.cons (o := ⟨some 42, _, _, _, _, _⟩) rfl (fun K hK => ?_) AllReadyH.nil
         rw [if_pos (by rfl)]
         refine wp_call_go1 13 _ _ rfl (.int .i64 e) rfl (Try.call13 _) (v := .agg (numA me (dig xe))) (ROC.out _) (fun wz149 ka => ?_)
         replace kk := kk.trans0 ka
         replace h9 := ka.held h9 (by simp)
         replace h10 := ka.held h10 (by simp)
         replace a11 := ka.held a11 (by simp)
         replace a12 := ka.held a12 (by simp)
         refine hK.out _ _ ⟨⟨cell_of_block h9 rfl, cell_of_block h9 rfl⟩, h10⟩ (fun _ => ?_)
         clear hK K ka
         simp only [Act.put, List.setIfInBounds_toArray, List.set_cons_zero, List.set_cons_succ]
         refine wpAnyH_ready (rs := [8]) (by kernel_rfl) (by simp) ?_
         refine AllReadyH.cons (o := ⟨some 43, _, _, _, _, _⟩) rfl (fun K hK => ?_) AllReadyH.nil
         rw [if_pos (by rfl)]
         refine wp_call_go 15 _ _ _ rfl (.agg (numA mz (dig xz))) (.agg (numA me (dig xe))) rfl rfl (Try.call15 _) (v := .agg (numA ms (dig xs))) (RAC.out _) (fun wz150 ka => ?_)
         replace kk := kk.trans0 ka
         replace h9 := ka.held h9 (by simp)
         replace h10 := ka.held h10 (by simp)
         replace a11 := ka.held a11 (by simp)
         replace a12 := ka.held a12 (by simp)
         refine hK.out _ _ ⟨⟨cell_of_block h9 rfl, cell_of_block h9 rfl⟩, h10⟩ (fun _ => ?_)
         clear hK K ka
         simp only [Act.put, List.setIfInBounds_toArray, List.set_cons_zero, List.set_cons_succ]
         refine wpAnyH_ready (rs := [11]) (by kernel_rfl) (by simp) ?_
         refine AllReadyH.cons (o := ⟨none, _, _, _, _, _⟩) rfl (fun K hK => ?_) AllReadyH.nil
         rw [if_pos (by rfl)]
         refine wp_store_row _ _ _ rfl (wz138.heap.size) #[.int .i64 (T / 18446744073709551616), .int .u64 (T % 18446744073709551616)] rfl rfl _ #[.int .i64 0, .int .u64 0] a11 infoW rfl (two_one _ _) ?_
         obtain ⟨kk, h9, h10, a11, a12⟩ := set_t kk h9 h10 a11 a12 T (by omega)
         refine hK.out _ _ ⟨⟨cell_of_block h9 rfl, cell_of_block h9 rfl⟩, h10⟩ (fun _ => ?_)
         clear hK K
         generalize wz150.setRow (wz138.heap.size) #[.int .i64 (T / 18446744073709551616), .int .u64 (T % 18446744073709551616)] = wz151 at *
         refine wpAnyH_ready (rs := [12]) (by kernel_rfl) (by simp) ?_
         refine AllReadyH.cons (o := ⟨none, _, _, _, _, _⟩) rfl (fun K hK => ?_) AllReadyH.nil
         rw [if_pos (by rfl)]
         refine wp_store_row _ _ _ rfl (wz1.heap.size) (numA ms (dig xs)) rfl rfl _ (numA false (dig 0)) a12 (by rw [numA_size]; exact infoNum) (by rw [numA_size, numA_size]) (numA_one _ _) ?_
         obtain ⟨kk, h9, h10, a11, a12⟩ := set_s kk h9 h10 a11 a12 ms xs (by omega)
         refine hK.out _ _ ⟨⟨cell_of_block h9 rfl, cell_of_block h9 rfl⟩, h10⟩ (fun _ => ?_)
         clear hK K
         refine wpAnyH_done (by kernel_rfl) ?_ _
         simp only [Act.put]
         go_wp2_with fail
         go_meet
         exact ⟨wz138.heap.size, wz1.heap.size, rfl, rfl, ⟨kk, h10, a11, a12⟩⟩
       ·rw [if_pos (by rfl)]
        have l11 : w.heap.size ≤ wz137.heap.size := kk.size
        have o11 : G9 < wz137.heap.size ∧ G10 < wz137.heap.size := ⟨lt_of_block h9, lt_of_block h10⟩
        have ne12 : wz137.heap.size ≠ wz1.heap.size := by have := lt_of_block a12; omega
        go_wp2_with fail
        replace kk := kk.alloc (.cells #[.int .i64 0, .int .u64 0] 25)
        replace h9 := heap_alloc_held h9 (.cells #[.int .i64 0, .int .u64 0] 25)
        replace h10 := heap_alloc_held h10 (.cells #[.int .i64 0, .int .u64 0] 25)
        replace a12 := heap_alloc_held a12 (.cells #[.int .i64 0, .int .u64 0] 25)
        replace hs := hs.keep ((Keeps.refl [] _).alloc (.cells #[.int .i64 0, .int .u64 0] 25))
        have a11 : (wz137.alloc (.cells #[.int .i64 0, .int .u64 0] 25)).heap[wz137.heap.size]? = some (.cells #[.int .i64 0, .int .u64 0] 25 (0, 0)) := heap_alloc_new _ _
        refine hK.out _ _ ⟨⟨cell_of_block h9 rfl, cell_of_block h9 rfl⟩, h10⟩ (fun _ => ?_)
        clear hK K
        generalize wz137.alloc (.cells #[.int .i64 0, .int .u64 0] 25) = wz153 at *
        refine wpAnyH_ready (rs := [4]) (by kernel_rfl) (by simp) ?_
        refine AllReadyH.cons (o := ⟨some 39, _, _, _, _, _⟩) rfl (fun K hK => ?_) AllReadyH.nil
        rw [if_pos (by rfl)]
        refine wp_call_go1 14 _ _ rfl (.slice (some ⟨wz136.heap.size, 0, none⟩) 2 2) rfl (Try.call14 _) (v := .agg #[.int .i64 (T / 18446744073709551616), .int .u64 (T % 18446744073709551616)]) (ADC.out _ _ hs) (fun wz154 ka => ?_)
        clear hs
        replace kk := kk.trans0 ka
        replace h9 := ka.held h9 (by simp)
        replace h10 := ka.held h10 (by simp)
        replace a11 := ka.held a11 (by simp)
        replace a12 := ka.held a12 (by simp)
        refine hK.out _ _ ⟨⟨cell_of_block h9 rfl, cell_of_block h9 rfl⟩, h10⟩ (fun _ => ?_)
        clear hK K ka
        simp only [Act.put, List.setIfInBounds_toArray, List.set_cons_zero, List.set_cons_succ]
        refine wpAnyH_ready (rs := [7]) (by kernel_rfl) (by simp) ?_
        refine AllReadyH.cons (o := ⟨some 42, _, _, _, _, _⟩) rfl (fun K hK => ?_) AllReadyH.nil
        rw [if_pos (by rfl)]
        refine wp_call_go1 13 _ _ rfl (.int .i64 e) rfl (Try.call13 _) (v := .agg (numA me (dig xe))) (ROC.out _) (fun wz155 ka => ?_)
        replace kk := kk.trans0 ka
        replace h9 := ka.held h9 (by simp)
        replace h10 := ka.held h10 (by simp)
        replace a11 := ka.held a11 (by simp)
        replace a12 := ka.held a12 (by simp)
        refine hK.out _ _ ⟨⟨cell_of_block h9 rfl, cell_of_block h9 rfl⟩, h10⟩ (fun _ => ?_)
        clear hK K ka
        simp only [Act.put, List.setIfInBounds_toArray, List.set_cons_zero, List.set_cons_succ]
        refine wpAnyH_ready (rs := [8]) (by kernel_rfl) (by simp) ?_
        refine AllReadyH.cons (o := ⟨some 43, _, _, _, _, _⟩) rfl (fun K hK => ?_) AllReadyH.nil
        rw [if_pos (by rfl)]
        refine wp_call_go 15 _ _ _ rfl (.agg (numA mz (dig xz))) (.agg (numA me (dig xe))) rfl rfl (Try.call15 _) (v := .agg (numA ms (dig xs))) (RAC.out _) (fun wz156 ka => ?_)
        replace kk := kk.trans0 ka
        replace h9 := ka.held h9 (by simp)
        replace h10 := ka.held h10 (by simp)
        replace a11 := ka.held a11 (by simp)
        replace a12 := ka.held a12 (by simp)
        refine hK.out _ _ ⟨⟨cell_of_block h9 rfl, cell_of_block h9 rfl⟩, h10⟩ (fun _ => ?_)
        clear hK K ka
        simp only [Act.put, List.setIfInBounds_toArray, List.set_cons_zero, List.set_cons_succ]
        refine wpAnyH_ready (rs := [11]) (by kernel_rfl) (by simp) ?_
        refine AllReadyH.cons (o := ⟨none, _, _, _, _, _⟩) rfl (fun K hK => ?_) AllReadyH.nil
        rw [if_pos (by rfl)]
        refine wp_store_row _ _ _ rfl (wz137.heap.size) #[.int .i64 (T / 18446744073709551616), .int .u64 (T % 18446744073709551616)] rfl rfl _ #[.int .i64 0, .int .u64 0] a11 infoW rfl (two_one _ _) ?_
        obtain ⟨kk, h9, h10, a11, a12⟩ := set_t kk h9 h10 a11 a12 T (by omega)
        refine hK.out _ _ ⟨⟨cell_of_block h9 rfl, cell_of_block h9 rfl⟩, h10⟩ (fun _ => ?_)
        clear hK K
        generalize wz156.setRow (wz137.heap.size) #[.int .i64 (T / 18446744073709551616), .int .u64 (T % 18446744073709551616)] = wz157 at *
        refine wpAnyH_ready (rs := [12]) (by kernel_rfl) (by simp) ?_
        refine AllReadyH.cons (o := ⟨none, _, _, _, _, _⟩) rfl (fun K hK => ?_) AllReadyH.nil
        rw [if_pos (by rfl)]
        refine wp_store_row _ _ _ rfl (wz1.heap.size) (numA ms (dig xs)) rfl rfl _ (numA false (dig 0)) a12 (by rw [numA_size]; exact infoNum) (by rw [numA_size, numA_size]) (numA_one _ _) ?_
        obtain ⟨kk, h9, h10, a11, a12⟩ := set_s kk h9 h10 a11 a12 ms xs (by omega)
        refine hK.out _ _ ⟨⟨cell_of_block h9 rfl, cell_of_block h9 rfl⟩, h10⟩ (fun _ => ?_)
        clear hK K
        refine wpAnyH_done (by kernel_rfl) ?_ _
        simp only [Act.put]
        go_wp2_with fail
        go_meet
        exact ⟨wz137.heap.size, wz1.heap.size, rfl, rfl, ⟨kk, h10, a11, a12⟩⟩
      ·rw [if_pos (by rfl)]
       have l11 : w.heap.size ≤ wz136.heap.size := kk.size
       have o11 : G9 < wz136.heap.size ∧ G10 < wz136.heap.size := ⟨lt_of_block h9, lt_of_block h10⟩
       have ne12 : wz136.heap.size ≠ wz1.heap.size := by have := lt_of_block a12; omega
       go_wp2_with fail
       replace kk := kk.alloc (.cells #[.int .i64 0, .int .u64 0] 25)
       replace h9 := heap_alloc_held h9 (.cells #[.int .i64 0, .int .u64 0] 25)
       replace h10 := heap_alloc_held h10 (.cells #[.int .i64 0, .int .u64 0] 25)
       replace a12 := heap_alloc_held a12 (.cells #[.int .i64 0, .int .u64 0] 25)
       have a11 : (wz136.alloc (.cells #[.int .i64 0, .int .u64 0] 25)).heap[wz136.heap.size]? = some (.cells #[.int .i64 0, .int .u64 0] 25 (0, 0)) := heap_alloc_new _ _
       refine hK.out _ _ ⟨⟨cell_of_block h9 rfl, cell_of_block h9 rfl⟩, h10⟩ (fun _ => ?_)
       clear hK K
       generalize wz136.alloc (.cells #[.int .i64 0, .int .u64 0] 25) = wz159 at *
       refine wpAnyH_ready (rs := [3]) (by kernel_rfl) (by simp) ?_
       refine AllReadyH.cons (o := ⟨some 38, _, _, _, _, _⟩) rfl (fun K hK => ?_) AllReadyH.nil
       rw [if_pos (by rfl)]
       go_wp2_with fail
       replace kk := kk.alloc (.cells #[.int .i64 (Z / 18446744073709551616), .int .u64 (Z % 18446744073709551616), .int .i64 (e / 18446744073709551616), .int .u64 (e % 18446744073709551616)] 25)
       replace h9 := heap_alloc_held h9 (.cells #[.int .i64 (Z / 18446744073709551616), .int .u64 (Z % 18446744073709551616), .int .i64 (e / 18446744073709551616), .int .u64 (e % 18446744073709551616)] 25)
       replace h10 := heap_alloc_held h10 (.cells #[.int .i64 (Z / 18446744073709551616), .int .u64 (Z % 18446744073709551616), .int .i64 (e / 18446744073709551616), .int .u64 (e % 18446744073709551616)] 25)
       replace a11 := heap_alloc_held a11 (.cells #[.int .i64 (Z / 18446744073709551616), .int .u64 (Z % 18446744073709551616), .int .i64 (e / 18446744073709551616), .int .u64 (e % 18446744073709551616)] 25)
       replace a12 := heap_alloc_held a12 (.cells #[.int .i64 (Z / 18446744073709551616), .int .u64 (Z % 18446744073709551616), .int .i64 (e / 18446744073709551616), .int .u64 (e % 18446744073709551616)] 25)
       have hs : NumsAt (wz159.alloc (.cells #[.int .i64 (Z / 18446744073709551616), .int .u64 (Z % 18446744073709551616), .int .i64 (e / 18446744073709551616), .int .u64 (e % 18446744073709551616)] 25)) wz159.heap.size [Z, e] := nums2 wz159 Z e
       refine hK.out _ _ ⟨⟨cell_of_block h9 rfl, cell_of_block h9 rfl⟩, h10⟩ (fun _ => ?_)
       clear hK K
       generalize wz159.alloc (.cells #[.int .i64 (Z / 18446744073709551616), .int .u64 (Z % 18446744073709551616), .int .i64 (e / 18446744073709551616), .int .u64 (e % 18446744073709551616)] 25) = wz160 at *
       refine wpAnyH_ready (rs := [4]) (by kernel_rfl) (by simp) ?_
       refine AllReadyH.cons (o := ⟨some 39, _, _, _, _, _⟩) rfl (fun K hK => ?_) AllReadyH.nil
       rw [if_pos (by rfl)]
       refine wp_call_go1 14 _ _ rfl (.slice (some ⟨wz159.heap.size, 0, none⟩) 2 2) rfl (Try.call14 _) (v := .agg #[.int .i64 (T / 18446744073709551616), .int .u64 (T % 18446744073709551616)]) (ADC.out _ _ hs) (fun wz161 ka => ?_)
       clear hs
       replace kk := kk.trans0 ka
       replace h9 := ka.held h9 (by simp)
       replace h10 := ka.held h10 (by simp)
       replace a11 := ka.held a11 (by simp)
       replace a12 := ka.held a12 (by simp)
       refine hK.out _ _ ⟨⟨cell_of_block h9 rfl, cell_of_block h9 rfl⟩, h10⟩ (fun _ => ?_)
       clear hK K ka
       simp only [Act.put, List.setIfInBounds_toArray, List.set_cons_zero, List.set_cons_succ]
       refine wpAnyH_ready (rs := [7]) (by kernel_rfl) (by simp) ?_
       refine AllReadyH.cons (o := ⟨some 42, _, _, _, _, _⟩) rfl (fun K hK => ?_) AllReadyH.nil
       rw [if_pos (by rfl)]
       refine wp_call_go1 13 _ _ rfl (.int .i64 e) rfl (Try.call13 _) (v := .agg (numA me (dig xe))) (ROC.out _) (fun wz162 ka => ?_)
       replace kk := kk.trans0 ka
       replace h9 := ka.held h9 (by simp)
       replace h10 := ka.held h10 (by simp)
       replace a11 := ka.held a11 (by simp)
       replace a12 := ka.held a12 (by simp)
       refine hK.out _ _ ⟨⟨cell_of_block h9 rfl, cell_of_block h9 rfl⟩, h10⟩ (fun _ => ?_)
       clear hK K ka
       simp only [Act.put, List.setIfInBounds_toArray, List.set_cons_zero, List.set_cons_succ]
       refine wpAnyH_ready (rs := [8]) (by kernel_rfl) (by simp) ?_
       refine AllReadyH.cons (o := ⟨some 43, _, _, _, _, _⟩) rfl (fun K hK => ?_) AllReadyH.nil
       rw [if_pos (by rfl)]
       refine wp_call_go 15 _ _ _ rfl (.agg (numA mz (dig xz))) (.agg (numA me (dig xe))) rfl rfl (Try.call15 _) (v := .agg (numA ms (dig xs))) (RAC.out _) (fun wz163 ka => ?_)
       replace kk := kk.trans0 ka
       replace h9 := ka.held h9 (by simp)
       replace h10 := ka.held h10 (by simp)
       replace a11 := ka.held a11 (by simp)
       replace a12 := ka.held a12 (by simp)
       refine hK.out _ _ ⟨⟨cell_of_block h9 rfl, cell_of_block h9 rfl⟩, h10⟩ (fun _ => ?_)
       clear hK K ka
       simp only [Act.put, List.setIfInBounds_toArray, List.set_cons_zero, List.set_cons_succ]
       refine wpAnyH_ready (rs := [11]) (by kernel_rfl) (by simp) ?_
       refine AllReadyH.cons (o := ⟨none, _, _, _, _, _⟩) rfl (fun K hK => ?_) AllReadyH.nil
       rw [if_pos (by rfl)]
       refine wp_store_row _ _ _ rfl (wz136.heap.size) #[.int .i64 (T / 18446744073709551616), .int .u64 (T % 18446744073709551616)] rfl rfl _ #[.int .i64 0, .int .u64 0] a11 infoW rfl (two_one _ _) ?_
       obtain ⟨kk, h9, h10, a11, a12⟩ := set_t kk h9 h10 a11 a12 T (by omega)
       refine hK.out _ _ ⟨⟨cell_of_block h9 rfl, cell_of_block h9 rfl⟩, h10⟩ (fun _ => ?_)
       clear hK K
       generalize wz163.setRow (wz136.heap.size) #[.int .i64 (T / 18446744073709551616), .int .u64 (T % 18446744073709551616)] = wz164 at *
       refine wpAnyH_ready (rs := [12]) (by kernel_rfl) (by simp) ?_
       refine AllReadyH.cons (o := ⟨none, _, _, _, _, _⟩) rfl (fun K hK => ?_) AllReadyH.nil
       rw [if_pos (by rfl)]
       refine wp_store_row _ _ _ rfl (wz1.heap.size) (numA ms (dig xs)) rfl rfl _ (numA false (dig 0)) a12 (by rw [numA_size]; exact infoNum) (by rw [numA_size, numA_size]) (numA_one _ _) ?_
       obtain ⟨kk, h9, h10, a11, a12⟩ := set_s kk h9 h10 a11 a12 ms xs (by omega)
       refine hK.out _ _ ⟨⟨cell_of_block h9 rfl, cell_of_block h9 rfl⟩, h10⟩ (fun _ => ?_)
       clear hK K
       refine wpAnyH_done (by kernel_rfl) ?_ _
       simp only [Act.put]
       go_wp2_with fail
       go_meet
       exact ⟨wz136.heap.size, wz1.heap.size, rfl, rfl, ⟨kk, h10, a11, a12⟩⟩
    ·rw [if_pos (by rfl)]
     have l11 : w.heap.size ≤ w4.heap.size := kk.size
     have o11 : G9 < w4.heap.size ∧ G10 < w4.heap.size := ⟨lt_of_block h9, lt_of_block h10⟩
     go_wp2_with fail
     replace kk := kk.alloc (.cells #[.int .i64 0, .int .u64 0] 25)
     replace h9 := heap_alloc_held h9 (.cells #[.int .i64 0, .int .u64 0] 25)
     replace h10 := heap_alloc_held h10 (.cells #[.int .i64 0, .int .u64 0] 25)
     have a11 : (w4.alloc (.cells #[.int .i64 0, .int .u64 0] 25)).heap[w4.heap.size]? = some (.cells #[.int .i64 0, .int .u64 0] 25 (0, 0)) := heap_alloc_new _ _
     refine hK.out _ _ ⟨⟨cell_of_block h9 rfl, cell_of_block h9 rfl⟩, h10⟩ (fun _ => ?_)
     clear hK K
     generalize w4.alloc (.cells #[.int .i64 0, .int .u64 0] 25) = wz166 at *
     refine wpAnyH_ready (rs := [2, 10]) (by kernel_rfl) (by simp) ?_
     refine AllReadyH.cons (o := ⟨some 37, _, _, _, _, _⟩) rfl (fun K hK => ?_) (AllReadyH.cons (o := ⟨some 12, _, _, _, _, _⟩) rfl (fun K hK => ?_) AllReadyH.nil)
     ·rw [if_pos (by rfl)]
      refine wp_call_go1 12 _ _ rfl (.int .i64 e) rfl (Try.call12 _) (v := .agg #[.int .i64 (e / 18446744073709551616), .int .u64 (e % 18446744073709551616)]) (OFC.out _) (fun wz167 ka => ?_)
      replace kk := kk.trans0 ka
      replace h9 := ka.held h9 (by simp)
      replace h10 := ka.held h10 (by simp)
      replace a11 := ka.held a11 (by simp)
      refine hK.out _ _ ⟨⟨cell_of_block h9 rfl, cell_of_block h9 rfl⟩, h10⟩ (fun _ => ?_)
      clear hK K ka
      simp only [Act.put, List.setIfInBounds_toArray, List.set_cons_zero, List.set_cons_succ]
      refine wpAnyH_ready (rs := [3, 10]) (by kernel_rfl) (by simp) ?_
      refine AllReadyH.cons (o := ⟨some 38, _, _, _, _, _⟩) rfl (fun K hK => ?_) (AllReadyH.cons (o := ⟨some 12, _, _, _, _, _⟩) rfl (fun K hK => ?_) AllReadyH.nil)
      ·rw [if_pos (by rfl)]
       go_wp2_with fail
       replace kk := kk.alloc (.cells #[.int .i64 (Z / 18446744073709551616), .int .u64 (Z % 18446744073709551616), .int .i64 (e / 18446744073709551616), .int .u64 (e % 18446744073709551616)] 25)
       replace h9 := heap_alloc_held h9 (.cells #[.int .i64 (Z / 18446744073709551616), .int .u64 (Z % 18446744073709551616), .int .i64 (e / 18446744073709551616), .int .u64 (e % 18446744073709551616)] 25)
       replace h10 := heap_alloc_held h10 (.cells #[.int .i64 (Z / 18446744073709551616), .int .u64 (Z % 18446744073709551616), .int .i64 (e / 18446744073709551616), .int .u64 (e % 18446744073709551616)] 25)
       replace a11 := heap_alloc_held a11 (.cells #[.int .i64 (Z / 18446744073709551616), .int .u64 (Z % 18446744073709551616), .int .i64 (e / 18446744073709551616), .int .u64 (e % 18446744073709551616)] 25)
       have hs : NumsAt (wz167.alloc (.cells #[.int .i64 (Z / 18446744073709551616), .int .u64 (Z % 18446744073709551616), .int .i64 (e / 18446744073709551616), .int .u64 (e % 18446744073709551616)] 25)) wz167.heap.size [Z, e] := nums2 wz167 Z e
       refine hK.out _ _ ⟨⟨cell_of_block h9 rfl, cell_of_block h9 rfl⟩, h10⟩ (fun _ => ?_)
       clear hK K
       generalize wz167.alloc (.cells #[.int .i64 (Z / 18446744073709551616), .int .u64 (Z % 18446744073709551616), .int .i64 (e / 18446744073709551616), .int .u64 (e % 18446744073709551616)] 25) = wz168 at *
       refine wpAnyH_ready (rs := [4, 10]) (by kernel_rfl) (by simp) ?_
       refine AllReadyH.cons (o := ⟨some 39, _, _, _, _, _⟩) rfl (fun K hK => ?_) (AllReadyH.cons (o := ⟨some 12, _, _, _, _, _⟩) rfl (fun K hK => ?_) AllReadyH.nil)
       ·rw [if_pos (by rfl)]
        refine wp_call_go1 14 _ _ rfl (.slice (some ⟨wz167.heap.size, 0, none⟩) 2 2) rfl (Try.call14 _) (v := .agg #[.int .i64 (T / 18446744073709551616), .int .u64 (T % 18446744073709551616)]) (ADC.out _ _ hs) (fun wz169 ka => ?_)
        clear hs
        replace kk := kk.trans0 ka
        replace h9 := ka.held h9 (by simp)
        replace h10 := ka.held h10 (by simp)
        replace a11 := ka.held a11 (by simp)
        refine hK.out _ _ ⟨⟨cell_of_block h9 rfl, cell_of_block h9 rfl⟩, h10⟩ (fun _ => ?_)
        clear hK K ka
        simp only [Act.put, List.setIfInBounds_toArray, List.set_cons_zero, List.set_cons_succ]
        refine wpAnyH_ready (rs := [7, 10]) (by kernel_rfl) (by simp) ?_
        refine AllReadyH.cons (o := ⟨some 42, _, _, _, _, _⟩) rfl (fun K hK => ?_) (AllReadyH.cons (o := ⟨some 12, _, _, _, _, _⟩) rfl (fun K hK => ?_) AllReadyH.nil)
        ·rw [if_pos (by rfl)]
         refine wp_call_go1 13 _ _ rfl (.int .i64 e) rfl (Try.call13 _) (v := .agg (numA me (dig xe))) (ROC.out _) (fun wz170 ka => ?_)
         replace kk := kk.trans0 ka
         replace h9 := ka.held h9 (by simp)
         replace h10 := ka.held h10 (by simp)
         replace a11 := ka.held a11 (by simp)
         refine hK.out _ _ ⟨⟨cell_of_block h9 rfl, cell_of_block h9 rfl⟩, h10⟩ (fun _ => ?_)
         clear hK K ka
         simp only [Act.put, List.setIfInBounds_toArray, List.set_cons_zero, List.set_cons_succ]
         refine wpAnyH_ready (rs := [8, 10]) (by kernel_rfl) (by simp) ?_
         refine AllReadyH.cons (o := ⟨some 43, _, _, _, _, _⟩) rfl (fun K hK => ?_) (AllReadyH.cons (o := ⟨some 12, _, _, _, _, _⟩) rfl (fun K hK => ?_) AllReadyH.nil)
         ·rw [if_pos (by rfl)]
          refine wp_call_go 15 _ _ _ rfl (.agg (numA mz (dig xz))) (.agg (numA me (dig xe))) rfl rfl (Try.call15 _) (v := .agg (numA ms (dig xs))) (RAC.out _) (fun wz171 ka => ?_)
          replace kk := kk.trans0 ka
          replace h9 := ka.held h9 (by simp)
          replace h10 := ka.held h10 (by simp)
          replace a11 := ka.held a11 (by simp)
          refine hK.out _ _ ⟨⟨cell_of_block h9 rfl, cell_of_block h9 rfl⟩, h10⟩ (fun _ => ?_)
          clear hK K ka
          simp only [Act.put, List.setIfInBounds_toArray, List.set_cons_zero, List.set_cons_succ]
          refine wpAnyH_ready (rs := [10]) (by kernel_rfl) (by simp) ?_
          refine AllReadyH.cons (o := ⟨some 12, _, _, _, _, _⟩) rfl (fun K hK => ?_) AllReadyH.nil
          rw [if_pos (by rfl)]
          have l12 : w.heap.size ≤ wz171.heap.size := kk.size
          have o12 : G9 < wz171.heap.size ∧ G10 < wz171.heap.size := ⟨lt_of_block h9, lt_of_block h10⟩
          have ne12 : w4.heap.size ≠ wz171.heap.size := by have := lt_of_block a11; omega
          go_wp2_with fail
          simp only [nzeros_eq]
          replace kk := kk.alloc (.cells (numA false (dig 0)) 29)
          replace h9 := heap_alloc_held h9 (.cells (numA false (dig 0)) 29)
          replace h10 := heap_alloc_held h10 (.cells (numA false (dig 0)) 29)
          replace a11 := heap_alloc_held a11 (.cells (numA false (dig 0)) 29)
          have a12 : NumAt (wz171.alloc (.cells (numA false (dig 0)) 29)) wz171.heap.size false (dig 0) := heap_alloc_new _ _
          refine hK.out _ _ ⟨⟨cell_of_block h9 rfl, cell_of_block h9 rfl⟩, h10⟩ (fun _ => ?_)
          clear hK K
          generalize wz171.alloc (.cells (numA false (dig 0)) 29) = wz172 at *
          refine wpAnyH_ready (rs := [11]) (by kernel_rfl) (by simp) ?_
          refine AllReadyH.cons (o := ⟨none, _, _, _, _, _⟩) rfl (fun K hK => ?_) AllReadyH.nil
          rw [if_pos (by rfl)]
          refine wp_store_row _ _ _ rfl (w4.heap.size) #[.int .i64 (T / 18446744073709551616), .int .u64 (T % 18446744073709551616)] rfl rfl _ #[.int .i64 0, .int .u64 0] a11 infoW rfl (two_one _ _) ?_
          obtain ⟨kk, h9, h10, a11, a12⟩ := set_t kk h9 h10 a11 a12 T (by omega)
          refine hK.out _ _ ⟨⟨cell_of_block h9 rfl, cell_of_block h9 rfl⟩, h10⟩ (fun _ => ?_)
          clear hK K
          generalize wz172.setRow (w4.heap.size) #[.int .i64 (T / 18446744073709551616), .int .u64 (T % 18446744073709551616)] = wz173 at *
          refine wpAnyH_ready (rs := [12]) (by kernel_rfl) (by simp) ?_
          refine AllReadyH.cons (o := ⟨none, _, _, _, _, _⟩) rfl (fun K hK => ?_) AllReadyH.nil
          rw [if_pos (by rfl)]
          refine wp_store_row _ _ _ rfl (wz171.heap.size) (numA ms (dig xs)) rfl rfl _ (numA false (dig 0)) a12 (by rw [numA_size]; exact infoNum) (by rw [numA_size, numA_size]) (numA_one _ _) ?_
          obtain ⟨kk, h9, h10, a11, a12⟩ := set_s kk h9 h10 a11 a12 ms xs (by omega)
          refine hK.out _ _ ⟨⟨cell_of_block h9 rfl, cell_of_block h9 rfl⟩, h10⟩ (fun _ => ?_)
          clear hK K
          refine wpAnyH_done (by kernel_rfl) ?_ _
          simp only [Act.put]
          go_wp2_with fail
          go_meet
          exact ⟨w4.heap.size, wz171.heap.size, rfl, rfl, ⟨kk, h10, a11, a12⟩⟩
         ·rw [if_pos (by rfl)]
          have l12 : w.heap.size ≤ wz170.heap.size := kk.size
          have o12 : G9 < wz170.heap.size ∧ G10 < wz170.heap.size := ⟨lt_of_block h9, lt_of_block h10⟩
          have ne12 : w4.heap.size ≠ wz170.heap.size := by have := lt_of_block a11; omega
          go_wp2_with fail
          simp only [nzeros_eq]
          replace kk := kk.alloc (.cells (numA false (dig 0)) 29)
          replace h9 := heap_alloc_held h9 (.cells (numA false (dig 0)) 29)
          replace h10 := heap_alloc_held h10 (.cells (numA false (dig 0)) 29)
          replace a11 := heap_alloc_held a11 (.cells (numA false (dig 0)) 29)
          have a12 : NumAt (wz170.alloc (.cells (numA false (dig 0)) 29)) wz170.heap.size false (dig 0) := heap_alloc_new _ _
          refine hK.out _ _ ⟨⟨cell_of_block h9 rfl, cell_of_block h9 rfl⟩, h10⟩ (fun _ => ?_)
          clear hK K
          generalize wz170.alloc (.cells (numA false (dig 0)) 29) = wz175 at *
          refine wpAnyH_ready (rs := [8]) (by kernel_rfl) (by simp) ?_
          refine AllReadyH.cons (o := ⟨some 43, _, _, _, _, _⟩) rfl (fun K hK => ?_) AllReadyH.nil
          rw [if_pos (by rfl)]
          refine wp_call_go 15 _ _ _ rfl (.agg (numA mz (dig xz))) (.agg (numA me (dig xe))) rfl rfl (Try.call15 _) (v := .agg (numA ms (dig xs))) (RAC.out _) (fun wz176 ka => ?_)
          replace kk := kk.trans0 ka
          replace h9 := ka.held h9 (by simp)
          replace h10 := ka.held h10 (by simp)
          replace a11 := ka.held a11 (by simp)
          replace a12 := ka.held a12 (by simp)
          refine hK.out _ _ ⟨⟨cell_of_block h9 rfl, cell_of_block h9 rfl⟩, h10⟩ (fun _ => ?_)
          clear hK K ka
          simp only [Act.put, List.setIfInBounds_toArray, List.set_cons_zero, List.set_cons_succ]
          refine wpAnyH_ready (rs := [11]) (by kernel_rfl) (by simp) ?_
          refine AllReadyH.cons (o := ⟨none, _, _, _, _, _⟩) rfl (fun K hK => ?_) AllReadyH.nil
          rw [if_pos (by rfl)]
          refine wp_store_row _ _ _ rfl (w4.heap.size) #[.int .i64 (T / 18446744073709551616), .int .u64 (T % 18446744073709551616)] rfl rfl _ #[.int .i64 0, .int .u64 0] a11 infoW rfl (two_one _ _) ?_
          obtain ⟨kk, h9, h10, a11, a12⟩ := set_t kk h9 h10 a11 a12 T (by omega)
          refine hK.out _ _ ⟨⟨cell_of_block h9 rfl, cell_of_block h9 rfl⟩, h10⟩ (fun _ => ?_)
          clear hK K
          generalize wz176.setRow (w4.heap.size) #[.int .i64 (T / 18446744073709551616), .int .u64 (T % 18446744073709551616)] = wz177 at *
          refine wpAnyH_ready (rs := [12]) (by kernel_rfl) (by simp) ?_
          refine AllReadyH.cons (o := ⟨none, _, _, _, _, _⟩) rfl (fun K hK => ?_) AllReadyH.nil
          rw [if_pos (by rfl)]
          refine wp_store_row _ _ _ rfl (wz170.heap.size) (numA ms (dig xs)) rfl rfl _ (numA false (dig 0)) a12 (by rw [numA_size]; exact infoNum) (by rw [numA_size, numA_size]) (numA_one _ _) ?_
          obtain ⟨kk, h9, h10, a11, a12⟩ := set_s kk h9 h10 a11 a12 ms xs (by omega)
          refine hK.out _ _ ⟨⟨cell_of_block h9 rfl, cell_of_block h9 rfl⟩, h10⟩ (fun _ => ?_)
          clear hK K
          refine wpAnyH_done (by kernel_rfl) ?_ _
          simp only [Act.put]
          go_wp2_with fail
          go_meet
          exact ⟨w4.heap.size, wz170.heap.size, rfl, rfl, ⟨kk, h10, a11, a12⟩⟩
        ·rw [if_pos (by rfl)]
         have l12 : w.heap.size ≤ wz169.heap.size := kk.size
         have o12 : G9 < wz169.heap.size ∧ G10 < wz169.heap.size := ⟨lt_of_block h9, lt_of_block h10⟩
         have ne12 : w4.heap.size ≠ wz169.heap.size := by have := lt_of_block a11; omega
         go_wp2_with fail
         simp only [nzeros_eq]
         replace kk := kk.alloc (.cells (numA false (dig 0)) 29)
         replace h9 := heap_alloc_held h9 (.cells (numA false (dig 0)) 29)
         replace h10 := heap_alloc_held h10 (.cells (numA false (dig 0)) 29)
         replace a11 := heap_alloc_held a11 (.cells (numA false (dig 0)) 29)
         have a12 : NumAt (wz169.alloc (.cells (numA false (dig 0)) 29)) wz169.heap.size false (dig 0) := heap_alloc_new _ _
         refine hK.out _ _ ⟨⟨cell_of_block h9 rfl, cell_of_block h9 rfl⟩, h10⟩ (fun _ => ?_)
         clear hK K
         generalize wz169.alloc (.cells (numA false (dig 0)) 29) = wz179 at *
         refine wpAnyH_ready (rs := [7]) (by kernel_rfl) (by simp) ?_
         refine AllReadyH.cons (o := ⟨some 42, _, _, _, _, _⟩) rfl (fun K hK => ?_) AllReadyH.nil
         rw [if_pos (by rfl)]
         refine wp_call_go1 13 _ _ rfl (.int .i64 e) rfl (Try.call13 _) (v := .agg (numA me (dig xe))) (ROC.out _) (fun wz180 ka => ?_)
         replace kk := kk.trans0 ka
         replace h9 := ka.held h9 (by simp)
         replace h10 := ka.held h10 (by simp)
         replace a11 := ka.held a11 (by simp)
         replace a12 := ka.held a12 (by simp)
         refine hK.out _ _ ⟨⟨cell_of_block h9 rfl, cell_of_block h9 rfl⟩, h10⟩ (fun _ => ?_)
         clear hK K ka
         simp only [Act.put, List.setIfInBounds_toArray, List.set_cons_zero, List.set_cons_succ]
         refine wpAnyH_ready (rs := [8]) (by kernel_rfl) (by simp) ?_
         refine AllReadyH.cons (o := ⟨some 43, _, _, _, _, _⟩) rfl (fun K hK => ?_) AllReadyH.nil
         rw [if_pos (by rfl)]
         refine wp_call_go 15 _ _ _ rfl (.agg (numA mz (dig xz))) (.agg (numA me (dig xe))) rfl rfl (Try.call15 _) (v := .agg (numA ms (dig xs))) (RAC.out _) (fun wz181 ka => ?_)
         replace kk := kk.trans0 ka
         replace h9 := ka.held h9 (by simp)
         replace h10 := ka.held h10 (by simp)
         replace a11 := ka.held a11 (by simp)
         replace a12 := ka.held a12 (by simp)
         refine hK.out _ _ ⟨⟨cell_of_block h9 rfl, cell_of_block h9 rfl⟩, h10⟩ (fun _ => ?_)
         clear hK K ka
         simp only [Act.put, List.setIfInBounds_toArray, List.set_cons_zero, List.set_cons_succ]
         refine wpAnyH_ready (rs := [11]) (by kernel_rfl) (by simp) ?_
         refine AllReadyH.cons (o := ⟨none, _, _, _, _, _⟩) rfl (fun K hK => ?_) AllReadyH.nil
         rw [if_pos (by rfl)]
         refine wp_store_row _ _ _ rfl (w4.heap.size) #[.int .i64 (T / 18446744073709551616), .int .u64 (T % 18446744073709551616)] rfl rfl _ #[.int .i64 0, .int .u64 0] a11 infoW rfl (two_one _ _) ?_
         obtain ⟨kk, h9, h10, a11, a12⟩ := set_t kk h9 h10 a11 a12 T (by omega)
         refine hK.out _ _ ⟨⟨cell_of_block h9 rfl, cell_of_block h9 rfl⟩, h10⟩ (fun _ => ?_)
         clear hK K
         generalize wz181.setRow (w4.heap.size) #[.int .i64 (T / 18446744073709551616), .int .u64 (T % 18446744073709551616)] = wz182 at *
         refine wpAnyH_ready (rs := [12]) (by kernel_rfl) (by simp) ?_
         refine AllReadyH.cons (o := ⟨none, _, _, _, _, _⟩) rfl (fun K hK => ?_) AllReadyH.nil
         rw [if_pos (by rfl)]
         refine wp_store_row _ _ _ rfl (wz169.heap.size) (numA ms (dig xs)) rfl rfl _ (numA false (dig 0)) a12 (by rw [numA_size]; exact infoNum) (by rw [numA_size, numA_size]) (numA_one _ _) ?_
         obtain ⟨kk, h9, h10, a11, a12⟩ := set_s kk h9 h10 a11 a12 ms xs (by omega)
         refine hK.out _ _ ⟨⟨cell_of_block h9 rfl, cell_of_block h9 rfl⟩, h10⟩ (fun _ => ?_)
         clear hK K
         refine wpAnyH_done (by kernel_rfl) ?_ _
         simp only [Act.put]
         go_wp2_with fail
         go_meet
         exact ⟨w4.heap.size, wz169.heap.size, rfl, rfl, ⟨kk, h10, a11, a12⟩⟩
       ·rw [if_pos (by rfl)]
        have l12 : w.heap.size ≤ wz168.heap.size := kk.size
        have o12 : G9 < wz168.heap.size ∧ G10 < wz168.heap.size := ⟨lt_of_block h9, lt_of_block h10⟩
        have ne12 : w4.heap.size ≠ wz168.heap.size := by have := lt_of_block a11; omega
        go_wp2_with fail
        simp only [nzeros_eq]
        replace kk := kk.alloc (.cells (numA false (dig 0)) 29)
        replace h9 := heap_alloc_held h9 (.cells (numA false (dig 0)) 29)
        replace h10 := heap_alloc_held h10 (.cells (numA false (dig 0)) 29)
        replace a11 := heap_alloc_held a11 (.cells (numA false (dig 0)) 29)
        replace hs := hs.keep ((Keeps.refl [] _).alloc (.cells (numA false (dig 0)) 29))
        have a12 : NumAt (wz168.alloc (.cells (numA false (dig 0)) 29)) wz168.heap.size false (dig 0) := heap_alloc_new _ _
        refine hK.out _ _ ⟨⟨cell_of_block h9 rfl, cell_of_block h9 rfl⟩, h10⟩ (fun _ => ?_)
        clear hK K
        generalize wz168.alloc (.cells (numA false (dig 0)) 29) = wz184 at *
        refine wpAnyH_ready (rs := [4]) (by kernel_rfl) (by simp) ?_
        refine AllReadyH.cons (o := ⟨some 39, _, _, _, _, _⟩) rfl (fun K hK => ?_) AllReadyH.nil
        rw [if_pos (by rfl)]
        refine wp_call_go1 14 _ _ rfl (.slice (some ⟨wz167.heap.size, 0, none⟩) 2 2) rfl (Try.call14 _) (v := .agg #[.int .i64 (T / 18446744073709551616), .int .u64 (T % 18446744073709551616)]) (ADC.out _ _ hs) (fun wz185 ka => ?_)
        clear hs
        replace kk := kk.trans0 ka
        replace h9 := ka.held h9 (by simp)
        replace h10 := ka.held h10 (by simp)
        replace a11 := ka.held a11 (by simp)
        replace a12 := ka.held a12 (by simp)
        refine hK.out _ _ ⟨⟨cell_of_block h9 rfl, cell_of_block h9 rfl⟩, h10⟩ (fun _ => ?_)
        clear hK K ka
        simp only [Act.put, List.setIfInBounds_toArray, List.set_cons_zero, List.set_cons_succ]
        refine wpAnyH_ready (rs := [7]) (by kernel_rfl) (by simp) ?_
        refine AllReadyH.cons (o := ⟨some 42, _, _, _, _, _⟩) rfl (fun K hK => ?_) AllReadyH.nil
        rw [if_pos (by rfl)]
        refine wp_call_go1 13 _ _ rfl (.int .i64 e) rfl (Try.call13 _) (v := .agg (numA me (dig xe))) (ROC.out _) (fun wz186 ka => ?_)
        replace kk := kk.trans0 ka
        replace h9 := ka.held h9 (by simp)
        replace h10 := ka.held h10 (by simp)
        replace a11 := ka.held a11 (by simp)
        replace a12 := ka.held a12 (by simp)
        refine hK.out _ _ ⟨⟨cell_of_block h9 rfl, cell_of_block h9 rfl⟩, h10⟩ (fun _ => ?_)
        clear hK K ka
        simp only [Act.put, List.setIfInBounds_toArray, List.set_cons_zero, List.set_cons_succ]
        refine wpAnyH_ready (rs := [8]) (by kernel_rfl) (by simp) ?_
        refine AllReadyH.cons (o := ⟨some 43, _, _, _, _, _⟩) rfl (fun K hK => ?_) AllReadyH.nil
        rw [if_pos (by rfl)]
        refine wp_call_go 15 _ _ _ rfl (.agg (numA mz (dig xz))) (.agg (numA me (dig xe))) rfl rfl (Try.call15 _) (v := .agg (numA ms (dig xs))) (RAC.out _) (fun wz187 ka => ?_)
        replace kk := kk.trans0 ka
        replace h9 := ka.held h9 (by simp)
        replace h10 := ka.held h10 (by simp)
        replace a11 := ka.held a11 (by simp)
        replace a12 := ka.held a12 (by simp)
        refine hK.out _ _ ⟨⟨cell_of_block h9 rfl, cell_of_block h9 rfl⟩, h10⟩ (fun _ => ?_)
        clear hK K ka
        simp only [Act.put, List.setIfInBounds_toArray, List.set_cons_zero, List.set_cons_succ]
        refine wpAnyH_ready (rs := [11]) (by kernel_rfl) (by simp) ?_
        refine AllReadyH.cons (o := ⟨none, _, _, _, _, _⟩) rfl (fun K hK => ?_) AllReadyH.nil
        rw [if_pos (by rfl)]
        refine wp_store_row _ _ _ rfl (w4.heap.size) #[.int .i64 (T / 18446744073709551616), .int .u64 (T % 18446744073709551616)] rfl rfl _ #[.int .i64 0, .int .u64 0] a11 infoW rfl (two_one _ _) ?_
        obtain ⟨kk, h9, h10, a11, a12⟩ := set_t kk h9 h10 a11 a12 T (by omega)
        refine hK.out _ _ ⟨⟨cell_of_block h9 rfl, cell_of_block h9 rfl⟩, h10⟩ (fun _ => ?_)
        clear hK K
        generalize wz187.setRow (w4.heap.size) #[.int .i64 (T / 18446744073709551616), .int .u64 (T % 18446744073709551616)] = wz188 at *
        refine wpAnyH_ready (rs := [12]) (by kernel_rfl) (by simp) ?_
        refine AllReadyH.cons (o := ⟨none, _, _, _, _, _⟩) rfl (fun K hK => ?_) AllReadyH.nil
        rw [if_pos (by rfl)]
        refine wp_store_row _ _ _ rfl (wz168.heap.size) (numA ms (dig xs)) rfl rfl _ (numA false (dig 0)) a12 (by rw [numA_size]; exact infoNum) (by rw [numA_size, numA_size]) (numA_one _ _) ?_
        obtain ⟨kk, h9, h10, a11, a12⟩ := set_s kk h9 h10 a11 a12 ms xs (by omega)
        refine hK.out _ _ ⟨⟨cell_of_block h9 rfl, cell_of_block h9 rfl⟩, h10⟩ (fun _ => ?_)
        clear hK K
        refine wpAnyH_done (by kernel_rfl) ?_ _
        simp only [Act.put]
        go_wp2_with fail
        go_meet
        exact ⟨w4.heap.size, wz168.heap.size, rfl, rfl, ⟨kk, h10, a11, a12⟩⟩
      ·rw [if_pos (by rfl)]
       have l12 : w.heap.size ≤ wz167.heap.size := kk.size
       have o12 : G9 < wz167.heap.size ∧ G10 < wz167.heap.size := ⟨lt_of_block h9, lt_of_block h10⟩
       have ne12 : w4.heap.size ≠ wz167.heap.size := by have := lt_of_block a11; omega
       go_wp2_with fail
       simp only [nzeros_eq]
       replace kk := kk.alloc (.cells (numA false (dig 0)) 29)
       replace h9 := heap_alloc_held h9 (.cells (numA false (dig 0)) 29)
       replace h10 := heap_alloc_held h10 (.cells (numA false (dig 0)) 29)
       replace a11 := heap_alloc_held a11 (.cells (numA false (dig 0)) 29)
       have a12 : NumAt (wz167.alloc (.cells (numA false (dig 0)) 29)) wz167.heap.size false (dig 0) := heap_alloc_new _ _
       refine hK.out _ _ ⟨⟨cell_of_block h9 rfl, cell_of_block h9 rfl⟩, h10⟩ (fun _ => ?_)
       clear hK K
       generalize wz167.alloc (.cells (numA false (dig 0)) 29) = wz190 at *
       refine wpAnyH_ready (rs := [3]) (by kernel_rfl) (by simp) ?_
       refine AllReadyH.cons (o := ⟨some 38, _, _, _, _, _⟩) rfl (fun K hK => ?_) AllReadyH.nil
       rw [if_pos (by rfl)]
       go_wp2_with fail
       replace kk := kk.alloc (.cells #[.int .i64 (Z / 18446744073709551616), .int .u64 (Z % 18446744073709551616), .int .i64 (e / 18446744073709551616), .int .u64 (e % 18446744073709551616)] 25)
       replace h9 := heap_alloc_held h9 (.cells #[.int .i64 (Z / 18446744073709551616), .int .u64 (Z % 18446744073709551616), .int .i64 (e / 18446744073709551616), .int .u64 (e % 18446744073709551616)] 25)
       replace h10 := heap_alloc_held h10 (.cells #[.int .i64 (Z / 18446744073709551616), .int .u64 (Z % 18446744073709551616), .int .i64 (e / 18446744073709551616), .int .u64 (e % 18446744073709551616)] 25)
       replace a11 := heap_alloc_held a11 (.cells #[.int .i64 (Z / 18446744073709551616), .int .u64 (Z % 18446744073709551616), .int .i64 (e / 18446744073709551616), .int .u64 (e % 18446744073709551616)] 25)
       replace a12 := heap_alloc_held a12 (.cells #[.int .i64 (Z / 18446744073709551616), .int .u64 (Z % 18446744073709551616), .int .i64 (e / 18446744073709551616), .int .u64 (e % 18446744073709551616)] 25)
       have hs : NumsAt (wz190.alloc (.cells #[.int .i64 (Z / 18446744073709551616), .int .u64 (Z % 18446744073709551616), .int .i64 (e / 18446744073709551616), .int .u64 (e % 18446744073709551616)] 25)) wz190.heap.size [Z, e] := nums2 wz190 Z e
       refine hK.out _ _ ⟨⟨cell_of_block h9 rfl, cell_of_block h9 rfl⟩, h10⟩ (fun _ => ?_)
       clear hK K
       generalize wz190.alloc (.cells #[.int .i64 (Z / 18446744073709551616), .int .u64 (Z % 18446744073709551616), .int .i64 (e / 18446744073709551616), .int .u64 (e % 18446744073709551616)] 25) = wz191 at *
       refine wpAnyH_ready (rs := [4]) (by kernel_rfl) (by simp) ?_
       refine AllReadyH.cons (o := ⟨some 39, _, _, _, _, _⟩) rfl (fun K hK => ?_) AllReadyH.nil
       rw [if_pos (by rfl)]
       refine wp_call_go1 14 _ _ rfl (.slice (some ⟨wz190.heap.size, 0, none⟩) 2 2) rfl (Try.call14 _) (v := .agg #[.int .i64 (T / 18446744073709551616), .int .u64 (T % 18446744073709551616)]) (ADC.out _ _ hs) (fun wz192 ka => ?_)
       clear hs
       replace kk := kk.trans0 ka
       replace h9 := ka.held h9 (by simp)
       replace h10 := ka.held h10 (by simp)
       replace a11 := ka.held a11 (by simp)
       replace a12 := ka.held a12 (by simp)
       refine hK.out _ _ ⟨⟨cell_of_block h9 rfl, cell_of_block h9 rfl⟩, h10⟩ (fun _ => ?_)
       clear hK K ka
       simp only [Act.put, List.setIfInBounds_toArray, List.set_cons_zero, List.set_cons_succ]
       refine wpAnyH_ready (rs := [7]) (by kernel_rfl) (by simp) ?_
       refine AllReadyH.cons (o := ⟨some 42, _, _, _, _, _⟩) rfl (fun K hK => ?_) AllReadyH.nil
       rw [if_pos (by rfl)]
       refine wp_call_go1 13 _ _ rfl (.int .i64 e) rfl (Try.call13 _) (v := .agg (numA me (dig xe))) (ROC.out _) (fun wz193 ka => ?_)
       replace kk := kk.trans0 ka
       replace h9 := ka.held h9 (by simp)
       replace h10 := ka.held h10 (by simp)
       replace a11 := ka.held a11 (by simp)
       replace a12 := ka.held a12 (by simp)
       refine hK.out _ _ ⟨⟨cell_of_block h9 rfl, cell_of_block h9 rfl⟩, h10⟩ (fun _ => ?_)
       clear hK K ka
       simp only [Act.put, List.setIfInBounds_toArray, List.set_cons_zero, List.set_cons_succ]
       refine wpAnyH_ready (rs := [8]) (by kernel_rfl) (by simp) ?_
       refine AllReadyH.cons (o := ⟨some 43, _, _, _, _, _⟩) rfl (fun K hK => ?_) AllReadyH.nil
       rw [if_pos (by rfl)]
       refine wp_call_go 15 _ _ _ rfl (.agg (numA mz (dig xz))) (.agg (numA me (dig xe))) rfl rfl (Try.call15 _) (v := .agg (numA ms (dig xs))) (RAC.out _) (fun wz194 ka => ?_)
       replace kk := kk.trans0 ka
       replace h9 := ka.held h9 (by simp)
       replace h10 := ka.held h10 (by simp)
       replace a11 := ka.held a11 (by simp)
       replace a12 := ka.held a12 (by simp)
       refine hK.out _ _ ⟨⟨cell_of_block h9 rfl, cell_of_block h9 rfl⟩, h10⟩ (fun _ => ?_)
       clear hK K ka
       simp only [Act.put, List.setIfInBounds_toArray, List.set_cons_zero, List.set_cons_succ]
       refine wpAnyH_ready (rs := [11]) (by kernel_rfl) (by simp) ?_
       refine AllReadyH.cons (o := ⟨none, _, _, _, _, _⟩) rfl (fun K hK => ?_) AllReadyH.nil
       rw [if_pos (by rfl)]
       refine wp_store_row _ _ _ rfl (w4.heap.size) #[.int .i64 (T / 18446744073709551616), .int .u64 (T % 18446744073709551616)] rfl rfl _ #[.int .i64 0, .int .u64 0] a11 infoW rfl (two_one _ _) ?_
       obtain ⟨kk, h9, h10, a11, a12⟩ := set_t kk h9 h10 a11 a12 T (by omega)
       refine hK.out _ _ ⟨⟨cell_of_block h9 rfl, cell_of_block h9 rfl⟩, h10⟩ (fun _ => ?_)
       clear hK K
       generalize wz194.setRow (w4.heap.size) #[.int .i64 (T / 18446744073709551616), .int .u64 (T % 18446744073709551616)] = wz195 at *
       refine wpAnyH_ready (rs := [12]) (by kernel_rfl) (by simp) ?_
       refine AllReadyH.cons (o := ⟨none, _, _, _, _, _⟩) rfl (fun K hK => ?_) AllReadyH.nil
       rw [if_pos (by rfl)]
       refine wp_store_row _ _ _ rfl (wz167.heap.size) (numA ms (dig xs)) rfl rfl _ (numA false (dig 0)) a12 (by rw [numA_size]; exact infoNum) (by rw [numA_size, numA_size]) (numA_one _ _) ?_
       obtain ⟨kk, h9, h10, a11, a12⟩ := set_s kk h9 h10 a11 a12 ms xs (by omega)
       refine hK.out _ _ ⟨⟨cell_of_block h9 rfl, cell_of_block h9 rfl⟩, h10⟩ (fun _ => ?_)
       clear hK K
       refine wpAnyH_done (by kernel_rfl) ?_ _
       simp only [Act.put]
       go_wp2_with fail
       go_meet
       exact ⟨w4.heap.size, wz167.heap.size, rfl, rfl, ⟨kk, h10, a11, a12⟩⟩
     ·rw [if_pos (by rfl)]
      have l12 : w.heap.size ≤ wz166.heap.size := kk.size
      have o12 : G9 < wz166.heap.size ∧ G10 < wz166.heap.size := ⟨lt_of_block h9, lt_of_block h10⟩
      have ne12 : w4.heap.size ≠ wz166.heap.size := by have := lt_of_block a11; omega
      go_wp2_with fail
      simp only [nzeros_eq]
      replace kk := kk.alloc (.cells (numA false (dig 0)) 29)
      replace h9 := heap_alloc_held h9 (.cells (numA false (dig 0)) 29)
      replace h10 := heap_alloc_held h10 (.cells (numA false (dig 0)) 29)
      replace a11 := heap_alloc_held a11 (.cells (numA false (dig 0)) 29)
      have a12 : NumAt (wz166.alloc (.cells (numA false (dig 0)) 29)) wz166.heap.size false (dig 0) := heap_alloc_new _ _
      refine hK.out _ _ ⟨⟨cell_of_block h9 rfl, cell_of_block h9 rfl⟩, h10⟩ (fun _ => ?_)
      clear hK K
      generalize wz166.alloc (.cells (numA false (dig 0)) 29) = wz197 at *
      refine wpAnyH_ready (rs := [2]) (by kernel_rfl) (by simp) ?_
      refine AllReadyH.cons (o := ⟨some 37, _, _, _, _, _⟩) rfl (fun K hK => ?_) AllReadyH.nil
      rw [if_pos (by rfl)]
      refine wp_call_go1 12 _ _ rfl (.int .i64 e) rfl (Try.call12 _) (v := .agg #[.int .i64 (e / 18446744073709551616), .int .u64 (e % 18446744073709551616)]) (OFC.out _) (fun wz198 ka => ?_)
      replace kk := kk.trans0 ka
      replace h9 := ka.held h9 (by simp)
      replace h10 := ka.held h10 (by simp)
      replace a11 := ka.held a11 (by simp)
      replace a12 := ka.held a12 (by simp)
      refine hK.out _ _ ⟨⟨cell_of_block h9 rfl, cell_of_block h9 rfl⟩, h10⟩ (fun _ => ?_)
      clear hK K ka
      simp only [Act.put, List.setIfInBounds_toArray, List.set_cons_zero, List.set_cons_succ]
      refine wpAnyH_ready (rs := [3]) (by kernel_rfl) (by simp) ?_
      refine AllReadyH.cons (o := ⟨some 38, _, _, _, _, _⟩) rfl (fun K hK => ?_) AllReadyH.nil
      rw [if_pos (by rfl)]
      go_wp2_with fail
      replace kk := kk.alloc (.cells #[.int .i64 (Z / 18446744073709551616), .int .u64 (Z % 18446744073709551616), .int .i64 (e / 18446744073709551616), .int .u64 (e % 18446744073709551616)] 25)
      replace h9 := heap_alloc_held h9 (.cells #[.int .i64 (Z / 18446744073709551616), .int .u64 (Z % 18446744073709551616), .int .i64 (e / 18446744073709551616), .int .u64 (e % 18446744073709551616)] 25)
      replace h10 := heap_alloc_held h10 (.cells #[.int .i64 (Z / 18446744073709551616), .int .u64 (Z % 18446744073709551616), .int .i64 (e / 18446744073709551616), .int .u64 (e % 18446744073709551616)] 25)
      replace a11 := heap_alloc_held a11 (.cells #[.int .i64 (Z / 18446744073709551616), .int .u64 (Z % 18446744073709551616), .int .i64 (e / 18446744073709551616), .int .u64 (e % 18446744073709551616)] 25)
      replace a12 := heap_alloc_held a12 (.cells #[.int .i64 (Z / 18446744073709551616), .int .u64 (Z % 18446744073709551616), .int .i64 (e / 18446744073709551616), .int .u64 (e % 18446744073709551616)] 25)
      have hs : NumsAt (wz198.alloc (.cells #[.int .i64 (Z / 18446744073709551616), .int .u64 (Z % 18446744073709551616), .int .i64 (e / 18446744073709551616), .int .u64 (e % 18446744073709551616)] 25)) wz198.heap.size [Z, e] := nums2 wz198 Z e
      refine hK.out _ _ ⟨⟨cell_of_block h9 rfl, cell_of_block h9 rfl⟩, h10⟩ (fun _ => ?_)
      clear hK K
      generalize wz198.alloc (.cells #[.int .i64 (Z / 18446744073709551616), .int .u64 (Z % 18446744073709551616), .int .i64 (e / 18446744073709551616), .int .u64 (e % 18446744073709551616)] 25) = wz199 at *
      refine wpAnyH_ready (rs := [4]) (by kernel_rfl) (by simp) ?_
      refine AllReadyH.cons (o := ⟨some 39, _, _, _, _, _⟩) rfl (fun K hK => ?_) AllReadyH.nil
      rw [if_pos (by rfl)]
      refine wp_call_go1 14 _ _ rfl (.slice (some ⟨wz198.heap.size, 0, none⟩) 2 2) rfl (Try.call14 _) (v := .agg #[.int .i64 (T / 18446744073709551616), .int .u64 (T % 18446744073709551616)]) (ADC.out _ _ hs) (fun wz200 ka => ?_)
      clear hs
      replace kk := kk.trans0 ka
      replace h9 := ka.held h9 (by simp)
      replace h10 := ka.held h10 (by simp)
      replace a11 := ka.held a11 (by simp)
      replace a12 := ka.held a12 (by simp)
      refine hK.out _ _ ⟨⟨cell_of_block h9 rfl, cell_of_block h9 rfl⟩, h10⟩ (fun _ => ?_)
      clear hK K ka
      simp only [Act.put, List.setIfInBounds_toArray, List.set_cons_zero, List.set_cons_succ]
      refine wpAnyH_ready (rs := [7]) (by kernel_rfl) (by simp) ?_
      refine AllReadyH.cons (o := ⟨some 42, _, _, _, _, _⟩) rfl (fun K hK => ?_) AllReadyH.nil
      rw [if_pos (by rfl)]
      refine wp_call_go1 13 _ _ rfl (.int .i64 e) rfl (Try.call13 _) (v := .agg (numA me (dig xe))) (ROC.out _) (fun wz201 ka => ?_)
      replace kk := kk.trans0 ka
      replace h9 := ka.held h9 (by simp)
      replace h10 := ka.held h10 (by simp)
      replace a11 := ka.held a11 (by simp)
      replace a12 := ka.held a12 (by simp)
      refine hK.out _ _ ⟨⟨cell_of_block h9 rfl, cell_of_block h9 rfl⟩, h10⟩ (fun _ => ?_)
      clear hK K ka
      simp only [Act.put, List.setIfInBounds_toArray, List.set_cons_zero, List.set_cons_succ]
      refine wpAnyH_ready (rs := [8]) (by kernel_rfl) (by simp) ?_
      refine AllReadyH.cons (o := ⟨some 43, _, _, _, _, _⟩) rfl (fun K hK => ?_) AllReadyH.nil
      rw [if_pos (by rfl)]
      refine wp_call_go 15 _ _ _ rfl (.agg (numA mz (dig xz))) (.agg (numA me (dig xe))) rfl rfl (Try.call15 _) (v := .agg (numA ms (dig xs))) (RAC.out _) (fun wz202 ka => ?_)
      replace kk := kk.trans0 ka
      replace h9 := ka.held h9 (by simp)
      replace h10 := ka.held h10 (by simp)
      replace a11 := ka.held a11 (by simp)
      replace a12 := ka.held a12 (by simp)
      refine hK.out _ _ ⟨⟨cell_of_block h9 rfl, cell_of_block h9 rfl⟩, h10⟩ (fun _ => ?_)
      clear hK K ka
      simp only [Act.put, List.setIfInBounds_toArray, List.set_cons_zero, List.set_cons_succ]
      refine wpAnyH_ready (rs := [11]) (by kernel_rfl) (by simp) ?_
      refine AllReadyH.cons (o := ⟨none, _, _, _, _, _⟩) rfl (fun K hK => ?_) AllReadyH.nil
      rw [if_pos (by rfl)]
      refine wp_store_row _ _ _ rfl (w4.heap.size) #[.int .i64 (T / 18446744073709551616), .int .u64 (T % 18446744073709551616)] rfl rfl _ #[.int .i64 0, .int .u64 0] a11 infoW rfl (two_one _ _) ?_
      obtain ⟨kk, h9, h10, a11, a12⟩ := set_t kk h9 h10 a11 a12 T (by omega)
      refine hK.out _ _ ⟨⟨cell_of_block h9 rfl, cell_of_block h9 rfl⟩, h10⟩ (fun _ => ?_)
      clear hK K
      generalize wz202.setRow (w4.heap.size) #[.int .i64 (T / 18446744073709551616), .int .u64 (T % 18446744073709551616)] = wz203 at *
      refine wpAnyH_ready (rs := [12]) (by kernel_rfl) (by simp) ?_
      refine AllReadyH.cons (o := ⟨none, _, _, _, _, _⟩) rfl (fun K hK => ?_) AllReadyH.nil
      rw [if_pos (by rfl)]
      refine wp_store_row _ _ _ rfl (wz166.heap.size) (numA ms (dig xs)) rfl rfl _ (numA false (dig 0)) a12 (by rw [numA_size]; exact infoNum) (by rw [numA_size, numA_size]) (numA_one _ _) ?_
      obtain ⟨kk, h9, h10, a11, a12⟩ := set_s kk h9 h10 a11 a12 ms xs (by omega)
      refine hK.out _ _ ⟨⟨cell_of_block h9 rfl, cell_of_block h9 rfl⟩, h10⟩ (fun _ => ?_)
      clear hK K
      refine wpAnyH_done (by kernel_rfl) ?_ _
      simp only [Act.put]
      go_wp2_with fail
      go_meet
      exact ⟨w4.heap.size, wz166.heap.size, rfl, rfl, ⟨kk, h10, a11, a12⟩⟩
    ·rw [if_pos (by rfl)]
     have l12 : w.heap.size ≤ w4.heap.size := kk.size
     have o12 : G9 < w4.heap.size ∧ G10 < w4.heap.size := ⟨lt_of_block h9, lt_of_block h10⟩
     go_wp2_with fail
     simp only [nzeros_eq]
     replace kk := kk.alloc (.cells (numA false (dig 0)) 29)
     replace h9 := heap_alloc_held h9 (.cells (numA false (dig 0)) 29)
     replace h10 := heap_alloc_held h10 (.cells (numA false (dig 0)) 29)
     have a12 : NumAt (w4.alloc (.cells (numA false (dig 0)) 29)) w4.heap.size false (dig 0) := heap_alloc_new _ _
     refine hK.out _ _ ⟨⟨cell_of_block h9 rfl, cell_of_block h9 rfl⟩, h10⟩ (fun _ => ?_)
     clear hK K
     generalize w4.alloc (.cells (numA false (dig 0)) 29) = wz205 at *
     refine wpAnyH_ready (rs := [2, 9]) (by kernel_rfl) (by simp) ?_
     refine AllReadyH.cons (o := ⟨some 37, _, _, _, _, _⟩) rfl (fun K hK => ?_) (AllReadyH.cons (o := ⟨some 11, _, _, _, _, _⟩) rfl (fun K hK => ?_) AllReadyH.nil)
     ·rw [if_pos (by rfl)]
      refine wp_call_go1 12 _ _ rfl (.int .i64 e) rfl (Try.call12 _) (v := .agg #[.int .i64 (e / 18446744073709551616), .int .u64 (e % 18446744073709551616)]) (OFC.out _) (fun wz206 ka => ?_)
      replace kk := kk.trans0 ka
      replace h9 := ka.held h9 (by simp)
      replace h10 := ka.held h10 (by simp)
      replace a12 := ka.held a12 (by simp)
      refine hK.out _ _ ⟨⟨cell_of_block h9 rfl, cell_of_block h9 rfl⟩, h10⟩ (fun _ => ?_)
      clear hK K ka
      simp only [Act.put, List.setIfInBounds_toArray, List.set_cons_zero, List.set_cons_succ]
      refine wpAnyH_ready (rs := [3, 9]) (by kernel_rfl) (by simp) ?_
      refine AllReadyH.cons (o := ⟨some 38, _, _, _, _, _⟩) rfl (fun K hK => ?_) (AllReadyH.cons (o := ⟨some 11, _, _, _, _, _⟩) rfl (fun K hK => ?_) AllReadyH.nil)
      ·rw [if_pos (by rfl)]
       go_wp2_with fail
       replace kk := kk.alloc (.cells #[.int .i64 (Z / 18446744073709551616), .int .u64 (Z % 18446744073709551616), .int .i64 (e / 18446744073709551616), .int .u64 (e % 18446744073709551616)] 25)
       replace h9 := heap_alloc_held h9 (.cells #[.int .i64 (Z / 18446744073709551616), .int .u64 (Z % 18446744073709551616), .int .i64 (e / 18446744073709551616), .int .u64 (e % 18446744073709551616)] 25)
       replace h10 := heap_alloc_held h10 (.cells #[.int .i64 (Z / 18446744073709551616), .int .u64 (Z % 18446744073709551616), .int .i64 (e / 18446744073709551616), .int .u64 (e % 18446744073709551616)] 25)
       replace a12 := heap_alloc_held a12 (.cells #[.int .i64 (Z / 18446744073709551616), .int .u64 (Z % 18446744073709551616), .int .i64 (e / 18446744073709551616), .int .u64 (e % 18446744073709551616)] 25)
       have hs : NumsAt (wz206.alloc (.cells #[.int .i64 (Z / 18446744073709551616), .int .u64 (Z % 18446744073709551616), .int .i64 (e / 18446744073709551616), .int .u64 (e % 18446744073709551616)] 25)) wz206.heap.size [Z, e] := nums2 wz206 Z e
       refine hK.out _ _ ⟨⟨cell_of_block h9 rfl, cell_of_block h9 rfl⟩, h10⟩ (fun _ => ?_)
       clear hK K
       generalize wz206.alloc (.cells #[.int .i64 (Z / 18446744073709551616), .int .u64 (Z % 18446744073709551616), .int .i64 (e / 18446744073709551616), .int .u64 (e % 18446744073709551616)] 25) = wz207 at *
       refine wpAnyH_ready (rs := [4, 9]) (by kernel_rfl) (by simp) ?_
       refine AllReadyH.cons (o := ⟨some 39, _, _, _, _, _⟩) rfl (fun K hK => ?_) (AllReadyH.cons (o := ⟨some 11, _, _, _, _, _⟩) rfl (fun K hK => ?_) AllReadyH.nil)
       ·rw [if_pos (by rfl)]
        refine wp_call_go1 14 _ _ rfl (.slice (some ⟨wz206.heap.size, 0, none⟩) 2 2) rfl (Try.call14 _) (v := .agg #[.int .i64 (T / 18446744073709551616), .int .u64 (T % 18446744073709551616)]) (ADC.out _ _ hs) (fun wz208 ka => ?_)
        clear hs
        replace kk := kk.trans0 ka
        replace h9 := ka.held h9 (by simp)
        replace h10 := ka.held h10 (by simp)
        replace a12 := ka.held a12 (by simp)
        refine hK.out _ _ ⟨⟨cell_of_block h9 rfl, cell_of_block h9 rfl⟩, h10⟩ (fun _ => ?_)
        clear hK K ka
        simp only [Act.put, List.setIfInBounds_toArray, List.set_cons_zero, List.set_cons_succ]
        refine wpAnyH_ready (rs := [7, 9]) (by kernel_rfl) (by simp) ?_
        refine AllReadyH.cons (o := ⟨some 42, _, _, _, _, _⟩) rfl (fun K hK => ?_) (AllReadyH.cons (o := ⟨some 11, _, _, _, _, _⟩) rfl (fun K hK => ?_) AllReadyH.nil)
        ·rw [if_pos (by rfl)]
         refine wp_call_go1 13 _ _ rfl (.int .i64 e) rfl (Try.call13 _) (v := .agg (numA me (dig xe))) (ROC.out _) (fun wz209 ka => ?_)
         replace kk := kk.trans0 ka
         replace h9 := ka.held h9 (by simp)
         replace h10 := ka.held h10 (by simp)
         replace a12 := ka.held a12 (by simp)
         refine hK.out _ _ ⟨⟨cell_of_block h9 rfl, cell_of_block h9 rfl⟩, h10⟩ (fun _ => ?_)
         clear hK K ka
         simp only [Act.put, List.setIfInBounds_toArray, List.set_cons_zero, List.set_cons_succ]
         refine wpAnyH_ready (rs := [8, 9]) (by kernel_rfl) (by simp) ?_
         refine AllReadyH.cons (o := ⟨some 43, _, _, _, _, _⟩) rfl (fun K hK => ?_) (AllReadyH.cons (o := ⟨some 11, _, _, _, _, _⟩) rfl (fun K hK => ?_) AllReadyH.nil)
         ·rw [if_pos (by rfl)]
          refine wp_call_go 15 _ _ _ rfl (.agg (numA mz (dig xz))) (.agg (numA me (dig xe))) rfl rfl (Try.call15 _) (v := .agg (numA ms (dig xs))) (RAC.out _) (fun wz210 ka => ?_)
          replace kk := kk.trans0 ka
          replace h9 := ka.held h9 (by simp)
          replace h10 := ka.held h10 (by simp)
          replace a12 := ka.held a12 (by simp)
          refine hK.out _ _ ⟨⟨cell_of_block h9 rfl, cell_of_block h9 rfl⟩, h10⟩ (fun _ => ?_)
          clear hK K ka
          simp only [Act.put, List.setIfInBounds_toArray, List.set_cons_zero, List.set_cons_succ]
          refine wpAnyH_ready (rs := [9]) (by kernel_rfl) (by simp) ?_
          refine AllReadyH.cons (o := ⟨some 11, _, _, _, _, _⟩) rfl (fun K hK => ?_) AllReadyH.nil
          rw [if_pos (by rfl)]
          have l11 : w.heap.size ≤ wz210.heap.size := kk.size
          have o11 : G9 < wz210.heap.size ∧ G10 < wz210.heap.size := ⟨lt_of_block h9, lt_of_block h10⟩
          have ne12 : wz210.heap.size ≠ w4.heap.size := by have := lt_of_block a12; omega
          go_wp2_with fail
          replace kk := kk.alloc (.cells #[.int .i64 0, .int .u64 0] 25)
          replace h9 := heap_alloc_held h9 (.cells #[.int .i64 0, .int .u64 0] 25)
          replace h10 := heap_alloc_held h10 (.cells #[.int .i64 0, .int .u64 0] 25)
          replace a12 := heap_alloc_held a12 (.cells #[.int .i64 0, .int .u64 0] 25)
          have a11 : (wz210.alloc (.cells #[.int .i64 0, .int .u64 0] 25)).heap[wz210.heap.size]? = some (.cells #[.int .i64 0, .int .u64 0] 25 (0, 0)) := heap_alloc_new _ _
          refine hK.out _ _ ⟨⟨cell_of_block h9 rfl, cell_of_block h9 rfl⟩, h10⟩ (fun _ => ?_)
          clear hK K
          generalize wz210.alloc (.cells #[.int .i64 0, .int .u64 0] 25) = wz211 at *
          refine wpAnyH_ready (rs := [11]) (by kernel_rfl) (by simp) ?_
          refine AllReadyH.cons (o := ⟨none, _, _, _, _, _⟩) rfl (fun K hK => ?_) AllReadyH.nil
          rw [if_pos (by rfl)]
          refine wp_store_row _ _ _ rfl (wz210.heap.size) #[.int .i64 (T / 18446744073709551616), .int .u64 (T % 18446744073709551616)] rfl rfl _ #[.int .i64 0, .int .u64 0] a11 infoW rfl (two_one _ _) ?_
          obtain ⟨kk, h9, h10, a11, a12⟩ := set_t kk h9 h10 a11 a12 T (by omega)
          refine hK.out _ _ ⟨⟨cell_of_block h9 rfl, cell_of_block h9 rfl⟩, h10⟩ (fun _ => ?_)
          clear hK K
          generalize wz211.setRow (wz210.heap.size) #[.int .i64 (T / 18446744073709551616), .int .u64 (T % 18446744073709551616)] = wz212 at *
          refine wpAnyH_ready (rs := [12]) (by kernel_rfl) (by simp) ?_
          refine AllReadyH.cons (o := ⟨none, _, _, _, _, _⟩) rfl (fun K hK => ?_) AllReadyH.nil
          rw [if_pos (by rfl)]
          refine wp_store_row _ _ _ rfl (w4.heap.size) (numA ms (dig xs)) rfl rfl _ (numA false (dig 0)) a12 (by rw [numA_size]; exact infoNum) (by rw [numA_size, numA_size]) (numA_one _ _) ?_
          obtain ⟨kk, h9, h10, a11, a12⟩ := set_s kk h9 h10 a11 a12 ms xs (by omega)
          refine hK.out _ _ ⟨⟨cell_of_block h9 rfl, cell_of_block h9 rfl⟩, h10⟩ (fun _ => ?_)
          clear hK K
          refine wpAnyH_done (by kernel_rfl) ?_ _
          simp only [Act.put]
          go_wp2_with fail
          go_meet
          exact ⟨wz210.heap.size, w4.heap.size, rfl, rfl, ⟨kk, h10, a11, a12⟩⟩
         ·rw [if_pos (by rfl)]
          have l11 : w.heap.size ≤ wz209.heap.size := kk.size
          have o11 : G9 < wz209.heap.size ∧ G10 < wz209.heap.size := ⟨lt_of_block h9, lt_of_block h10⟩
          have ne12 : wz209.heap.size ≠ w4.heap.size := by have := lt_of_block a12; omega
          go_wp2_with fail
          replace kk := kk.alloc (.cells #[.int .i64 0, .int .u64 0] 25)
          replace h9 := heap_alloc_held h9 (.cells #[.int .i64 0, .int .u64 0] 25)
          replace h10 := heap_alloc_held h10 (.cells #[.int .i64 0, .int .u64 0] 25)
          replace a12 := heap_alloc_held a12 (.cells #[.int .i64 0, .int .u64 0] 25)
          have a11 : (wz209.alloc (.cells #[.int .i64 0, .int .u64 0] 25)).heap[wz209.heap.size]? = some (.cells #[.int .i64 0, .int .u64 0] 25 (0, 0)) := heap_alloc_new _ _
          refine hK.out _ _ ⟨⟨cell_of_block h9 rfl, cell_of_block h9 rfl⟩, h10⟩ (fun _ => ?_)
          clear hK K
          generalize wz209.alloc (.cells #[.int .i64 0, .int .u64 0] 25) = wz214 at *
          refine wpAnyH_ready (rs := [8]) (by kernel_rfl) (by simp) ?_
          refine AllReadyH.cons (o := ⟨some 43, _, _, _, _, _⟩) rfl (fun K hK => ?_) AllReadyH.nil
          rw [if_pos (by rfl)]
          refine wp_call_go 15 _ _ _ rfl (.agg (numA mz (dig xz))) (.agg (numA me (dig xe))) rfl rfl (Try.call15 _) (v := .agg (numA ms (dig xs))) (RAC.out _) (fun wz215 ka => ?_)
          replace kk := kk.trans0 ka
          replace h9 := ka.held h9 (by simp)
          replace h10 := ka.held h10 (by simp)
          replace a11 := ka.held a11 (by simp)
          replace a12 := ka.held a12 (by simp)
          refine hK.out _ _ ⟨⟨cell_of_block h9 rfl, cell_of_block h9 rfl⟩, h10⟩ (fun _ => ?_)
          clear hK K ka
          simp only [Act.put, List.setIfInBounds_toArray, List.set_cons_zero, List.set_cons_succ]
          refine wpAnyH_ready (rs := [11]) (by kernel_rfl) (by simp) ?_
          refine AllReadyH.cons (o := ⟨none, _, _, _, _, _⟩) rfl (fun K hK => ?_) AllReadyH.nil
          rw [if_pos (by rfl)]
          refine wp_store_row _ _ _ rfl (wz209.heap.size) #[.int .i64 (T / 18446744073709551616), .int .u64 (T % 18446744073709551616)] rfl rfl _ #[.int .i64 0, .int .u64 0] a11 infoW rfl (two_one _ _) ?_
          obtain ⟨kk, h9, h10, a11, a12⟩ := set_t kk h9 h10 a11 a12 T (by omega)
          refine hK.out _ _ ⟨⟨cell_of_block h9 rfl, cell_of_block h9 rfl⟩, h10⟩ (fun _ => ?_)
          clear hK K
          generalize wz215.setRow (wz209.heap.size) #[.int .i64 (T / 18446744073709551616), .int .u64 (T % 18446744073709551616)] = wz216 at *
          refine wpAnyH_ready (rs := [12]) (by kernel_rfl) (by simp) ?_
          refine AllReadyH.cons (o := ⟨none, _, _, _, _, _⟩) rfl (fun K hK => ?_) AllReadyH.nil
          rw [if_pos (by rfl)]
          refine wp_store_row _ _ _ rfl (w4.heap.size) (numA ms (dig xs)) rfl rfl _ (numA false (dig 0)) a12 (by rw [numA_size]; exact infoNum) (by rw [numA_size, numA_size]) (numA_one _ _) ?_
          obtain ⟨kk, h9, h10, a11, a12⟩ := set_s kk h9 h10 a11 a12 ms xs (by omega)
          refine hK.out _ _ ⟨⟨cell_of_block h9 rfl, cell_of_block h9 rfl⟩, h10⟩ (fun _ => ?_)
          clear hK K
          refine wpAnyH_done (by kernel_rfl) ?_ _
          simp only [Act.put]
          go_wp2_with fail
          go_meet
          exact ⟨wz209.heap.size, w4.heap.size, rfl, rfl, ⟨kk, h10, a11, a12⟩⟩
        ·rw [if_pos (by rfl)]
         have l11 : w.heap.size ≤ wz208.heap.size := kk.size
         have o11 : G9 < wz208.heap.size ∧ G10 < wz208.heap.size := ⟨lt_of_block h9, lt_of_block h10⟩
         have ne12 : wz208.heap.size ≠ w4.heap.size := by have := lt_of_block a12; omega
         go_wp2_with fail
         replace kk := kk.alloc (.cells #[.int .i64 0, .int .u64 0] 25)
         replace h9 := heap_alloc_held h9 (.cells #[.int .i64 0, .int .u64 0] 25)
         replace h10 := heap_alloc_held h10 (.cells #[.int .i64 0, .int .u64 0] 25)
         replace a12 := heap_alloc_held a12 (.cells #[.int .i64 0, .int .u64 0] 25)
         have a11 : (wz208.alloc (.cells #[.int .i64 0, .int .u64 0] 25)).heap[wz208.heap.size]? = some (.cells #[.int .i64 0, .int .u64 0] 25 (0, 0)) := heap_alloc_new _ _
         refine hK.out _ _ ⟨⟨cell_of_block h9 rfl, cell_of_block h9 rfl⟩, h10⟩ (fun _ => ?_)
         clear hK K
         generalize wz208.alloc (.cells #[.int .i64 0, .int .u64 0] 25) = wz218 at *
         refine wpAnyH_ready (rs := [7]) (by kernel_rfl) (by simp) ?_
         refine AllReadyH.cons (o := ⟨some 42, _, _, _, _, _⟩) rfl (fun K hK => ?_) AllReadyH.nil
         rw [if_pos (by rfl)]
         refine wp_call_go1 13 _ _ rfl (.int .i64 e) rfl (Try.call13 _) (v := .agg (numA me (dig xe))) (ROC.out _) (fun wz219 ka => ?_)
         replace kk := kk.trans0 ka
         replace h9 := ka.held h9 (by simp)
         replace h10 := ka.held h10 (by simp)
         replace a11 := ka.held a11 (by simp)
         replace a12 := ka.held a12 (by simp)
         refine hK.out _ _ ⟨⟨cell_of_block h9 rfl, cell_of_block h9 rfl⟩, h10⟩ (fun _ => ?_)
         clear hK K ka
         simp only [Act.put, List.setIfInBounds_toArray, List.set_cons_zero, List.set_cons_succ]
         refine wpAnyH_ready (rs := [8]) (by kernel_rfl) (by simp) ?_
         refine AllReadyH.cons (o := ⟨some 43, _, _, _, _, _⟩) rfl (fun K hK => ?_) AllReadyH.nil
         rw [if_pos (by rfl)]
         refine wp_call_go 15 _ _ _ rfl (.agg (numA mz (dig xz))) (.agg (numA me (dig xe))) rfl rfl (Try.call15 _) (v := .agg (numA ms (dig xs))) (RAC.out _) (fun wz220 ka => ?_)
         replace kk := kk.trans0 ka
         replace h9 := ka.held h9 (by simp)
         replace h10 := ka.held h10 (by simp)
         replace a11 := ka.held a11 (by simp)
         replace a12 := ka.held a12 (by simp)
         refine hK.out _ _ ⟨⟨cell_of_block h9 rfl, cell_of_block h9 rfl⟩, h10⟩ (fun _ => ?_)
         clear hK K ka
         simp only [Act.put, List.setIfInBounds_toArray, List.set_cons_zero, List.set_cons_succ]
         refine wpAnyH_ready (rs := [11]) (by kernel_rfl) (by simp) ?_
         refine AllReadyH.cons (o := ⟨none, _, _, _, _, _⟩) rfl (fun K hK => ?_) AllReadyH.nil
         rw [if_pos (by rfl)]
         refine wp_store_row _ _ _ rfl (wz208.heap.size) #[.int .i64 (T / 18446744073709551616), .int .u64 (T % 18446744073709551616)] rfl rfl _ #[.int .i64 0, .int .u64 0] a11 infoW rfl (two_one _ _) ?_
         obtain ⟨kk, h9, h10, a11, a12⟩ := set_t kk h9 h10 a11 a12 T (by omega)
         refine hK.out _ _ ⟨⟨cell_of_block h9 rfl, cell_of_block h9 rfl⟩, h10⟩ (fun _ => ?_)
         clear hK K
         generalize wz220.setRow (wz208.heap.size) #[.int .i64 (T / 18446744073709551616), .int .u64 (T % 18446744073709551616)] = wz221 at *
         refine wpAnyH_ready (rs := [12]) (by kernel_rfl) (by simp) ?_
         refine AllReadyH.cons (o := ⟨none, _, _, _, _, _⟩) rfl (fun K hK => ?_) AllReadyH.nil
         rw [if_pos (by rfl)]
         refine wp_store_row _ _ _ rfl (w4.heap.size) (numA ms (dig xs)) rfl rfl _ (numA false (dig 0)) a12 (by rw [numA_size]; exact infoNum) (by rw [numA_size, numA_size]) (numA_one _ _) ?_
         obtain ⟨kk, h9, h10, a11, a12⟩ := set_s kk h9 h10 a11 a12 ms xs (by omega)
         refine hK.out _ _ ⟨⟨cell_of_block h9 rfl, cell_of_block h9 rfl⟩, h10⟩ (fun _ => ?_)
         clear hK K
         refine wpAnyH_done (by kernel_rfl) ?_ _
         simp only [Act.put]
         go_wp2_with fail
         go_meet
         exact ⟨wz208.heap.size, w4.heap.size, rfl, rfl, ⟨kk, h10, a11, a12⟩⟩
       ·rw [if_pos (by rfl)]
        have l11 : w.heap.size ≤ wz207.heap.size := kk.size
        have o11 : G9 < wz207.heap.size ∧ G10 < wz207.heap.size := ⟨lt_of_block h9, lt_of_block h10⟩
        have ne12 : wz207.heap.size ≠ w4.heap.size := by have := lt_of_block a12; omega
        go_wp2_with fail
        replace kk := kk.alloc (.cells #[.int .i64 0, .int .u64 0] 25)
        replace h9 := heap_alloc_held h9 (.cells #[.int .i64 0, .int .u64 0] 25)
        replace h10 := heap_alloc_held h10 (.cells #[.int .i64 0, .int .u64 0] 25)
        replace a12 := heap_alloc_held a12 (.cells #[.int .i64 0, .int .u64 0] 25)
        replace hs := hs.keep ((Keeps.refl [] _).alloc (.cells #[.int .i64 0, .int .u64 0] 25))
        have a11 : (wz207.alloc (.cells #[.int .i64 0, .int .u64 0] 25)).heap[wz207.heap.size]? = some (.cells #[.int .i64 0, .int .u64 0] 25 (0, 0)) := heap_alloc_new _ _
        refine hK.out _ _ ⟨⟨cell_of_block h9 rfl, cell_of_block h9 rfl⟩, h10⟩ (fun _ => ?_)
        clear hK K
        generalize wz207.alloc (.cells #[.int .i64 0, .int .u64 0] 25) = wz223 at *
        refine wpAnyH_ready (rs := [4]) (by kernel_rfl) (by simp) ?_
        refine AllReadyH.cons (o := ⟨some 39, _, _, _, _, _⟩) rfl (fun K hK => ?_) AllReadyH.nil
        rw [if_pos (by rfl)]
        refine wp_call_go1 14 _ _ rfl (.slice (some ⟨wz206.heap.size, 0, none⟩) 2 2) rfl (Try.call14 _) (v := .agg #[.int .i64 (T / 18446744073709551616), .int .u64 (T % 18446744073709551616)]) (ADC.out _ _ hs) (fun wz224 ka => ?_)
        clear hs
        replace kk := kk.trans0 ka
        replace h9 := ka.held h9 (by simp)
        replace h10 := ka.held h10 (by simp)
        replace a11 := ka.held a11 (by simp)
        replace a12 := ka.held a12 (by simp)
        refine hK.out _ _ ⟨⟨cell_of_block h9 rfl, cell_of_block h9 rfl⟩, h10⟩ (fun _ => ?_)
        clear hK K ka
        simp only [Act.put, List.setIfInBounds_toArray, List.set_cons_zero, List.set_cons_succ]
        refine wpAnyH_ready (rs := [7]) (by kernel_rfl) (by simp) ?_
        refine AllReadyH.cons (o := ⟨some 42, _, _, _, _, _⟩) rfl (fun K hK => ?_) AllReadyH.nil
        rw [if_pos (by rfl)]
        refine wp_call_go1 13 _ _ rfl (.int .i64 e) rfl (Try.call13 _) (v := .agg (numA me (dig xe))) (ROC.out _) (fun wz225 ka => ?_)
        replace kk := kk.trans0 ka
        replace h9 := ka.held h9 (by simp)
        replace h10 := ka.held h10 (by simp)
        replace a11 := ka.held a11 (by simp)
        replace a12 := ka.held a12 (by simp)
        refine hK.out _ _ ⟨⟨cell_of_block h9 rfl, cell_of_block h9 rfl⟩, h10⟩ (fun _ => ?_)
        clear hK K ka
        simp only [Act.put, List.setIfInBounds_toArray, List.set_cons_zero, List.set_cons_succ]
        refine wpAnyH_ready (rs := [8]) (by kernel_rfl) (by simp) ?_
        refine AllReadyH.cons (o := ⟨some 43, _, _, _, _, _⟩) rfl (fun K hK => ?_) AllReadyH.nil
        rw [if_pos (by rfl)]
        refine wp_call_go 15 _ _ _ rfl (.agg (numA mz (dig xz))) (.agg (numA me (dig xe))) rfl rfl (Try.call15 _) (v := .agg (numA ms (dig xs))) (RAC.out _) (fun wz226 ka => ?_)
        replace kk := kk.trans0 ka
        replace h9 := ka.held h9 (by simp)
        replace h10 := ka.held h10 (by simp)
        replace a11 := ka.held a11 (by simp)
        replace a12 := ka.held a12 (by simp)
        refine hK.out _ _ ⟨⟨cell_of_block h9 rfl, cell_of_block h9 rfl⟩, h10⟩ (fun _ => ?_)
        clear hK K ka
        simp only [Act.put, List.setIfInBounds_toArray, List.set_cons_zero, List.set_cons_succ]
        refine wpAnyH_ready (rs := [11]) (by kernel_rfl) (by simp) ?_
        refine AllReadyH.cons (o := ⟨none, _, _, _, _, _⟩) rfl (fun K hK => ?_) AllReadyH.nil
        rw [if_pos (by rfl)]
        refine wp_store_row _ _ _ rfl (wz207.heap.size) #[.int .i64 (T / 18446744073709551616), .int .u64 (T % 18446744073709551616)] rfl rfl _ #[.int .i64 0, .int .u64 0] a11 infoW rfl (two_one _ _) ?_
        obtain ⟨kk, h9, h10, a11, a12⟩ := set_t kk h9 h10 a11 a12 T (by omega)
        refine hK.out _ _ ⟨⟨cell_of_block h9 rfl, cell_of_block h9 rfl⟩, h10⟩ (fun _ => ?_)
        clear hK K
        generalize wz226.setRow (wz207.heap.size) #[.int .i64 (T / 18446744073709551616), .int .u64 (T % 18446744073709551616)] = wz227 at *
        refine wpAnyH_ready (rs := [12]) (by kernel_rfl) (by simp) ?_
        refine AllReadyH.cons (o := ⟨none, _, _, _, _, _⟩) rfl (fun K hK => ?_) AllReadyH.nil
        rw [if_pos (by rfl)]
        refine wp_store_row _ _ _ rfl (w4.heap.size) (numA ms (dig xs)) rfl rfl _ (numA false (dig 0)) a12 (by rw [numA_size]; exact infoNum) (by rw [numA_size, numA_size]) (numA_one _ _) ?_
        obtain ⟨kk, h9, h10, a11, a12⟩ := set_s kk h9 h10 a11 a12 ms xs (by omega)
        refine hK.out _ _ ⟨⟨cell_of_block h9 rfl, cell_of_block h9 rfl⟩, h10⟩ (fun _ => ?_)
        clear hK K
        refine wpAnyH_done (by kernel_rfl) ?_ _
        simp only [Act.put]
        go_wp2_with fail
        go_meet
        exact ⟨wz207.heap.size, w4.heap.size, rfl, rfl, ⟨kk, h10, a11, a12⟩⟩
      ·rw [if_pos (by rfl)]
       have l11 : w.heap.size ≤ wz206.heap.size := kk.size
       have o11 : G9 < wz206.heap.size ∧ G10 < wz206.heap.size := ⟨lt_of_block h9, lt_of_block h10⟩
       have ne12 : wz206.heap.size ≠ w4.heap.size := by have := lt_of_block a12; omega
       go_wp2_with fail
       replace kk := kk.alloc (.cells #[.int .i64 0, .int .u64 0] 25)
       replace h9 := heap_alloc_held h9 (.cells #[.int .i64 0, .int .u64 0] 25)
       replace h10 := heap_alloc_held h10 (.cells #[.int .i64 0, .int .u64 0] 25)
       replace a12 := heap_alloc_held a12 (.cells #[.int .i64 0, .int .u64 0] 25)
       have a11 : (wz206.alloc (.cells #[.int .i64 0, .int .u64 0] 25)).heap[wz206.heap.size]? = some (.cells #[.int .i64 0, .int .u64 0] 25 (0, 0)) := heap_alloc_new _ _
       refine hK.out _ _ ⟨⟨cell_of_block h9 rfl, cell_of_block h9 rfl⟩, h10⟩ (fun _ => ?_)
       clear hK K
       generalize wz206.alloc (.cells #[.int .i64 0, .int .u64 0] 25) = wz229 at *
       refine wpAnyH_ready (rs := [3]) (by kernel_rfl) (by simp) ?_
       refine AllReadyH.cons (o := ⟨some 38, _, _, _, _, _⟩) rfl (fun K hK => ?_) AllReadyH.nil
       rw [if_pos (by rfl)]
       go_wp2_with fail
       replace kk := kk.alloc (.cells #[.int .i64 (Z / 18446744073709551616), .int .u64 (Z % 18446744073709551616), .int .i64 (e / 18446744073709551616), .int .u64 (e % 18446744073709551616)] 25)
       replace h9 := heap_alloc_held h9 (.cells #[.int .i64 (Z / 18446744073709551616), .int .u64 (Z % 18446744073709551616), .int .i64 (e / 18446744073709551616), .int .u64 (e % 18446744073709551616)] 25)
       replace h10 := heap_alloc_held h10 (.cells #[.int .i64 (Z / 18446744073709551616), .int .u64 (Z % 18446744073709551616), .int .i64 (e / 18446744073709551616), .int .u64 (e % 18446744073709551616)] 25)
       replace a11 := heap_alloc_held a11 (.cells #[.int .i64 (Z / 18446744073709551616), .int .u64 (Z % 18446744073709551616), .int .i64 (e / 18446744073709551616), .int .u64 (e % 18446744073709551616)] 25)
       replace a12 := heap_alloc_held a12 (.cells #[.int .i64 (Z / 18446744073709551616), .int .u64 (Z % 18446744073709551616), .int .i64 (e / 18446744073709551616), .int .u64 (e % 18446744073709551616)] 25)
       have hs : NumsAt (wz229.alloc (.cells #[.int .i64 (Z / 18446744073709551616), .int .u64 (Z % 18446744073709551616), .int .i64 (e / 18446744073709551616), .int .u64 (e % 18446744073709551616)] 25)) wz229.heap.size [Z, e] := nums2 wz229 Z e
       refine hK.out _ _ ⟨⟨cell_of_block h9 rfl, cell_of_block h9 rfl⟩, h10⟩ (fun _ => ?_)
       clear hK K
       generalize wz229.alloc (.cells #[.int .i64 (Z / 18446744073709551616), .int .u64 (Z % 18446744073709551616), .int .i64 (e / 18446744073709551616), .int .u64 (e % 18446744073709551616)] 25) = wz230 at *
       refine wpAnyH_ready (rs := [4]) (by kernel_rfl) (by simp) ?_
       refine AllReadyH.cons (o := ⟨some 39, _, _, _, _, _⟩) rfl (fun K hK => ?_) AllReadyH.nil
       rw [if_pos (by rfl)]
       refine wp_call_go1 14 _ _ rfl (.slice (some ⟨wz229.heap.size, 0, none⟩) 2 2) rfl (Try.call14 _) (v := .agg #[.int .i64 (T / 18446744073709551616), .int .u64 (T % 18446744073709551616)]) (ADC.out _ _ hs) (fun wz231 ka => ?_)
       clear hs
       replace kk := kk.trans0 ka
       replace h9 := ka.held h9 (by simp)
       replace h10 := ka.held h10 (by simp)
       replace a11 := ka.held a11 (by simp)
       replace a12 := ka.held a12 (by simp)
       refine hK.out _ _ ⟨⟨cell_of_block h9 rfl, cell_of_block h9 rfl⟩, h10⟩ (fun _ => ?_)
       clear hK K ka
       simp only [Act.put, List.setIfInBounds_toArray, List.set_cons_zero, List.set_cons_succ]
       refine wpAnyH_ready (rs := [7]) (by kernel_rfl) (by simp) ?_
       refine AllReadyH.cons (o := ⟨some 42, _, _, _, _, _⟩) rfl (fun K hK => ?_) AllReadyH.nil
       rw [if_pos (by rfl)]
       refine wp_call_go1 13 _ _ rfl (.int .i64 e) rfl (Try.call13 _) (v := .agg (numA me (dig xe))) (ROC.out _) (fun wz232 ka => ?_)
       replace kk := kk.trans0 ka
       replace h9 := ka.held h9 (by simp)
       replace h10 := ka.held h10 (by simp)
       replace a11 := ka.held a11 (by simp)
       replace a12 := ka.held a12 (by simp)
       refine hK.out _ _ ⟨⟨cell_of_block h9 rfl, cell_of_block h9 rfl⟩, h10⟩ (fun _ => ?_)
       clear hK K ka
       simp only [Act.put, List.setIfInBounds_toArray, List.set_cons_zero, List.set_cons_succ]
       refine wpAnyH_ready (rs := [8]) (by kernel_rfl) (by simp) ?_
       refine AllReadyH.cons (o := ⟨some 43, _, _, _, _, _⟩) rfl (fun K hK => ?_) AllReadyH.nil
       rw [if_pos (by rfl)]
       refine wp_call_go 15 _ _ _ rfl (.agg (numA mz (dig xz))) (.agg (numA me (dig xe))) rfl rfl (Try.call15 _) (v := .agg (numA ms (dig xs))) (RAC.out _) (fun wz233 ka => ?_)
       replace kk := kk.trans0 ka
       replace h9 := ka.held h9 (by simp)
       replace h10 := ka.held h10 (by simp)
       replace a11 := ka.held a11 (by simp)
       replace a12 := ka.held a12 (by simp)
       refine hK.out _ _ ⟨⟨cell_of_block h9 rfl, cell_of_block h9 rfl⟩, h10⟩ (fun _ => ?_)
       clear hK K ka
       simp only [Act.put, List.setIfInBounds_toArray, List.set_cons_zero, List.set_cons_succ]
       refine wpAnyH_ready (rs := [11]) (by kernel_rfl) (by simp) ?_
       refine AllReadyH.cons (o := ⟨none, _, _, _, _, _⟩) rfl (fun K hK => ?_) AllReadyH.nil
       rw [if_pos (by rfl)]
       refine wp_store_row _ _ _ rfl (wz206.heap.size) #[.int .i64 (T / 18446744073709551616), .int .u64 (T % 18446744073709551616)] rfl rfl _ #[.int .i64 0, .int .u64 0] a11 infoW rfl (two_one _ _) ?_
       obtain ⟨kk, h9, h10, a11, a12⟩ := set_t kk h9 h10 a11 a12 T (by omega)
       refine hK.out _ _ ⟨⟨cell_of_block h9 rfl, cell_of_block h9 rfl⟩, h10⟩ (fun _ => ?_)
       clear hK K
       generalize wz233.setRow (wz206.heap.size) #[.int .i64 (T / 18446744073709551616), .int .u64 (T % 18446744073709551616)] = wz234 at *
       refine wpAnyH_ready (rs := [12]) (by kernel_rfl) (by simp) ?_
       refine AllReadyH.cons (o := ⟨none, _, _, _, _, _⟩) rfl (fun K hK => ?_) AllReadyH.nil
       rw [if_pos (by rfl)]
       refine wp_store_row _ _ _ rfl (w4.heap.size) (numA ms (dig xs)) rfl rfl _ (numA false (dig 0)) a12 (by rw [numA_size]; exact infoNum) (by rw [numA_size, numA_size]) (numA_one _ _) ?_
       obtain ⟨kk, h9, h10, a11, a12⟩ := set_s kk h9 h10 a11 a12 ms xs (by omega)
       refine hK.out _ _ ⟨⟨cell_of_block h9 rfl, cell_of_block h9 rfl⟩, h10⟩ (fun _ => ?_)
       clear hK K
       refine wpAnyH_done (by kernel_rfl) ?_ _
       simp only [Act.put]
       go_wp2_with fail
       go_meet
       exact ⟨wz206.heap.size, w4.heap.size, rfl, rfl, ⟨kk, h10, a11, a12⟩⟩
     ·rw [if_pos (by rfl)]
      have l11 : w.heap.size ≤ wz205.heap.size := kk.size
      have o11 : G9 < wz205.heap.size ∧ G10 < wz205.heap.size := ⟨lt_of_block h9, lt_of_block h10⟩
      have ne12 : wz205.heap.size ≠ w4.heap.size := by have := lt_of_block a12; omega
      go_wp2_with fail
      replace kk := kk.alloc (.cells #[.int .i64 0, .int .u64 0] 25)
      replace h9 := heap_alloc_held h9 (.cells #[.int .i64 0, .int .u64 0] 25)
      replace h10 := heap_alloc_held h10 (.cells #[.int .i64 0, .int .u64 0] 25)
      replace a12 := heap_alloc_held a12 (.cells #[.int .i64 0, .int .u64 0] 25)
      have a11 : (wz205.alloc (.cells #[.int .i64 0, .int .u64 0] 25)).heap[wz205.heap.size]? = some (.cells #[.int .i64 0, .int .u64 0] 25 (0, 0)) := heap_alloc_new _ _
      refine hK.out _ _ ⟨⟨cell_of_block h9 rfl, cell_of_block h9 rfl⟩, h10⟩ (fun _ => ?_)
      clear hK K
      generalize wz205.alloc (.cells #[.int .i64 0, .int .u64 0] 25) = wz236 at *
      refine wpAnyH_ready (rs := [2]) (by kernel_rfl) (by simp) ?_
      refine AllReadyH.cons (o := ⟨some 37, _, _, _, _, _⟩) rfl (fun K hK => ?_) AllReadyH.nil
      rw [if_pos (by rfl)]
      refine wp_call_go1 12 _ _ rfl (.int .i64 e) rfl (Try.call12 _) (v := .agg #[.int .i64 (e / 18446744073709551616), .int .u64 (e % 18446744073709551616)]) (OFC.out _) (fun wz237 ka => ?_)
      replace kk := kk.trans0 ka
      replace h9 := ka.held h9 (by simp)
      replace h10 := ka.held h10 (by simp)
      replace a11 := ka.held a11 (by simp)
      replace a12 := ka.held a12 (by simp)
      refine hK.out _ _ ⟨⟨cell_of_block h9 rfl, cell_of_block h9 rfl⟩, h10⟩ (fun _ => ?_)
      clear hK K ka
      simp only [Act.put, List.setIfInBounds_toArray, List.set_cons_zero, List.set_cons_succ]
      refine wpAnyH_ready (rs := [3]) (by kernel_rfl) (by simp) ?_
      refine AllReadyH.cons (o := ⟨some 38, _, _, _, _, _⟩) rfl (fun K hK => ?_) AllReadyH.nil
      rw [if_pos (by rfl)]
      go_wp2_with fail
      replace kk := kk.alloc (.cells #[.int .i64 (Z / 18446744073709551616), .int .u64 (Z % 18446744073709551616), .int .i64 (e / 18446744073709551616), .int .u64 (e % 18446744073709551616)] 25)
      replace h9 := heap_alloc_held h9 (.cells #[.int .i64 (Z / 18446744073709551616), .int .u64 (Z % 18446744073709551616), .int .i64 (e / 18446744073709551616), .int .u64 (e % 18446744073709551616)] 25)
      replace h10 := heap_alloc_held h10 (.cells #[.int .i64 (Z / 18446744073709551616), .int .u64 (Z % 18446744073709551616), .int .i64 (e / 18446744073709551616), .int .u64 (e % 18446744073709551616)] 25)
      replace a11 := heap_alloc_held a11 (.cells #[.int .i64 (Z / 18446744073709551616), .int .u64 (Z % 18446744073709551616), .int .i64 (e / 18446744073709551616), .int .u64 (e % 18446744073709551616)] 25)
      replace a12 := heap_alloc_held a12 (.cells #[.int .i64 (Z / 18446744073709551616), .int .u64 (Z % 18446744073709551616), .int .i64 (e / 18446744073709551616), .int .u64 (e % 18446744073709551616)] 25)
      have hs : NumsAt (wz237.alloc (.cells #[.int .i64 (Z / 18446744073709551616), .int .u64 (Z % 18446744073709551616), .int .i64 (e / 18446744073709551616), .int .u64 (e % 18446744073709551616)] 25)) wz237.heap.size [Z, e] := nums2 wz237 Z e
      refine hK.out _ _ ⟨⟨cell_of_block h9 rfl, cell_of_block h9 rfl⟩, h10⟩ (fun _ => ?_)
      clear hK K
      generalize wz237.alloc (.cells #[.int .i64 (Z / 18446744073709551616), .int .u64 (Z % 18446744073709551616), .int .i64 (e / 18446744073709551616), .int .u64 (e % 18446744073709551616)] 25) = wz238 at *
      refine wpAnyH_ready (rs := [4]) (by kernel_rfl) (by simp) ?_
      refine AllReadyH.cons (o := ⟨some 39, _, _, _, _, _⟩) rfl (fun K hK => ?_) AllReadyH.nil
      rw [if_pos (by rfl)]
      refine wp_call_go1 14 _ _ rfl (.slice (some ⟨wz237.heap.size, 0, none⟩) 2 2) rfl (Try.call14 _) (v := .agg #[.int .i64 (T / 18446744073709551616), .int .u64 (T % 18446744073709551616)]) (ADC.out _ _ hs) (fun wz239 ka => ?_)
      clear hs
      replace kk := kk.trans0 ka
      replace h9 := ka.held h9 (by simp)
      replace h10 := ka.held h10 (by simp)
      replace a11 := ka.held a11 (by simp)
      replace a12 := ka.held a12 (by simp)
      refine hK.out _ _ ⟨⟨cell_of_block h9 rfl, cell_of_block h9 rfl⟩, h10⟩ (fun _ => ?_)
      clear hK K ka
      simp only [Act.put, List.setIfInBounds_toArray, List.set_cons_zero, List.set_cons_succ]
      refine wpAnyH_ready (rs := [7]) (by kernel_rfl) (by simp) ?_
      refine AllReadyH.cons (o := ⟨some 42, _, _, _, _, _⟩) rfl (fun K hK => ?_) AllReadyH.nil
      rw [if_pos (by rfl)]
      refine wp_call_go1 13 _ _ rfl (.int .i64 e) rfl (Try.call13 _) (v := .agg (numA me (dig xe))) (ROC.out _) (fun wz240 ka => ?_)
      replace kk := kk.trans0 ka
      replace h9 := ka.held h9 (by simp)
      replace h10 := ka.held h10 (by simp)
      replace a11 := ka.held a11 (by simp)
      replace a12 := ka.held a12 (by simp)
      refine hK.out _ _ ⟨⟨cell_of_block h9 rfl, cell_of_block h9 rfl⟩, h10⟩ (fun _ => ?_)
      clear hK K ka
      simp only [Act.put, List.setIfInBounds_toArray, List.set_cons_zero, List.set_cons_succ]
      refine wpAnyH_ready (rs := [8]) (by kernel_rfl) (by simp) ?_
      refine AllReadyH.cons (o := ⟨some 43, _, _, _, _, _⟩) rfl (fun K hK => ?_) AllReadyH.nil
      rw [if_pos (by rfl)]
      refine wp_call_go 15 _ _ _ rfl (.agg (numA mz (dig xz))) (.agg (numA me (dig xe))) rfl rfl (Try.call15 _) (v := .agg (numA ms (dig xs))) (RAC.out _) (fun wz241 ka => ?_)
      replace kk := kk.trans0 ka
      replace h9 := ka.held h9 (by simp)
      replace h10 := ka.held h10 (by simp)
      replace a11 := ka.held a11 (by simp)
      replace a12 := ka.held a12 (by simp)
      refine hK.out _ _ ⟨⟨cell_of_block h9 rfl, cell_of_block h9 rfl⟩, h10⟩ (fun _ => ?_)
      clear hK K ka
      simp only [Act.put, List.setIfInBounds_toArray, List.set_cons_zero, List.set_cons_succ]
      refine wpAnyH_ready (rs := [11]) (by kernel_rfl) (by simp) ?_
      refine AllReadyH.cons (o := ⟨none, _, _, _, _, _⟩) rfl (fun K hK => ?_) AllReadyH.nil
      rw [if_pos (by rfl)]
      refine wp_store_row _ _ _ rfl (wz205.heap.size) #[.int .i64 (T / 18446744073709551616), .int .u64 (T % 18446744073709551616)] rfl rfl _ #[.int .i64 0, .int .u64 0] a11 infoW rfl (two_one _ _) ?_
      obtain ⟨kk, h9, h10, a11, a12⟩ := set_t kk h9 h10 a11 a12 T (by omega)
      refine hK.out _ _ ⟨⟨cell_of_block h9 rfl, cell_of_block h9 rfl⟩, h10⟩ (fun _ => ?_)
      clear hK K
      generalize wz241.setRow (wz205.heap.size) #[.int .i64 (T / 18446744073709551616), .int .u64 (T % 18446744073709551616)] = wz242 at *
      refine wpAnyH_ready (rs := [12]) (by kernel_rfl) (by simp) ?_
      refine AllReadyH.cons (o := ⟨none, _, _, _, _, _⟩) rfl (fun K hK => ?_) AllReadyH.nil
      rw [if_pos (by rfl)]
      refine wp_store_row _ _ _ rfl (w4.heap.size) (numA ms (dig xs)) rfl rfl _ (numA false (dig 0)) a12 (by rw [numA_size]; exact infoNum) (by rw [numA_size, numA_size]) (numA_one _ _) ?_
      obtain ⟨kk, h9, h10, a11, a12⟩ := set_s kk h9 h10 a11 a12 ms xs (by omega)
      refine hK.out _ _ ⟨⟨cell_of_block h9 rfl, cell_of_block h9 rfl⟩, h10⟩ (fun _ => ?_)
      clear hK K
      refine wpAnyH_done (by kernel_rfl) ?_ _
      simp only [Act.put]
      go_wp2_with fail
      go_meet
      exact ⟨wz205.heap.size, w4.heap.size, rfl, rfl, ⟨kk, h10, a11, a12⟩⟩
  case rest =>
    obtain ⟨b11, b12, rfl, rfl, R⟩ := hcut
    obtain ⟨kk, z, h11, s⟩ := R
    clear kk' h10 h9'
    obtain ⟨p, e1, r, g, v, i, x, k, FF⟩ := divides_facts a b c Z T mz ms xz xs HA.out HB.out HC.out HZ.out HZI.out HTI.out BZ.out BS.out GZ.out GS.out
    have F := Lib.hid FF
    clear FF CZ RZ OFC ROC RAC ADC HZ HA HB HC HTI HZI BZ BS GZ GS
    have t0 := cell_of_block (v := .int .i64 (T / 18446744073709551616)) h11 (o := 0) rfl
    have t1 := cell_of_block (v := .int .u64 (T % 18446744073709551616)) h11 (o := 1) rfl
    go_wp2_with (first | (refine ld_num _ z rfl rfl rfl ?_; simp only [Act.put]) | (refine ld_num _ s rfl rfl rfl ?_; simp only [Act.put]))
    refine (F.out.md _).mono ?_
    rintro q wy0 ⟨rfl, k5⟩
    clear t0 t1
    replace z := k5.held z (by simp)
    replace s := k5.held s (by simp)
    replace h11 := k5.held h11 (by simp)
    replace kk := kk.trans0 k5
    clear k5
    have t0 := cell_of_block (v := .int .i64 (T / 18446744073709551616)) h11 (o := 0) rfl
    have t1 := cell_of_block (v := .int .u64 (T % 18446744073709551616)) h11 (o := 1) rfl
    go_wp2_with (first | (refine ld_num _ z rfl rfl rfl ?_; simp only [Act.put]) | (refine ld_num _ s rfl rfl rfl ?_; simp only [Act.put]))
    refine (F.out.rd _).mono ?_
    rintro q wy1 ⟨rfl, k5⟩
    clear t0 t1
    replace z := k5.held z (by simp)
    replace s := k5.held s (by simp)
    replace h11 := k5.held h11 (by simp)
    replace kk := kk.trans0 k5
    clear k5
    have t0 := cell_of_block (v := .int .i64 (T / 18446744073709551616)) h11 (o := 0) rfl
    have t1 := cell_of_block (v := .int .u64 (T % 18446744073709551616)) h11 (o := 1) rfl
    go_wp2_with (first | (refine ld_num _ z rfl rfl rfl ?_; simp only [Act.put]) | (refine ld_num _ s rfl rfl rfl ?_; simp only [Act.put]))
    refine (F.out.mn _).mono ?_
    rintro q wy2 ⟨rfl, k5⟩
    clear t0 t1
    replace z := k5.held z (by simp)
    replace s := k5.held s (by simp)
    replace h11 := k5.held h11 (by simp)
    replace kk := kk.trans0 k5
    clear k5
    have t0 := cell_of_block (v := .int .i64 (T / 18446744073709551616)) h11 (o := 0) rfl
    have t1 := cell_of_block (v := .int .u64 (T % 18446744073709551616)) h11 (o := 1) rfl
    go_wp2_with (first | (refine ld_num _ z rfl rfl rfl ?_; simp only [Act.put]) | (refine ld_num _ s rfl rfl rfl ?_; simp only [Act.put]))
    refine (F.out.rn _).mono ?_
    rintro q wy3 ⟨rfl, k5⟩
    clear t0 t1
    replace z := k5.held z (by simp)
    replace s := k5.held s (by simp)
    replace h11 := k5.held h11 (by simp)
    replace kk := kk.trans0 k5
    clear k5
    have t0 := cell_of_block (v := .int .i64 (T / 18446744073709551616)) h11 (o := 0) rfl
    have t1 := cell_of_block (v := .int .u64 (T % 18446744073709551616)) h11 (o := 1) rfl
    go_wp2_with (first | (refine ld_num _ z rfl rfl rfl ?_; simp only [Act.put]) | (refine ld_num _ s rfl rfl rfl ?_; simp only [Act.put]))
    refine (F.out.dn _).mono ?_
    rintro q wy4 ⟨rfl, k5⟩
    clear t0 t1
    replace z := k5.held z (by simp)
    replace s := k5.held s (by simp)
    replace h11 := k5.held h11 (by simp)
    replace kk := kk.trans0 k5
    clear k5
    have t0 := cell_of_block (v := .int .i64 (T / 18446744073709551616)) h11 (o := 0) rfl
    have t1 := cell_of_block (v := .int .u64 (T % 18446744073709551616)) h11 (o := 1) rfl
    go_wp2_with (first | (refine ld_num _ z rfl rfl rfl ?_; simp only [Act.put]) | (refine ld_num _ s rfl rfl rfl ?_; simp only [Act.put]))
    refine (F.out.rs _).mono ?_
    rintro q wy5 ⟨rfl, k5⟩
    clear t0 t1
    replace z := k5.held z (by simp)
    replace s := k5.held s (by simp)
    replace h11 := k5.held h11 (by simp)
    replace kk := kk.trans0 k5
    clear k5
    have t0 := cell_of_block (v := .int .i64 (T / 18446744073709551616)) h11 (o := 0) rfl
    have t1 := cell_of_block (v := .int .u64 (T % 18446744073709551616)) h11 (o := 1) rfl
    go_wp2_with (first | (refine ld_num _ z rfl rfl rfl ?_; simp only [Act.put]) | (refine ld_num _ s rfl rfl rfl ?_; simp only [Act.put]))
    refine (F.out.nr _).mono ?_
    rintro q wy6 ⟨rfl, k5⟩
    clear t0 t1
    replace z := k5.held z (by simp)
    replace s := k5.held s (by simp)
    replace h11 := k5.held h11 (by simp)
    replace kk := kk.trans0 k5
    clear k5
    have t0 := cell_of_block (v := .int .i64 (T / 18446744073709551616)) h11 (o := 0) rfl
    have t1 := cell_of_block (v := .int .u64 (T % 18446744073709551616)) h11 (o := 1) rfl
    go_wp2_with (first | (refine ld_num _ z rfl rfl rfl ?_; simp only [Act.put]) | (refine ld_num _ s rfl rfl rfl ?_; simp only [Act.put]))
    refine (F.out.rt _).mono ?_
    rintro q wy7 ⟨rfl, k5⟩
    clear t0 t1
    replace z := k5.held z (by simp)
    replace s := k5.held s (by simp)
    replace h11 := k5.held h11 (by simp)
    replace kk := kk.trans0 k5
    clear k5
    clear z s h11
    go_wp2_with fail
    refine (works_any _).mono ?_
    rintro q wy8 ⟨rfl, k5⟩
    go_wp2_with fail
    go_ret
    exact ⟨rfl, kk.trans0 k5⟩
end Go.Proofs.Ytdanmeemoifapaa
