
/- GroupFull walked. No condition but lengths, that all are numbers of 64 bits, and the table of the sums. -/
import Derived.Test.YtnmblemplkdmaaaDoorWa
import Derived.Test.YtnmblemplkdmaaaDoorRp
import Derived.IntWalk
import Derived.Deep.RegionHeld3
namespace Go.Proofs.YtnmblemplkdmaaaDoor
open Go.RowKit Go.Shelf
set_option linter.unusedVariables false
set_option linter.unusedSimpArgs false
set_option maxRecDepth 100000

theorem flipF {P : Program} {f : FuncId} {args : Array Value} {w : World} {v : Value} (h : Calls P f args w fun e w' => e = .returned v ∧ w = w') : Calls P f args w fun e w' => e = .returned v ∧ w' = w := h.mono fun _ _ h => ⟨h.1, h.2.symm⟩
theorem recs_front {w : World} {a : Option Addr} {n k : Nat} {rs : List (List Int)} (h : RecsAt w a n rs) (hk : k ≤ n) : RecsAt w a k (rs.take k) := by
  have h13 := h.2.1
  have hn := h.1
  have hlt : (rs.take k).length = k := by rw [List.length_take]; omega
  have t13 : ∀ r ∈ rs.take k, r.length = 13 := fun r hr => h13 r (List.mem_of_mem_take hr)
  refine ⟨hlt.symm, t13, ?_⟩
  have e : (rs.take k).flatten = rs.flatten.take (13 * k) := by
    have h1 : rs.flatten = (rs.take k).flatten ++ (rs.drop k).flatten := by rw [← List.flatten_append, List.take_append_drop]
    have h2 : (rs.take k).flatten.length = 13 * k := by rw [flat13 t13, hlt]
    conv => rhs; rw [h1]
    rw [List.take_append_of_le_length (by omega)]
    exact (List.take_of_length_le (by omega)).symm
  rw [e]
  exact h.2.2.take (by omega)
theorem take_64F {xs : List Int} {k : Nat} (h : ∀ x ∈ xs, I64 x) : ∀ x ∈ xs.take k, I64 x := fun x hx => h x (List.mem_of_mem_take hx)
theorem slotsN_any (M D : Nat) (w : World) (h : slotsI (M : Int) = (D : Int)) (hM : M ≤ 480) : Calls Tryd.prog 14 #[.int .i64 (M : Int)] w fun e w' => e = .returned (.int .i64 (D : Int)) ∧ w = w' := by
  have hh := Slots_any (M : Int) w (by unfold I64; omega)
  rw [h] at hh
  exact hh

set_option maxHeartbeats 4000000 in
theorem gfull_top (a : Option Addr) (n c : Nat) (xs : List Int) (ar : Option Addr) (nr cr : Nat) (w : World) (ht : Turns w) (hi : IntsAt w a n xs) (hn : n ≤ c) (hc : c ≤ maxLen) (h64 : ∀ x ∈ xs, I64 x) (hnr : nr ≤ maxLen) (hne : (scanR (xs.take (fewN n))).seq = 4294967295) :
    Calls Tryd.prog 8 #[.slice a n c, .slice ar nr cr] w fun e w' => e = .returned (.bool true) ∧ Keeps [] w w' := by
  have hfn := fewN_le n
  have hit := hi.take (k := fewN n) hfn.1
  have h64t := take_64F (k := fewN n) h64
  obtain ⟨ys, hys⟩ : ∃ ys, ys = xs.take (fewN n) := ⟨_, rfl⟩
  rw [← hys] at hit h64t hne
  obtain ⟨M, hM⟩ : ∃ M, M = fewN n := ⟨_, rfl⟩
  have hMb : M ≤ n ∧ M ≤ 480 := by rw [hM]; exact hfn
  rw [← hM] at hit
  obtain ⟨S, hS⟩ : ∃ S, S = scanR ys := ⟨_, rfl⟩
  have hSL : S.live.length = 44 := by rw [hS]; exact (fits_scan ys).live
  rw [← hS] at hne
  have HT := Lib.hid ht
  have HI := Lib.hid hit
  have H64 := Lib.hid h64t
  have HMB := Lib.hid hMb
  have HM := Lib.hid hM
  have HN := Lib.hid hn
  have HC := Lib.hid hc
  have HS := Lib.hid hS
  have HSL := Lib.hid hSL
  have HL0 := Lib.hid (show fnd0.live.length = 44 by decide)
  clear ht hi hit h64 h64t hys hfn hMb hM hn hc hS hSL hnr
  go_enter Tryd.func8, Tryd.ntmps8
  go_wp2_with (first
    | (go_at_call 17; refine (works_any _ HT.out).mono ?_; rintro e w1 ⟨rfl, k1⟩; have HT1 := Lib.hid (HT.out.keep k1); have HI1 := Lib.hid (HI.out.keep0 k1); have K1 := Lib.hid k1; clear k1)
    | (go_at_call 9; refine (few_any _ _ _ _ HN.out HC.out).mono ?_; rw [← HM.out]; rintro e w' ⟨rfl, rfl⟩)
    | (go_at_call 12; refine (scan_any _ M c ys _ HT1.out HI1.out (by have := HMB.out; have := HN.out; omega) HC.out H64.out).mono ?_; rw [← HS.out]; rintro e w2 ⟨rfl, k2⟩; have h7 : FAt (w2.alloc (.cells (fndV fnd0) 28)) w2.heap.size 28 [] fnd0 := heap_alloc_new w2 _; have HT2 := Lib.hid (HT1.out.keep (k2.alloc (.cells (fndV fnd0) 28))); have HI2 := Lib.hid (HI1.out.keep0 (k2.alloc (.cells (fndV fnd0) 28))); have K2 := Lib.hid (K1.out.trans0 k2); clear k2)
    | (simp only [zeros48])
    | (refine st_fnd _ _ h7 HL0.out HSL.out rfl rfl rfl rfl ?_; intro w8 h8 k8 s8; simp only [Act.put]; have d0 : w8.cell? ⟨w2.heap.size, 0, none⟩ = some (.bool S.has) := h8.has; have d1 : w8.cell? ⟨w2.heap.size, 1, none⟩ = some (.int .i64 S.seq) := h8.seq; have d3 : w8.cell? ⟨w2.heap.size, 46, none⟩ = some (.int .i64 S.com) := h8.com HSL.out; have d4 : w8.cell? ⟨w2.heap.size, 47, none⟩ = some (.int .i64 (S.free : Int)) := h8.free HSL.out; have HF := Lib.hid h8; have K8 := Lib.hid ((K2.out.alloc (.cells (fndV fnd0) 28)).trans k8 (by intro x hx; right; have := K2.out.size; simp at hx; omega)); have HT8 := Lib.hid (HT.out.keep K8.out); have HI8 := Lib.hid (HI.out.keep0 K8.out); clear h8 h7 k8)
    | (go_at_call 20; refine (among_any _ 4 _ (by omega) (by omega)).mono ?_; rw [HA4.out]; rintro e w' ⟨rfl, rfl⟩))
  go_ret
  exact ⟨rfl, K8.out⟩

set_option maxHeartbeats 4000000 in
theorem gfull_0f (a : Option Addr) (n c : Nat) (xs : List Int) (ar : Option Addr) (nr cr : Nat) (w : World) (ht : Turns w) (hi : IntsAt w a n xs) (hn : n ≤ c) (hc : c ≤ maxLen) (h64 : ∀ x ∈ xs, I64 x) (hnr : nr ≤ maxLen) (ha4 : amongI (nr : Int) 4 = 0)
    (hne : ¬ (scanR (xs.take (fewN n))).seq = 4294967295) (hfit : (scanR (xs.take (fewN n))).free + 1 + 1 ≤ (fewN n / 16)) :
    Calls Tryd.prog 8 #[.slice a n c, .slice ar nr cr] w fun e w' => e = .returned (.bool true) ∧ Keeps [] w w' := by
  have hfn := fewN_le n
  have hit := hi.take (k := fewN n) hfn.1
  have h64t := take_64F (k := fewN n) h64
  obtain ⟨ys, hys⟩ : ∃ ys, ys = xs.take (fewN n) := ⟨_, rfl⟩
  rw [← hys] at hit h64t hne hfit
  obtain ⟨M, hM⟩ : ∃ M, M = fewN n := ⟨_, rfl⟩
  have hMb : M ≤ n ∧ M ≤ 480 := by rw [hM]; exact hfn
  rw [← hM] at hit hfit
  obtain ⟨S, hS⟩ : ∃ S, S = scanR ys := ⟨_, rfl⟩
  have hyl : ys.length = M := hit.1.symm
  have hfits : Fits S (ys.length / 16) := by rw [hS]; exact fits_scan ys
  rw [hyl] at hfits
  obtain ⟨D, hD⟩ : ∃ D, D = M / 16 := ⟨_, rfl⟩
  rw [← hS] at hne hfit
  rw [← hD] at hfits hfit
  have hD30 : D ≤ 30 := by omega
  have hSD : S.free ≤ D := hfits.free
  have hs0 : 0 ≤ S.seq := hfits.seq.1
  have hs1 : S.seq < 4294967295 := by have := hfits.seq.2; omega
  have hok : putsOk (S.seq + 1) (-1) ((allL 0).take 1) = true := allL_ok 0 (by omega) (by omega)
  have hlen : ((allL 0).take 1).length = 1 := by simp [allL]
  have h13 : ∀ r ∈ (allL 0).take 1, r.length = 13 := fun r hr => allL_len 0 r (List.mem_of_mem_take hr)
  have hgl : (putSlots (S.seq + 1) false ((allL 0).take 1)).flatten.length = 16 * (1 + 1) := by rw [putSlots_flat h13, hlen]
  obtain ⟨gc, gl, ga, hG⟩ : ∃ gc gl ga, (gc, gl, ga) = gputR ys (S.seq + 1) false ((allL 0).take 1) := ⟨_, _, _, rfl⟩
  have hGv : gc = 0 ∧ gl.length = 32 ∧ ga = 16 * (S.free : Int) := by
    unfold gputR at hG
    rw [if_pos ⟨by omega, by omega, hok⟩, ← hS, hyl, ← hD, hlen, if_pos hfit] at hG
    simp only [Prod.mk.injEq] at hG
    obtain ⟨rfl, rfl, rfl⟩ := hG
    exact ⟨rfl, hgl, rfl⟩
  obtain ⟨rfl, hgL, rfl⟩ := hGv
  have hlt : ¬ ((D : Int) - (S.free : Int) < 2) := by omega
  have hSL : S.live.length = 44 := hfits.live
  have hDs : slotsI (M : Int) = (D : Int) := by rw [slotsI_nat, hD]
  have HT := Lib.hid ht
  have HI := Lib.hid hit
  have H64 := Lib.hid h64t
  have HMB := Lib.hid hMb
  have HM := Lib.hid hM
  have HN := Lib.hid hn
  have HC := Lib.hid hc
  have HS := Lib.hid hS
  have HSL := Lib.hid hSL
  have HG := Lib.hid hG
  have HA4 := Lib.hid ha4
  have HDs := Lib.hid hDs
  have HQ := Lib.hid (show I64 (S.seq + 1) by unfold I64; omega)
  have HMBx := HMB.out
  have hm0 : (0 : Int) ≤ (M : Int) := by omega
  clear HMBx
  have HR64 := Lib.hid (show ∀ r ∈ (allL 0).take 1, ∀ x ∈ r, I64 x from fun r hr => allL_64 0 r (List.mem_of_mem_take hr))
  have HL0 := Lib.hid (show fnd0.live.length = 44 by decide)
  have HGL := Lib.hid hgL
  have hneb : (S.seq == 4294967295) = false := by simp [hne]
  have hnr' := hnr
  unfold maxLen at hnr'
  clear ht hi hit h64 h64t hys hfn hMb hM hn hc hS hSL hG ha4 hDs hfits hyl hD hok hlen h13 hgl hgL hfit hnr
  go_enter Tryd.func8, Tryd.ntmps8
  go_upto_region 8 with (first
    | (go_at_call 17; refine (works_any _ HT.out).mono ?_; rintro e w1 ⟨rfl, k1⟩; have HT1 := Lib.hid (HT.out.keep k1); have HI1 := Lib.hid (HI.out.keep0 k1); have K1 := Lib.hid k1; clear k1)
    | (go_at_call 9; refine (few_any _ _ _ _ HN.out HC.out).mono ?_; rw [← HM.out]; rintro e w' ⟨rfl, rfl⟩)
    | (go_at_call 12; refine (scan_any _ M c ys _ HT1.out HI1.out (by have := HMB.out; have := HN.out; omega) HC.out H64.out).mono ?_; rw [← HS.out]; rintro e w2 ⟨rfl, k2⟩; have h7 : FAt (w2.alloc (.cells (fndV fnd0) 28)) w2.heap.size 28 [] fnd0 := heap_alloc_new w2 _; have HT2 := Lib.hid (HT1.out.keep (k2.alloc (.cells (fndV fnd0) 28))); have HI2 := Lib.hid (HI1.out.keep0 (k2.alloc (.cells (fndV fnd0) 28))); have K2 := Lib.hid (K1.out.trans0 k2); clear k2)
    | (simp only [zeros48])
    | (refine st_fnd _ _ h7 HL0.out HSL.out rfl rfl rfl rfl ?_; intro w8 h8 k8 s8; simp only [Act.put]; have d0 : w8.cell? ⟨w2.heap.size, 0, none⟩ = some (.bool S.has) := h8.has; have d1 : w8.cell? ⟨w2.heap.size, 1, none⟩ = some (.int .i64 S.seq) := h8.seq; have d3 : w8.cell? ⟨w2.heap.size, 46, none⟩ = some (.int .i64 S.com) := h8.com HSL.out; have d4 : w8.cell? ⟨w2.heap.size, 47, none⟩ = some (.int .i64 (S.free : Int)) := h8.free HSL.out; have HF := Lib.hid h8; have K8 := Lib.hid ((K2.out.alloc (.cells (fndV fnd0) 28)).trans k8 (by intro x hx; right; have := K2.out.size; simp at hx; omega)); have HT8 := Lib.hid (HT.out.keep K8.out); have HI8 := Lib.hid (HI.out.keep0 K8.out); clear h8 h7 k8)
    | (go_at_call 20; refine (among_any _ 4 _ (by omega) (by omega)).mono ?_; rw [HA4.out]; rintro e w' ⟨rfl, rfl⟩))
  have hw1 : IntKind.i64.wrap (S.seq + 1) = S.seq + 1 := IntWalk.i64_in _ (by omega)
  go_cut [7, 8, 9] from 23 to 34 (fun s7 s8 s9 wx => ∃ A3 c3, s7 = .slice A3 gl.length c3 ∧ s8 = .int .i64 (16 * (S.free : Int)) ∧ s9 = .int .i64 0 ∧ Keeps [] w8 wx)
  case first =>
    go_region_held3 (fun wz => wz.cell? ⟨w2.heap.size, 1, none⟩ = some (.int .i64 S.seq)) (first | exact d1 | exact p1 | exact q1 | go_keep) (first
      | (go_at_call 21; refine (all_any 0 _).mono ?_; rw [kinds_all]; rintro e w9 ⟨a2, c2, rfl, r2, l2, m2, k9⟩; have R2 := Lib.hid (recs_front r2 (show 1 ≤ 4 by omega)); have k9' := ((Keeps.refl [] w8).drewN 1).trans0 k9; have K9 := Lib.hid (show Keeps [] w8 w9 from k9'); have HF9 := Lib.hid (HF.out.keep k9' (by simp)); have p0 : w9.cell? ⟨w2.heap.size, 0, none⟩ = some (.bool S.has) := HF9.out.has; have p1 : w9.cell? ⟨w2.heap.size, 1, none⟩ = some (.int .i64 S.seq) := HF9.out.seq; have p3 : w9.cell? ⟨w2.heap.size, 46, none⟩ = some (.int .i64 S.com) := HF9.out.com HSL.out; have p4 : w9.cell? ⟨w2.heap.size, 47, none⟩ = some (.int .i64 (S.free : Int)) := HF9.out.free HSL.out; clear r2 k9 k9'; have l2i : (1 : Int) ≤ (c2 : Int) := by omega)
      | (go_at_call 18; refine (put_any _ M c ys (S.seq + 1) false a2 1 c2 ((allL 0).take 1) _ (HT8.out.keep K9.out) (HI8.out.keep0 K9.out) (by have := HMB.out; have := HN.out; omega) HC.out R2.out (by omega) HQ.out HR64.out).mono ?_; rw [← HG.out]; rintro e w10 ⟨A3, c3, rfl, i3, k3, l3, m3⟩; have K10 := Lib.hid (K9.out.trans0 k3); have q1 : w10.cell? ⟨w2.heap.size, 1, none⟩ = some (.int .i64 S.seq) := (HF9.out.keep k3 (by simp)).seq; clear i3 k3))
    all_goals (go_wp2_with fail; go_meet; exact ⟨A3, c3, rfl, rfl, rfl, K10.out⟩)
  case rest =>
  obtain ⟨A3, c3, rfl, rfl, rfl, k9⟩ := hcut
  rw [HGL.out]
  clear d0 d1 d3 d4 hw1
  have hF := HF.out.keep k9 (by simp)
  have d0 : wc.cell? ⟨w2.heap.size, 0, none⟩ = some (.bool S.has) := hF.has; have d1 : wc.cell? ⟨w2.heap.size, 1, none⟩ = some (.int .i64 S.seq) := hF.seq; have d3 : wc.cell? ⟨w2.heap.size, 46, none⟩ = some (.int .i64 S.com) := hF.com HSL.out; have d4 : wc.cell? ⟨w2.heap.size, 47, none⟩ = some (.int .i64 (S.free : Int)) := hF.free HSL.out
  have K9 := Lib.hid (K8.out.trans0 k9)
  clear hF k9
  go_upto_region 9 with fail
  have hw2 : IntKind.i64.wrap ((D : Int) - (S.free : Int)) = (D : Int) - (S.free : Int) := IntWalk.i64_in _ (by omega)
  go_quiet ((go_at_call 14; refine Calls.quiet_of_same (flipF (slotsN_any M D _ HDs.out HMB.out.2))))
  trace_state
  go_wp2_with fail
  all_goals (go_ret; exact ⟨rfl, K9.out.drewN _⟩)

set_option maxHeartbeats 4000000 in
theorem gfull_0n (a : Option Addr) (n c : Nat) (xs : List Int) (ar : Option Addr) (nr cr : Nat) (w : World) (ht : Turns w) (hi : IntsAt w a n xs) (hn : n ≤ c) (hc : c ≤ maxLen) (h64 : ∀ x ∈ xs, I64 x) (hnr : nr ≤ maxLen) (ha4 : amongI (nr : Int) 4 = 0)
    (hne : ¬ (scanR (xs.take (fewN n))).seq = 4294967295) (hfit : ¬ (scanR (xs.take (fewN n))).free + 1 + 1 ≤ (fewN n / 16)) :
    Calls Tryd.prog 8 #[.slice a n c, .slice ar nr cr] w fun e w' => e = .returned (.bool true) ∧ Keeps [] w w' := by
  have hfn := fewN_le n
  have hit := hi.take (k := fewN n) hfn.1
  have h64t := take_64F (k := fewN n) h64
  obtain ⟨ys, hys⟩ : ∃ ys, ys = xs.take (fewN n) := ⟨_, rfl⟩
  rw [← hys] at hit h64t hne hfit
  obtain ⟨M, hM⟩ : ∃ M, M = fewN n := ⟨_, rfl⟩
  have hMb : M ≤ n ∧ M ≤ 480 := by rw [hM]; exact hfn
  rw [← hM] at hit hfit
  obtain ⟨S, hS⟩ : ∃ S, S = scanR ys := ⟨_, rfl⟩
  have hyl : ys.length = M := hit.1.symm
  have hfits : Fits S (ys.length / 16) := by rw [hS]; exact fits_scan ys
  rw [hyl] at hfits
  obtain ⟨D, hD⟩ : ∃ D, D = M / 16 := ⟨_, rfl⟩
  rw [← hS] at hne hfit
  rw [← hD] at hfits hfit
  have hD30 : D ≤ 30 := by omega
  have hSD : S.free ≤ D := hfits.free
  have hs0 : 0 ≤ S.seq := hfits.seq.1
  have hs1 : S.seq < 4294967295 := by have := hfits.seq.2; omega
  have hok : putsOk (S.seq + 1) (-1) ((allL 0).take 1) = true := allL_ok 0 (by omega) (by omega)
  have hlen : ((allL 0).take 1).length = 1 := by simp [allL]
  have h13 : ∀ r ∈ (allL 0).take 1, r.length = 13 := fun r hr => allL_len 0 r (List.mem_of_mem_take hr)
  have hgl : (putSlots (S.seq + 1) false ((allL 0).take 1)).flatten.length = 16 * (1 + 1) := by rw [putSlots_flat h13, hlen]
  obtain ⟨gc, gl, ga, hG⟩ : ∃ gc gl ga, (gc, gl, ga) = gputR ys (S.seq + 1) false ((allL 0).take 1) := ⟨_, _, _, rfl⟩
  have hGv : gc = 4 ∧ gl.length = 0 ∧ ga = 0 := by
    unfold gputR at hG
    rw [if_pos ⟨by omega, by omega, hok⟩, ← hS, hyl, ← hD, hlen, if_neg hfit] at hG
    simp only [Prod.mk.injEq] at hG
    obtain ⟨rfl, rfl, rfl⟩ := hG
    exact ⟨rfl, rfl, rfl⟩
  obtain ⟨rfl, hgL, rfl⟩ := hGv
  have hlt : (D : Int) - (S.free : Int) < 2 := by omega
  have hSL : S.live.length = 44 := hfits.live
  have hDs : slotsI (M : Int) = (D : Int) := by rw [slotsI_nat, hD]
  have HT := Lib.hid ht
  have HI := Lib.hid hit
  have H64 := Lib.hid h64t
  have HMB := Lib.hid hMb
  have HM := Lib.hid hM
  have HN := Lib.hid hn
  have HC := Lib.hid hc
  have HS := Lib.hid hS
  have HSL := Lib.hid hSL
  have HG := Lib.hid hG
  have HA4 := Lib.hid ha4
  have HDs := Lib.hid hDs
  have HQ := Lib.hid (show I64 (S.seq + 1) by unfold I64; omega)
  have HMBx := HMB.out
  have hm0 : (0 : Int) ≤ (M : Int) := by omega
  clear HMBx
  have HR64 := Lib.hid (show ∀ r ∈ (allL 0).take 1, ∀ x ∈ r, I64 x from fun r hr => allL_64 0 r (List.mem_of_mem_take hr))
  have HL0 := Lib.hid (show fnd0.live.length = 44 by decide)
  have HGL := Lib.hid hgL
  have hneb : (S.seq == 4294967295) = false := by simp [hne]
  have hnr' := hnr
  unfold maxLen at hnr'
  clear ht hi hit h64 h64t hys hfn hMb hM hn hc hS hSL hG ha4 hDs hfits hyl hD hok hlen h13 hgl hgL hfit hnr
  go_enter Tryd.func8, Tryd.ntmps8
  go_upto_region 8 with (first
    | (go_at_call 17; refine (works_any _ HT.out).mono ?_; rintro e w1 ⟨rfl, k1⟩; have HT1 := Lib.hid (HT.out.keep k1); have HI1 := Lib.hid (HI.out.keep0 k1); have K1 := Lib.hid k1; clear k1)
    | (go_at_call 9; refine (few_any _ _ _ _ HN.out HC.out).mono ?_; rw [← HM.out]; rintro e w' ⟨rfl, rfl⟩)
    | (go_at_call 12; refine (scan_any _ M c ys _ HT1.out HI1.out (by have := HMB.out; have := HN.out; omega) HC.out H64.out).mono ?_; rw [← HS.out]; rintro e w2 ⟨rfl, k2⟩; have h7 : FAt (w2.alloc (.cells (fndV fnd0) 28)) w2.heap.size 28 [] fnd0 := heap_alloc_new w2 _; have HT2 := Lib.hid (HT1.out.keep (k2.alloc (.cells (fndV fnd0) 28))); have HI2 := Lib.hid (HI1.out.keep0 (k2.alloc (.cells (fndV fnd0) 28))); have K2 := Lib.hid (K1.out.trans0 k2); clear k2)
    | (simp only [zeros48])
    | (refine st_fnd _ _ h7 HL0.out HSL.out rfl rfl rfl rfl ?_; intro w8 h8 k8 s8; simp only [Act.put]; have d0 : w8.cell? ⟨w2.heap.size, 0, none⟩ = some (.bool S.has) := h8.has; have d1 : w8.cell? ⟨w2.heap.size, 1, none⟩ = some (.int .i64 S.seq) := h8.seq; have d3 : w8.cell? ⟨w2.heap.size, 46, none⟩ = some (.int .i64 S.com) := h8.com HSL.out; have d4 : w8.cell? ⟨w2.heap.size, 47, none⟩ = some (.int .i64 (S.free : Int)) := h8.free HSL.out; have HF := Lib.hid h8; have K8 := Lib.hid ((K2.out.alloc (.cells (fndV fnd0) 28)).trans k8 (by intro x hx; right; have := K2.out.size; simp at hx; omega)); have HT8 := Lib.hid (HT.out.keep K8.out); have HI8 := Lib.hid (HI.out.keep0 K8.out); clear h8 h7 k8)
    | (go_at_call 20; refine (among_any _ 4 _ (by omega) (by omega)).mono ?_; rw [HA4.out]; rintro e w' ⟨rfl, rfl⟩))
  have hw1 : IntKind.i64.wrap (S.seq + 1) = S.seq + 1 := IntWalk.i64_in _ (by omega)
  go_cut [7, 8, 9] from 23 to 34 (fun s7 s8 s9 wx => ∃ A3 c3, s7 = .slice A3 gl.length c3 ∧ s8 = .int .i64 (0) ∧ s9 = .int .i64 4 ∧ Keeps [] w8 wx)
  case first =>
    go_region_held3 (fun wz => wz.cell? ⟨w2.heap.size, 1, none⟩ = some (.int .i64 S.seq)) (first | exact d1 | exact p1 | exact q1 | go_keep) (first
      | (go_at_call 21; refine (all_any 0 _).mono ?_; rw [kinds_all]; rintro e w9 ⟨a2, c2, rfl, r2, l2, m2, k9⟩; have R2 := Lib.hid (recs_front r2 (show 1 ≤ 4 by omega)); have k9' := ((Keeps.refl [] w8).drewN 1).trans0 k9; have K9 := Lib.hid (show Keeps [] w8 w9 from k9'); have HF9 := Lib.hid (HF.out.keep k9' (by simp)); have p0 : w9.cell? ⟨w2.heap.size, 0, none⟩ = some (.bool S.has) := HF9.out.has; have p1 : w9.cell? ⟨w2.heap.size, 1, none⟩ = some (.int .i64 S.seq) := HF9.out.seq; have p3 : w9.cell? ⟨w2.heap.size, 46, none⟩ = some (.int .i64 S.com) := HF9.out.com HSL.out; have p4 : w9.cell? ⟨w2.heap.size, 47, none⟩ = some (.int .i64 (S.free : Int)) := HF9.out.free HSL.out; clear r2 k9 k9'; have l2i : (1 : Int) ≤ (c2 : Int) := by omega)
      | (go_at_call 18; refine (put_any _ M c ys (S.seq + 1) false a2 1 c2 ((allL 0).take 1) _ (HT8.out.keep K9.out) (HI8.out.keep0 K9.out) (by have := HMB.out; have := HN.out; omega) HC.out R2.out (by omega) HQ.out HR64.out).mono ?_; rw [← HG.out]; rintro e w10 ⟨A3, c3, rfl, i3, k3, l3, m3⟩; have K10 := Lib.hid (K9.out.trans0 k3); have q1 : w10.cell? ⟨w2.heap.size, 1, none⟩ = some (.int .i64 S.seq) := (HF9.out.keep k3 (by simp)).seq; clear i3 k3))
    all_goals (go_wp2_with fail; go_meet; exact ⟨A3, c3, rfl, rfl, rfl, K10.out⟩)
  case rest =>
  obtain ⟨A3, c3, rfl, rfl, rfl, k9⟩ := hcut
  rw [HGL.out]
  clear d0 d1 d3 d4 hw1
  have hF := HF.out.keep k9 (by simp)
  have d0 : wc.cell? ⟨w2.heap.size, 0, none⟩ = some (.bool S.has) := hF.has; have d1 : wc.cell? ⟨w2.heap.size, 1, none⟩ = some (.int .i64 S.seq) := hF.seq; have d3 : wc.cell? ⟨w2.heap.size, 46, none⟩ = some (.int .i64 S.com) := hF.com HSL.out; have d4 : wc.cell? ⟨w2.heap.size, 47, none⟩ = some (.int .i64 (S.free : Int)) := hF.free HSL.out
  have K9 := Lib.hid (K8.out.trans0 k9)
  clear hF k9
  go_upto_region 9 with fail
  have hw2 : IntKind.i64.wrap ((D : Int) - (S.free : Int)) = (D : Int) - (S.free : Int) := IntWalk.i64_in _ (by omega)
  go_quiet ((go_at_call 14; refine Calls.quiet_of_same (flipF (slotsN_any M D _ HDs.out HMB.out.2))))
  trace_state
  go_wp2_with fail
  all_goals (go_ret; exact ⟨rfl, K9.out.drewN _⟩)

set_option maxHeartbeats 4000000 in
theorem gfull_1f (a : Option Addr) (n c : Nat) (xs : List Int) (ar : Option Addr) (nr cr : Nat) (w : World) (ht : Turns w) (hi : IntsAt w a n xs) (hn : n ≤ c) (hc : c ≤ maxLen) (h64 : ∀ x ∈ xs, I64 x) (hnr : nr ≤ maxLen) (ha4 : amongI (nr : Int) 4 = 1)
    (hne : ¬ (scanR (xs.take (fewN n))).seq = 4294967295) (hfit : (scanR (xs.take (fewN n))).free + 2 + 1 ≤ (fewN n / 16)) :
    Calls Tryd.prog 8 #[.slice a n c, .slice ar nr cr] w fun e w' => e = .returned (.bool true) ∧ Keeps [] w w' := by
  have hfn := fewN_le n
  have hit := hi.take (k := fewN n) hfn.1
  have h64t := take_64F (k := fewN n) h64
  obtain ⟨ys, hys⟩ : ∃ ys, ys = xs.take (fewN n) := ⟨_, rfl⟩
  rw [← hys] at hit h64t hne hfit
  obtain ⟨M, hM⟩ : ∃ M, M = fewN n := ⟨_, rfl⟩
  have hMb : M ≤ n ∧ M ≤ 480 := by rw [hM]; exact hfn
  rw [← hM] at hit hfit
  obtain ⟨S, hS⟩ : ∃ S, S = scanR ys := ⟨_, rfl⟩
  have hyl : ys.length = M := hit.1.symm
  have hfits : Fits S (ys.length / 16) := by rw [hS]; exact fits_scan ys
  rw [hyl] at hfits
  obtain ⟨D, hD⟩ : ∃ D, D = M / 16 := ⟨_, rfl⟩
  rw [← hS] at hne hfit
  rw [← hD] at hfits hfit
  have hD30 : D ≤ 30 := by omega
  have hSD : S.free ≤ D := hfits.free
  have hs0 : 0 ≤ S.seq := hfits.seq.1
  have hs1 : S.seq < 4294967295 := by have := hfits.seq.2; omega
  have hok : putsOk (S.seq + 1) (-1) ((allL 0).take 2) = true := allL_ok 0 (by omega) (by omega)
  have hlen : ((allL 0).take 2).length = 2 := by simp [allL]
  have h13 : ∀ r ∈ (allL 0).take 2, r.length = 13 := fun r hr => allL_len 0 r (List.mem_of_mem_take hr)
  have hgl : (putSlots (S.seq + 1) false ((allL 0).take 2)).flatten.length = 16 * (2 + 1) := by rw [putSlots_flat h13, hlen]
  obtain ⟨gc, gl, ga, hG⟩ : ∃ gc gl ga, (gc, gl, ga) = gputR ys (S.seq + 1) false ((allL 0).take 2) := ⟨_, _, _, rfl⟩
  have hGv : gc = 0 ∧ gl.length = 48 ∧ ga = 16 * (S.free : Int) := by
    unfold gputR at hG
    rw [if_pos ⟨by omega, by omega, hok⟩, ← hS, hyl, ← hD, hlen, if_pos hfit] at hG
    simp only [Prod.mk.injEq] at hG
    obtain ⟨rfl, rfl, rfl⟩ := hG
    exact ⟨rfl, hgl, rfl⟩
  obtain ⟨rfl, hgL, rfl⟩ := hGv
  have hlt : ¬ ((D : Int) - (S.free : Int) < 3) := by omega
  have hSL : S.live.length = 44 := hfits.live
  have hDs : slotsI (M : Int) = (D : Int) := by rw [slotsI_nat, hD]
  have HT := Lib.hid ht
  have HI := Lib.hid hit
  have H64 := Lib.hid h64t
  have HMB := Lib.hid hMb
  have HM := Lib.hid hM
  have HN := Lib.hid hn
  have HC := Lib.hid hc
  have HS := Lib.hid hS
  have HSL := Lib.hid hSL
  have HG := Lib.hid hG
  have HA4 := Lib.hid ha4
  have HDs := Lib.hid hDs
  have HQ := Lib.hid (show I64 (S.seq + 1) by unfold I64; omega)
  have HMBx := HMB.out
  have hm0 : (0 : Int) ≤ (M : Int) := by omega
  clear HMBx
  have HR64 := Lib.hid (show ∀ r ∈ (allL 0).take 2, ∀ x ∈ r, I64 x from fun r hr => allL_64 0 r (List.mem_of_mem_take hr))
  have HL0 := Lib.hid (show fnd0.live.length = 44 by decide)
  have HGL := Lib.hid hgL
  have hneb : (S.seq == 4294967295) = false := by simp [hne]
  have hnr' := hnr
  unfold maxLen at hnr'
  clear ht hi hit h64 h64t hys hfn hMb hM hn hc hS hSL hG ha4 hDs hfits hyl hD hok hlen h13 hgl hgL hfit hnr
  go_enter Tryd.func8, Tryd.ntmps8
  go_upto_region 8 with (first
    | (go_at_call 17; refine (works_any _ HT.out).mono ?_; rintro e w1 ⟨rfl, k1⟩; have HT1 := Lib.hid (HT.out.keep k1); have HI1 := Lib.hid (HI.out.keep0 k1); have K1 := Lib.hid k1; clear k1)
    | (go_at_call 9; refine (few_any _ _ _ _ HN.out HC.out).mono ?_; rw [← HM.out]; rintro e w' ⟨rfl, rfl⟩)
    | (go_at_call 12; refine (scan_any _ M c ys _ HT1.out HI1.out (by have := HMB.out; have := HN.out; omega) HC.out H64.out).mono ?_; rw [← HS.out]; rintro e w2 ⟨rfl, k2⟩; have h7 : FAt (w2.alloc (.cells (fndV fnd0) 28)) w2.heap.size 28 [] fnd0 := heap_alloc_new w2 _; have HT2 := Lib.hid (HT1.out.keep (k2.alloc (.cells (fndV fnd0) 28))); have HI2 := Lib.hid (HI1.out.keep0 (k2.alloc (.cells (fndV fnd0) 28))); have K2 := Lib.hid (K1.out.trans0 k2); clear k2)
    | (simp only [zeros48])
    | (refine st_fnd _ _ h7 HL0.out HSL.out rfl rfl rfl rfl ?_; intro w8 h8 k8 s8; simp only [Act.put]; have d0 : w8.cell? ⟨w2.heap.size, 0, none⟩ = some (.bool S.has) := h8.has; have d1 : w8.cell? ⟨w2.heap.size, 1, none⟩ = some (.int .i64 S.seq) := h8.seq; have d3 : w8.cell? ⟨w2.heap.size, 46, none⟩ = some (.int .i64 S.com) := h8.com HSL.out; have d4 : w8.cell? ⟨w2.heap.size, 47, none⟩ = some (.int .i64 (S.free : Int)) := h8.free HSL.out; have HF := Lib.hid h8; have K8 := Lib.hid ((K2.out.alloc (.cells (fndV fnd0) 28)).trans k8 (by intro x hx; right; have := K2.out.size; simp at hx; omega)); have HT8 := Lib.hid (HT.out.keep K8.out); have HI8 := Lib.hid (HI.out.keep0 K8.out); clear h8 h7 k8)
    | (go_at_call 20; refine (among_any _ 4 _ (by omega) (by omega)).mono ?_; rw [HA4.out]; rintro e w' ⟨rfl, rfl⟩))
  have hw1 : IntKind.i64.wrap (S.seq + 1) = S.seq + 1 := IntWalk.i64_in _ (by omega)
  go_cut [7, 8, 9] from 23 to 34 (fun s7 s8 s9 wx => ∃ A3 c3, s7 = .slice A3 gl.length c3 ∧ s8 = .int .i64 (16 * (S.free : Int)) ∧ s9 = .int .i64 0 ∧ Keeps [] w8 wx)
  case first =>
    go_region_held3 (fun wz => wz.cell? ⟨w2.heap.size, 1, none⟩ = some (.int .i64 S.seq)) (first | exact d1 | exact p1 | exact q1 | go_keep) (first
      | (go_at_call 21; refine (all_any 0 _).mono ?_; rw [kinds_all]; rintro e w9 ⟨a2, c2, rfl, r2, l2, m2, k9⟩; have R2 := Lib.hid (recs_front r2 (show 2 ≤ 4 by omega)); have k9' := ((Keeps.refl [] w8).drewN 1).trans0 k9; have K9 := Lib.hid (show Keeps [] w8 w9 from k9'); have HF9 := Lib.hid (HF.out.keep k9' (by simp)); have p0 : w9.cell? ⟨w2.heap.size, 0, none⟩ = some (.bool S.has) := HF9.out.has; have p1 : w9.cell? ⟨w2.heap.size, 1, none⟩ = some (.int .i64 S.seq) := HF9.out.seq; have p3 : w9.cell? ⟨w2.heap.size, 46, none⟩ = some (.int .i64 S.com) := HF9.out.com HSL.out; have p4 : w9.cell? ⟨w2.heap.size, 47, none⟩ = some (.int .i64 (S.free : Int)) := HF9.out.free HSL.out; clear r2 k9 k9'; have l2i : (2 : Int) ≤ (c2 : Int) := by omega)
      | (go_at_call 18; refine (put_any _ M c ys (S.seq + 1) false a2 2 c2 ((allL 0).take 2) _ (HT8.out.keep K9.out) (HI8.out.keep0 K9.out) (by have := HMB.out; have := HN.out; omega) HC.out R2.out (by omega) HQ.out HR64.out).mono ?_; rw [← HG.out]; rintro e w10 ⟨A3, c3, rfl, i3, k3, l3, m3⟩; have K10 := Lib.hid (K9.out.trans0 k3); have q1 : w10.cell? ⟨w2.heap.size, 1, none⟩ = some (.int .i64 S.seq) := (HF9.out.keep k3 (by simp)).seq; clear i3 k3))
    all_goals (go_wp2_with fail; go_meet; exact ⟨A3, c3, rfl, rfl, rfl, K10.out⟩)
  case rest =>
  obtain ⟨A3, c3, rfl, rfl, rfl, k9⟩ := hcut
  rw [HGL.out]
  clear d0 d1 d3 d4 hw1
  have hF := HF.out.keep k9 (by simp)
  have d0 : wc.cell? ⟨w2.heap.size, 0, none⟩ = some (.bool S.has) := hF.has; have d1 : wc.cell? ⟨w2.heap.size, 1, none⟩ = some (.int .i64 S.seq) := hF.seq; have d3 : wc.cell? ⟨w2.heap.size, 46, none⟩ = some (.int .i64 S.com) := hF.com HSL.out; have d4 : wc.cell? ⟨w2.heap.size, 47, none⟩ = some (.int .i64 (S.free : Int)) := hF.free HSL.out
  have K9 := Lib.hid (K8.out.trans0 k9)
  clear hF k9
  go_upto_region 9 with fail
  have hw2 : IntKind.i64.wrap ((D : Int) - (S.free : Int)) = (D : Int) - (S.free : Int) := IntWalk.i64_in _ (by omega)
  go_quiet ((go_at_call 14; refine Calls.quiet_of_same (flipF (slotsN_any M D _ HDs.out HMB.out.2))))
  trace_state
  go_wp2_with fail
  all_goals (go_ret; exact ⟨rfl, K9.out.drewN _⟩)

set_option maxHeartbeats 4000000 in
theorem gfull_1n (a : Option Addr) (n c : Nat) (xs : List Int) (ar : Option Addr) (nr cr : Nat) (w : World) (ht : Turns w) (hi : IntsAt w a n xs) (hn : n ≤ c) (hc : c ≤ maxLen) (h64 : ∀ x ∈ xs, I64 x) (hnr : nr ≤ maxLen) (ha4 : amongI (nr : Int) 4 = 1)
    (hne : ¬ (scanR (xs.take (fewN n))).seq = 4294967295) (hfit : ¬ (scanR (xs.take (fewN n))).free + 2 + 1 ≤ (fewN n / 16)) :
    Calls Tryd.prog 8 #[.slice a n c, .slice ar nr cr] w fun e w' => e = .returned (.bool true) ∧ Keeps [] w w' := by
  have hfn := fewN_le n
  have hit := hi.take (k := fewN n) hfn.1
  have h64t := take_64F (k := fewN n) h64
  obtain ⟨ys, hys⟩ : ∃ ys, ys = xs.take (fewN n) := ⟨_, rfl⟩
  rw [← hys] at hit h64t hne hfit
  obtain ⟨M, hM⟩ : ∃ M, M = fewN n := ⟨_, rfl⟩
  have hMb : M ≤ n ∧ M ≤ 480 := by rw [hM]; exact hfn
  rw [← hM] at hit hfit
  obtain ⟨S, hS⟩ : ∃ S, S = scanR ys := ⟨_, rfl⟩
  have hyl : ys.length = M := hit.1.symm
  have hfits : Fits S (ys.length / 16) := by rw [hS]; exact fits_scan ys
  rw [hyl] at hfits
  obtain ⟨D, hD⟩ : ∃ D, D = M / 16 := ⟨_, rfl⟩
  rw [← hS] at hne hfit
  rw [← hD] at hfits hfit
  have hD30 : D ≤ 30 := by omega
  have hSD : S.free ≤ D := hfits.free
  have hs0 : 0 ≤ S.seq := hfits.seq.1
  have hs1 : S.seq < 4294967295 := by have := hfits.seq.2; omega
  have hok : putsOk (S.seq + 1) (-1) ((allL 0).take 2) = true := allL_ok 0 (by omega) (by omega)
  have hlen : ((allL 0).take 2).length = 2 := by simp [allL]
  have h13 : ∀ r ∈ (allL 0).take 2, r.length = 13 := fun r hr => allL_len 0 r (List.mem_of_mem_take hr)
  have hgl : (putSlots (S.seq + 1) false ((allL 0).take 2)).flatten.length = 16 * (2 + 1) := by rw [putSlots_flat h13, hlen]
  obtain ⟨gc, gl, ga, hG⟩ : ∃ gc gl ga, (gc, gl, ga) = gputR ys (S.seq + 1) false ((allL 0).take 2) := ⟨_, _, _, rfl⟩
  have hGv : gc = 4 ∧ gl.length = 0 ∧ ga = 0 := by
    unfold gputR at hG
    rw [if_pos ⟨by omega, by omega, hok⟩, ← hS, hyl, ← hD, hlen, if_neg hfit] at hG
    simp only [Prod.mk.injEq] at hG
    obtain ⟨rfl, rfl, rfl⟩ := hG
    exact ⟨rfl, rfl, rfl⟩
  obtain ⟨rfl, hgL, rfl⟩ := hGv
  have hlt : (D : Int) - (S.free : Int) < 3 := by omega
  have hSL : S.live.length = 44 := hfits.live
  have hDs : slotsI (M : Int) = (D : Int) := by rw [slotsI_nat, hD]
  have HT := Lib.hid ht
  have HI := Lib.hid hit
  have H64 := Lib.hid h64t
  have HMB := Lib.hid hMb
  have HM := Lib.hid hM
  have HN := Lib.hid hn
  have HC := Lib.hid hc
  have HS := Lib.hid hS
  have HSL := Lib.hid hSL
  have HG := Lib.hid hG
  have HA4 := Lib.hid ha4
  have HDs := Lib.hid hDs
  have HQ := Lib.hid (show I64 (S.seq + 1) by unfold I64; omega)
  have HMBx := HMB.out
  have hm0 : (0 : Int) ≤ (M : Int) := by omega
  clear HMBx
  have HR64 := Lib.hid (show ∀ r ∈ (allL 0).take 2, ∀ x ∈ r, I64 x from fun r hr => allL_64 0 r (List.mem_of_mem_take hr))
  have HL0 := Lib.hid (show fnd0.live.length = 44 by decide)
  have HGL := Lib.hid hgL
  have hneb : (S.seq == 4294967295) = false := by simp [hne]
  have hnr' := hnr
  unfold maxLen at hnr'
  clear ht hi hit h64 h64t hys hfn hMb hM hn hc hS hSL hG ha4 hDs hfits hyl hD hok hlen h13 hgl hgL hfit hnr
  go_enter Tryd.func8, Tryd.ntmps8
  go_upto_region 8 with (first
    | (go_at_call 17; refine (works_any _ HT.out).mono ?_; rintro e w1 ⟨rfl, k1⟩; have HT1 := Lib.hid (HT.out.keep k1); have HI1 := Lib.hid (HI.out.keep0 k1); have K1 := Lib.hid k1; clear k1)
    | (go_at_call 9; refine (few_any _ _ _ _ HN.out HC.out).mono ?_; rw [← HM.out]; rintro e w' ⟨rfl, rfl⟩)
    | (go_at_call 12; refine (scan_any _ M c ys _ HT1.out HI1.out (by have := HMB.out; have := HN.out; omega) HC.out H64.out).mono ?_; rw [← HS.out]; rintro e w2 ⟨rfl, k2⟩; have h7 : FAt (w2.alloc (.cells (fndV fnd0) 28)) w2.heap.size 28 [] fnd0 := heap_alloc_new w2 _; have HT2 := Lib.hid (HT1.out.keep (k2.alloc (.cells (fndV fnd0) 28))); have HI2 := Lib.hid (HI1.out.keep0 (k2.alloc (.cells (fndV fnd0) 28))); have K2 := Lib.hid (K1.out.trans0 k2); clear k2)
    | (simp only [zeros48])
    | (refine st_fnd _ _ h7 HL0.out HSL.out rfl rfl rfl rfl ?_; intro w8 h8 k8 s8; simp only [Act.put]; have d0 : w8.cell? ⟨w2.heap.size, 0, none⟩ = some (.bool S.has) := h8.has; have d1 : w8.cell? ⟨w2.heap.size, 1, none⟩ = some (.int .i64 S.seq) := h8.seq; have d3 : w8.cell? ⟨w2.heap.size, 46, none⟩ = some (.int .i64 S.com) := h8.com HSL.out; have d4 : w8.cell? ⟨w2.heap.size, 47, none⟩ = some (.int .i64 (S.free : Int)) := h8.free HSL.out; have HF := Lib.hid h8; have K8 := Lib.hid ((K2.out.alloc (.cells (fndV fnd0) 28)).trans k8 (by intro x hx; right; have := K2.out.size; simp at hx; omega)); have HT8 := Lib.hid (HT.out.keep K8.out); have HI8 := Lib.hid (HI.out.keep0 K8.out); clear h8 h7 k8)
    | (go_at_call 20; refine (among_any _ 4 _ (by omega) (by omega)).mono ?_; rw [HA4.out]; rintro e w' ⟨rfl, rfl⟩))
  have hw1 : IntKind.i64.wrap (S.seq + 1) = S.seq + 1 := IntWalk.i64_in _ (by omega)
  go_cut [7, 8, 9] from 23 to 34 (fun s7 s8 s9 wx => ∃ A3 c3, s7 = .slice A3 gl.length c3 ∧ s8 = .int .i64 (0) ∧ s9 = .int .i64 4 ∧ Keeps [] w8 wx)
  case first =>
    go_region_held3 (fun wz => wz.cell? ⟨w2.heap.size, 1, none⟩ = some (.int .i64 S.seq)) (first | exact d1 | exact p1 | exact q1 | go_keep) (first
      | (go_at_call 21; refine (all_any 0 _).mono ?_; rw [kinds_all]; rintro e w9 ⟨a2, c2, rfl, r2, l2, m2, k9⟩; have R2 := Lib.hid (recs_front r2 (show 2 ≤ 4 by omega)); have k9' := ((Keeps.refl [] w8).drewN 1).trans0 k9; have K9 := Lib.hid (show Keeps [] w8 w9 from k9'); have HF9 := Lib.hid (HF.out.keep k9' (by simp)); have p0 : w9.cell? ⟨w2.heap.size, 0, none⟩ = some (.bool S.has) := HF9.out.has; have p1 : w9.cell? ⟨w2.heap.size, 1, none⟩ = some (.int .i64 S.seq) := HF9.out.seq; have p3 : w9.cell? ⟨w2.heap.size, 46, none⟩ = some (.int .i64 S.com) := HF9.out.com HSL.out; have p4 : w9.cell? ⟨w2.heap.size, 47, none⟩ = some (.int .i64 (S.free : Int)) := HF9.out.free HSL.out; clear r2 k9 k9'; have l2i : (2 : Int) ≤ (c2 : Int) := by omega)
      | (go_at_call 18; refine (put_any _ M c ys (S.seq + 1) false a2 2 c2 ((allL 0).take 2) _ (HT8.out.keep K9.out) (HI8.out.keep0 K9.out) (by have := HMB.out; have := HN.out; omega) HC.out R2.out (by omega) HQ.out HR64.out).mono ?_; rw [← HG.out]; rintro e w10 ⟨A3, c3, rfl, i3, k3, l3, m3⟩; have K10 := Lib.hid (K9.out.trans0 k3); have q1 : w10.cell? ⟨w2.heap.size, 1, none⟩ = some (.int .i64 S.seq) := (HF9.out.keep k3 (by simp)).seq; clear i3 k3))
    all_goals (go_wp2_with fail; go_meet; exact ⟨A3, c3, rfl, rfl, rfl, K10.out⟩)
  case rest =>
  obtain ⟨A3, c3, rfl, rfl, rfl, k9⟩ := hcut
  rw [HGL.out]
  clear d0 d1 d3 d4 hw1
  have hF := HF.out.keep k9 (by simp)
  have d0 : wc.cell? ⟨w2.heap.size, 0, none⟩ = some (.bool S.has) := hF.has; have d1 : wc.cell? ⟨w2.heap.size, 1, none⟩ = some (.int .i64 S.seq) := hF.seq; have d3 : wc.cell? ⟨w2.heap.size, 46, none⟩ = some (.int .i64 S.com) := hF.com HSL.out; have d4 : wc.cell? ⟨w2.heap.size, 47, none⟩ = some (.int .i64 (S.free : Int)) := hF.free HSL.out
  have K9 := Lib.hid (K8.out.trans0 k9)
  clear hF k9
  go_upto_region 9 with fail
  have hw2 : IntKind.i64.wrap ((D : Int) - (S.free : Int)) = (D : Int) - (S.free : Int) := IntWalk.i64_in _ (by omega)
  go_quiet ((go_at_call 14; refine Calls.quiet_of_same (flipF (slotsN_any M D _ HDs.out HMB.out.2))))
  trace_state
  go_wp2_with fail
  all_goals (go_ret; exact ⟨rfl, K9.out.drewN _⟩)

set_option maxHeartbeats 4000000 in
theorem gfull_2f (a : Option Addr) (n c : Nat) (xs : List Int) (ar : Option Addr) (nr cr : Nat) (w : World) (ht : Turns w) (hi : IntsAt w a n xs) (hn : n ≤ c) (hc : c ≤ maxLen) (h64 : ∀ x ∈ xs, I64 x) (hnr : nr ≤ maxLen) (ha4 : amongI (nr : Int) 4 = 2)
    (hne : ¬ (scanR (xs.take (fewN n))).seq = 4294967295) (hfit : (scanR (xs.take (fewN n))).free + 3 + 1 ≤ (fewN n / 16)) :
    Calls Tryd.prog 8 #[.slice a n c, .slice ar nr cr] w fun e w' => e = .returned (.bool true) ∧ Keeps [] w w' := by
  have hfn := fewN_le n
  have hit := hi.take (k := fewN n) hfn.1
  have h64t := take_64F (k := fewN n) h64
  obtain ⟨ys, hys⟩ : ∃ ys, ys = xs.take (fewN n) := ⟨_, rfl⟩
  rw [← hys] at hit h64t hne hfit
  obtain ⟨M, hM⟩ : ∃ M, M = fewN n := ⟨_, rfl⟩
  have hMb : M ≤ n ∧ M ≤ 480 := by rw [hM]; exact hfn
  rw [← hM] at hit hfit
  obtain ⟨S, hS⟩ : ∃ S, S = scanR ys := ⟨_, rfl⟩
  have hyl : ys.length = M := hit.1.symm
  have hfits : Fits S (ys.length / 16) := by rw [hS]; exact fits_scan ys
  rw [hyl] at hfits
  obtain ⟨D, hD⟩ : ∃ D, D = M / 16 := ⟨_, rfl⟩
  rw [← hS] at hne hfit
  rw [← hD] at hfits hfit
  have hD30 : D ≤ 30 := by omega
  have hSD : S.free ≤ D := hfits.free
  have hs0 : 0 ≤ S.seq := hfits.seq.1
  have hs1 : S.seq < 4294967295 := by have := hfits.seq.2; omega
  have hok : putsOk (S.seq + 1) (-1) ((allL 0).take 3) = true := allL_ok 0 (by omega) (by omega)
  have hlen : ((allL 0).take 3).length = 3 := by simp [allL]
  have h13 : ∀ r ∈ (allL 0).take 3, r.length = 13 := fun r hr => allL_len 0 r (List.mem_of_mem_take hr)
  have hgl : (putSlots (S.seq + 1) false ((allL 0).take 3)).flatten.length = 16 * (3 + 1) := by rw [putSlots_flat h13, hlen]
  obtain ⟨gc, gl, ga, hG⟩ : ∃ gc gl ga, (gc, gl, ga) = gputR ys (S.seq + 1) false ((allL 0).take 3) := ⟨_, _, _, rfl⟩
  have hGv : gc = 0 ∧ gl.length = 64 ∧ ga = 16 * (S.free : Int) := by
    unfold gputR at hG
    rw [if_pos ⟨by omega, by omega, hok⟩, ← hS, hyl, ← hD, hlen, if_pos hfit] at hG
    simp only [Prod.mk.injEq] at hG
    obtain ⟨rfl, rfl, rfl⟩ := hG
    exact ⟨rfl, hgl, rfl⟩
  obtain ⟨rfl, hgL, rfl⟩ := hGv
  have hlt : ¬ ((D : Int) - (S.free : Int) < 4) := by omega
  have hSL : S.live.length = 44 := hfits.live
  have hDs : slotsI (M : Int) = (D : Int) := by rw [slotsI_nat, hD]
  have HT := Lib.hid ht
  have HI := Lib.hid hit
  have H64 := Lib.hid h64t
  have HMB := Lib.hid hMb
  have HM := Lib.hid hM
  have HN := Lib.hid hn
  have HC := Lib.hid hc
  have HS := Lib.hid hS
  have HSL := Lib.hid hSL
  have HG := Lib.hid hG
  have HA4 := Lib.hid ha4
  have HDs := Lib.hid hDs
  have HQ := Lib.hid (show I64 (S.seq + 1) by unfold I64; omega)
  have HMBx := HMB.out
  have hm0 : (0 : Int) ≤ (M : Int) := by omega
  clear HMBx
  have HR64 := Lib.hid (show ∀ r ∈ (allL 0).take 3, ∀ x ∈ r, I64 x from fun r hr => allL_64 0 r (List.mem_of_mem_take hr))
  have HL0 := Lib.hid (show fnd0.live.length = 44 by decide)
  have HGL := Lib.hid hgL
  have hneb : (S.seq == 4294967295) = false := by simp [hne]
  have hnr' := hnr
  unfold maxLen at hnr'
  clear ht hi hit h64 h64t hys hfn hMb hM hn hc hS hSL hG ha4 hDs hfits hyl hD hok hlen h13 hgl hgL hfit hnr
  go_enter Tryd.func8, Tryd.ntmps8
  go_upto_region 8 with (first
    | (go_at_call 17; refine (works_any _ HT.out).mono ?_; rintro e w1 ⟨rfl, k1⟩; have HT1 := Lib.hid (HT.out.keep k1); have HI1 := Lib.hid (HI.out.keep0 k1); have K1 := Lib.hid k1; clear k1)
    | (go_at_call 9; refine (few_any _ _ _ _ HN.out HC.out).mono ?_; rw [← HM.out]; rintro e w' ⟨rfl, rfl⟩)
    | (go_at_call 12; refine (scan_any _ M c ys _ HT1.out HI1.out (by have := HMB.out; have := HN.out; omega) HC.out H64.out).mono ?_; rw [← HS.out]; rintro e w2 ⟨rfl, k2⟩; have h7 : FAt (w2.alloc (.cells (fndV fnd0) 28)) w2.heap.size 28 [] fnd0 := heap_alloc_new w2 _; have HT2 := Lib.hid (HT1.out.keep (k2.alloc (.cells (fndV fnd0) 28))); have HI2 := Lib.hid (HI1.out.keep0 (k2.alloc (.cells (fndV fnd0) 28))); have K2 := Lib.hid (K1.out.trans0 k2); clear k2)
    | (simp only [zeros48])
    | (refine st_fnd _ _ h7 HL0.out HSL.out rfl rfl rfl rfl ?_; intro w8 h8 k8 s8; simp only [Act.put]; have d0 : w8.cell? ⟨w2.heap.size, 0, none⟩ = some (.bool S.has) := h8.has; have d1 : w8.cell? ⟨w2.heap.size, 1, none⟩ = some (.int .i64 S.seq) := h8.seq; have d3 : w8.cell? ⟨w2.heap.size, 46, none⟩ = some (.int .i64 S.com) := h8.com HSL.out; have d4 : w8.cell? ⟨w2.heap.size, 47, none⟩ = some (.int .i64 (S.free : Int)) := h8.free HSL.out; have HF := Lib.hid h8; have K8 := Lib.hid ((K2.out.alloc (.cells (fndV fnd0) 28)).trans k8 (by intro x hx; right; have := K2.out.size; simp at hx; omega)); have HT8 := Lib.hid (HT.out.keep K8.out); have HI8 := Lib.hid (HI.out.keep0 K8.out); clear h8 h7 k8)
    | (go_at_call 20; refine (among_any _ 4 _ (by omega) (by omega)).mono ?_; rw [HA4.out]; rintro e w' ⟨rfl, rfl⟩))
  have hw1 : IntKind.i64.wrap (S.seq + 1) = S.seq + 1 := IntWalk.i64_in _ (by omega)
  go_cut [7, 8, 9] from 23 to 34 (fun s7 s8 s9 wx => ∃ A3 c3, s7 = .slice A3 gl.length c3 ∧ s8 = .int .i64 (16 * (S.free : Int)) ∧ s9 = .int .i64 0 ∧ Keeps [] w8 wx)
  case first =>
    go_region_held3 (fun wz => wz.cell? ⟨w2.heap.size, 1, none⟩ = some (.int .i64 S.seq)) (first | exact d1 | exact p1 | exact q1 | go_keep) (first
      | (go_at_call 21; refine (all_any 0 _).mono ?_; rw [kinds_all]; rintro e w9 ⟨a2, c2, rfl, r2, l2, m2, k9⟩; have R2 := Lib.hid (recs_front r2 (show 3 ≤ 4 by omega)); have k9' := ((Keeps.refl [] w8).drewN 1).trans0 k9; have K9 := Lib.hid (show Keeps [] w8 w9 from k9'); have HF9 := Lib.hid (HF.out.keep k9' (by simp)); have p0 : w9.cell? ⟨w2.heap.size, 0, none⟩ = some (.bool S.has) := HF9.out.has; have p1 : w9.cell? ⟨w2.heap.size, 1, none⟩ = some (.int .i64 S.seq) := HF9.out.seq; have p3 : w9.cell? ⟨w2.heap.size, 46, none⟩ = some (.int .i64 S.com) := HF9.out.com HSL.out; have p4 : w9.cell? ⟨w2.heap.size, 47, none⟩ = some (.int .i64 (S.free : Int)) := HF9.out.free HSL.out; clear r2 k9 k9'; have l2i : (3 : Int) ≤ (c2 : Int) := by omega)
      | (go_at_call 18; refine (put_any _ M c ys (S.seq + 1) false a2 3 c2 ((allL 0).take 3) _ (HT8.out.keep K9.out) (HI8.out.keep0 K9.out) (by have := HMB.out; have := HN.out; omega) HC.out R2.out (by omega) HQ.out HR64.out).mono ?_; rw [← HG.out]; rintro e w10 ⟨A3, c3, rfl, i3, k3, l3, m3⟩; have K10 := Lib.hid (K9.out.trans0 k3); have q1 : w10.cell? ⟨w2.heap.size, 1, none⟩ = some (.int .i64 S.seq) := (HF9.out.keep k3 (by simp)).seq; clear i3 k3))
    all_goals (go_wp2_with fail; go_meet; exact ⟨A3, c3, rfl, rfl, rfl, K10.out⟩)
  case rest =>
  obtain ⟨A3, c3, rfl, rfl, rfl, k9⟩ := hcut
  rw [HGL.out]
  clear d0 d1 d3 d4 hw1
  have hF := HF.out.keep k9 (by simp)
  have d0 : wc.cell? ⟨w2.heap.size, 0, none⟩ = some (.bool S.has) := hF.has; have d1 : wc.cell? ⟨w2.heap.size, 1, none⟩ = some (.int .i64 S.seq) := hF.seq; have d3 : wc.cell? ⟨w2.heap.size, 46, none⟩ = some (.int .i64 S.com) := hF.com HSL.out; have d4 : wc.cell? ⟨w2.heap.size, 47, none⟩ = some (.int .i64 (S.free : Int)) := hF.free HSL.out
  have K9 := Lib.hid (K8.out.trans0 k9)
  clear hF k9
  go_upto_region 9 with fail
  have hw2 : IntKind.i64.wrap ((D : Int) - (S.free : Int)) = (D : Int) - (S.free : Int) := IntWalk.i64_in _ (by omega)
  go_quiet ((go_at_call 14; refine Calls.quiet_of_same (flipF (slotsN_any M D _ HDs.out HMB.out.2))))
  trace_state
  go_wp2_with fail
  all_goals (go_ret; exact ⟨rfl, K9.out.drewN _⟩)

set_option maxHeartbeats 4000000 in
theorem gfull_2n (a : Option Addr) (n c : Nat) (xs : List Int) (ar : Option Addr) (nr cr : Nat) (w : World) (ht : Turns w) (hi : IntsAt w a n xs) (hn : n ≤ c) (hc : c ≤ maxLen) (h64 : ∀ x ∈ xs, I64 x) (hnr : nr ≤ maxLen) (ha4 : amongI (nr : Int) 4 = 2)
    (hne : ¬ (scanR (xs.take (fewN n))).seq = 4294967295) (hfit : ¬ (scanR (xs.take (fewN n))).free + 3 + 1 ≤ (fewN n / 16)) :
    Calls Tryd.prog 8 #[.slice a n c, .slice ar nr cr] w fun e w' => e = .returned (.bool true) ∧ Keeps [] w w' := by
  have hfn := fewN_le n
  have hit := hi.take (k := fewN n) hfn.1
  have h64t := take_64F (k := fewN n) h64
  obtain ⟨ys, hys⟩ : ∃ ys, ys = xs.take (fewN n) := ⟨_, rfl⟩
  rw [← hys] at hit h64t hne hfit
  obtain ⟨M, hM⟩ : ∃ M, M = fewN n := ⟨_, rfl⟩
  have hMb : M ≤ n ∧ M ≤ 480 := by rw [hM]; exact hfn
  rw [← hM] at hit hfit
  obtain ⟨S, hS⟩ : ∃ S, S = scanR ys := ⟨_, rfl⟩
  have hyl : ys.length = M := hit.1.symm
  have hfits : Fits S (ys.length / 16) := by rw [hS]; exact fits_scan ys
  rw [hyl] at hfits
  obtain ⟨D, hD⟩ : ∃ D, D = M / 16 := ⟨_, rfl⟩
  rw [← hS] at hne hfit
  rw [← hD] at hfits hfit
  have hD30 : D ≤ 30 := by omega
  have hSD : S.free ≤ D := hfits.free
  have hs0 : 0 ≤ S.seq := hfits.seq.1
  have hs1 : S.seq < 4294967295 := by have := hfits.seq.2; omega
  have hok : putsOk (S.seq + 1) (-1) ((allL 0).take 3) = true := allL_ok 0 (by omega) (by omega)
  have hlen : ((allL 0).take 3).length = 3 := by simp [allL]
  have h13 : ∀ r ∈ (allL 0).take 3, r.length = 13 := fun r hr => allL_len 0 r (List.mem_of_mem_take hr)
  have hgl : (putSlots (S.seq + 1) false ((allL 0).take 3)).flatten.length = 16 * (3 + 1) := by rw [putSlots_flat h13, hlen]
  obtain ⟨gc, gl, ga, hG⟩ : ∃ gc gl ga, (gc, gl, ga) = gputR ys (S.seq + 1) false ((allL 0).take 3) := ⟨_, _, _, rfl⟩
  have hGv : gc = 4 ∧ gl.length = 0 ∧ ga = 0 := by
    unfold gputR at hG
    rw [if_pos ⟨by omega, by omega, hok⟩, ← hS, hyl, ← hD, hlen, if_neg hfit] at hG
    simp only [Prod.mk.injEq] at hG
    obtain ⟨rfl, rfl, rfl⟩ := hG
    exact ⟨rfl, rfl, rfl⟩
  obtain ⟨rfl, hgL, rfl⟩ := hGv
  have hlt : (D : Int) - (S.free : Int) < 4 := by omega
  have hSL : S.live.length = 44 := hfits.live
  have hDs : slotsI (M : Int) = (D : Int) := by rw [slotsI_nat, hD]
  have HT := Lib.hid ht
  have HI := Lib.hid hit
  have H64 := Lib.hid h64t
  have HMB := Lib.hid hMb
  have HM := Lib.hid hM
  have HN := Lib.hid hn
  have HC := Lib.hid hc
  have HS := Lib.hid hS
  have HSL := Lib.hid hSL
  have HG := Lib.hid hG
  have HA4 := Lib.hid ha4
  have HDs := Lib.hid hDs
  have HQ := Lib.hid (show I64 (S.seq + 1) by unfold I64; omega)
  have HMBx := HMB.out
  have hm0 : (0 : Int) ≤ (M : Int) := by omega
  clear HMBx
  have HR64 := Lib.hid (show ∀ r ∈ (allL 0).take 3, ∀ x ∈ r, I64 x from fun r hr => allL_64 0 r (List.mem_of_mem_take hr))
  have HL0 := Lib.hid (show fnd0.live.length = 44 by decide)
  have HGL := Lib.hid hgL
  have hneb : (S.seq == 4294967295) = false := by simp [hne]
  have hnr' := hnr
  unfold maxLen at hnr'
  clear ht hi hit h64 h64t hys hfn hMb hM hn hc hS hSL hG ha4 hDs hfits hyl hD hok hlen h13 hgl hgL hfit hnr
  go_enter Tryd.func8, Tryd.ntmps8
  go_upto_region 8 with (first
    | (go_at_call 17; refine (works_any _ HT.out).mono ?_; rintro e w1 ⟨rfl, k1⟩; have HT1 := Lib.hid (HT.out.keep k1); have HI1 := Lib.hid (HI.out.keep0 k1); have K1 := Lib.hid k1; clear k1)
    | (go_at_call 9; refine (few_any _ _ _ _ HN.out HC.out).mono ?_; rw [← HM.out]; rintro e w' ⟨rfl, rfl⟩)
    | (go_at_call 12; refine (scan_any _ M c ys _ HT1.out HI1.out (by have := HMB.out; have := HN.out; omega) HC.out H64.out).mono ?_; rw [← HS.out]; rintro e w2 ⟨rfl, k2⟩; have h7 : FAt (w2.alloc (.cells (fndV fnd0) 28)) w2.heap.size 28 [] fnd0 := heap_alloc_new w2 _; have HT2 := Lib.hid (HT1.out.keep (k2.alloc (.cells (fndV fnd0) 28))); have HI2 := Lib.hid (HI1.out.keep0 (k2.alloc (.cells (fndV fnd0) 28))); have K2 := Lib.hid (K1.out.trans0 k2); clear k2)
    | (simp only [zeros48])
    | (refine st_fnd _ _ h7 HL0.out HSL.out rfl rfl rfl rfl ?_; intro w8 h8 k8 s8; simp only [Act.put]; have d0 : w8.cell? ⟨w2.heap.size, 0, none⟩ = some (.bool S.has) := h8.has; have d1 : w8.cell? ⟨w2.heap.size, 1, none⟩ = some (.int .i64 S.seq) := h8.seq; have d3 : w8.cell? ⟨w2.heap.size, 46, none⟩ = some (.int .i64 S.com) := h8.com HSL.out; have d4 : w8.cell? ⟨w2.heap.size, 47, none⟩ = some (.int .i64 (S.free : Int)) := h8.free HSL.out; have HF := Lib.hid h8; have K8 := Lib.hid ((K2.out.alloc (.cells (fndV fnd0) 28)).trans k8 (by intro x hx; right; have := K2.out.size; simp at hx; omega)); have HT8 := Lib.hid (HT.out.keep K8.out); have HI8 := Lib.hid (HI.out.keep0 K8.out); clear h8 h7 k8)
    | (go_at_call 20; refine (among_any _ 4 _ (by omega) (by omega)).mono ?_; rw [HA4.out]; rintro e w' ⟨rfl, rfl⟩))
  have hw1 : IntKind.i64.wrap (S.seq + 1) = S.seq + 1 := IntWalk.i64_in _ (by omega)
  go_cut [7, 8, 9] from 23 to 34 (fun s7 s8 s9 wx => ∃ A3 c3, s7 = .slice A3 gl.length c3 ∧ s8 = .int .i64 (0) ∧ s9 = .int .i64 4 ∧ Keeps [] w8 wx)
  case first =>
    go_region_held3 (fun wz => wz.cell? ⟨w2.heap.size, 1, none⟩ = some (.int .i64 S.seq)) (first | exact d1 | exact p1 | exact q1 | go_keep) (first
      | (go_at_call 21; refine (all_any 0 _).mono ?_; rw [kinds_all]; rintro e w9 ⟨a2, c2, rfl, r2, l2, m2, k9⟩; have R2 := Lib.hid (recs_front r2 (show 3 ≤ 4 by omega)); have k9' := ((Keeps.refl [] w8).drewN 1).trans0 k9; have K9 := Lib.hid (show Keeps [] w8 w9 from k9'); have HF9 := Lib.hid (HF.out.keep k9' (by simp)); have p0 : w9.cell? ⟨w2.heap.size, 0, none⟩ = some (.bool S.has) := HF9.out.has; have p1 : w9.cell? ⟨w2.heap.size, 1, none⟩ = some (.int .i64 S.seq) := HF9.out.seq; have p3 : w9.cell? ⟨w2.heap.size, 46, none⟩ = some (.int .i64 S.com) := HF9.out.com HSL.out; have p4 : w9.cell? ⟨w2.heap.size, 47, none⟩ = some (.int .i64 (S.free : Int)) := HF9.out.free HSL.out; clear r2 k9 k9'; have l2i : (3 : Int) ≤ (c2 : Int) := by omega)
      | (go_at_call 18; refine (put_any _ M c ys (S.seq + 1) false a2 3 c2 ((allL 0).take 3) _ (HT8.out.keep K9.out) (HI8.out.keep0 K9.out) (by have := HMB.out; have := HN.out; omega) HC.out R2.out (by omega) HQ.out HR64.out).mono ?_; rw [← HG.out]; rintro e w10 ⟨A3, c3, rfl, i3, k3, l3, m3⟩; have K10 := Lib.hid (K9.out.trans0 k3); have q1 : w10.cell? ⟨w2.heap.size, 1, none⟩ = some (.int .i64 S.seq) := (HF9.out.keep k3 (by simp)).seq; clear i3 k3))
    all_goals (go_wp2_with fail; go_meet; exact ⟨A3, c3, rfl, rfl, rfl, K10.out⟩)
  case rest =>
  obtain ⟨A3, c3, rfl, rfl, rfl, k9⟩ := hcut
  rw [HGL.out]
  clear d0 d1 d3 d4 hw1
  have hF := HF.out.keep k9 (by simp)
  have d0 : wc.cell? ⟨w2.heap.size, 0, none⟩ = some (.bool S.has) := hF.has; have d1 : wc.cell? ⟨w2.heap.size, 1, none⟩ = some (.int .i64 S.seq) := hF.seq; have d3 : wc.cell? ⟨w2.heap.size, 46, none⟩ = some (.int .i64 S.com) := hF.com HSL.out; have d4 : wc.cell? ⟨w2.heap.size, 47, none⟩ = some (.int .i64 (S.free : Int)) := hF.free HSL.out
  have K9 := Lib.hid (K8.out.trans0 k9)
  clear hF k9
  go_upto_region 9 with fail
  have hw2 : IntKind.i64.wrap ((D : Int) - (S.free : Int)) = (D : Int) - (S.free : Int) := IntWalk.i64_in _ (by omega)
  go_quiet ((go_at_call 14; refine Calls.quiet_of_same (flipF (slotsN_any M D _ HDs.out HMB.out.2))))
  trace_state
  go_wp2_with fail
  all_goals (go_ret; exact ⟨rfl, K9.out.drewN _⟩)

set_option maxHeartbeats 4000000 in
theorem gfull_3f (a : Option Addr) (n c : Nat) (xs : List Int) (ar : Option Addr) (nr cr : Nat) (w : World) (ht : Turns w) (hi : IntsAt w a n xs) (hn : n ≤ c) (hc : c ≤ maxLen) (h64 : ∀ x ∈ xs, I64 x) (hnr : nr ≤ maxLen) (ha4 : amongI (nr : Int) 4 = 3)
    (hne : ¬ (scanR (xs.take (fewN n))).seq = 4294967295) (hfit : (scanR (xs.take (fewN n))).free + 4 + 1 ≤ (fewN n / 16)) :
    Calls Tryd.prog 8 #[.slice a n c, .slice ar nr cr] w fun e w' => e = .returned (.bool true) ∧ Keeps [] w w' := by
  have hfn := fewN_le n
  have hit := hi.take (k := fewN n) hfn.1
  have h64t := take_64F (k := fewN n) h64
  obtain ⟨ys, hys⟩ : ∃ ys, ys = xs.take (fewN n) := ⟨_, rfl⟩
  rw [← hys] at hit h64t hne hfit
  obtain ⟨M, hM⟩ : ∃ M, M = fewN n := ⟨_, rfl⟩
  have hMb : M ≤ n ∧ M ≤ 480 := by rw [hM]; exact hfn
  rw [← hM] at hit hfit
  obtain ⟨S, hS⟩ : ∃ S, S = scanR ys := ⟨_, rfl⟩
  have hyl : ys.length = M := hit.1.symm
  have hfits : Fits S (ys.length / 16) := by rw [hS]; exact fits_scan ys
  rw [hyl] at hfits
  obtain ⟨D, hD⟩ : ∃ D, D = M / 16 := ⟨_, rfl⟩
  rw [← hS] at hne hfit
  rw [← hD] at hfits hfit
  have hD30 : D ≤ 30 := by omega
  have hSD : S.free ≤ D := hfits.free
  have hs0 : 0 ≤ S.seq := hfits.seq.1
  have hs1 : S.seq < 4294967295 := by have := hfits.seq.2; omega
  have hok : putsOk (S.seq + 1) (-1) ((allL 0).take 4) = true := allL_ok 0 (by omega) (by omega)
  have hlen : ((allL 0).take 4).length = 4 := by simp [allL]
  have h13 : ∀ r ∈ (allL 0).take 4, r.length = 13 := fun r hr => allL_len 0 r (List.mem_of_mem_take hr)
  have hgl : (putSlots (S.seq + 1) false ((allL 0).take 4)).flatten.length = 16 * (4 + 1) := by rw [putSlots_flat h13, hlen]
  obtain ⟨gc, gl, ga, hG⟩ : ∃ gc gl ga, (gc, gl, ga) = gputR ys (S.seq + 1) false ((allL 0).take 4) := ⟨_, _, _, rfl⟩
  have hGv : gc = 0 ∧ gl.length = 80 ∧ ga = 16 * (S.free : Int) := by
    unfold gputR at hG
    rw [if_pos ⟨by omega, by omega, hok⟩, ← hS, hyl, ← hD, hlen, if_pos hfit] at hG
    simp only [Prod.mk.injEq] at hG
    obtain ⟨rfl, rfl, rfl⟩ := hG
    exact ⟨rfl, hgl, rfl⟩
  obtain ⟨rfl, hgL, rfl⟩ := hGv
  have hlt : ¬ ((D : Int) - (S.free : Int) < 5) := by omega
  have hSL : S.live.length = 44 := hfits.live
  have hDs : slotsI (M : Int) = (D : Int) := by rw [slotsI_nat, hD]
  have HT := Lib.hid ht
  have HI := Lib.hid hit
  have H64 := Lib.hid h64t
  have HMB := Lib.hid hMb
  have HM := Lib.hid hM
  have HN := Lib.hid hn
  have HC := Lib.hid hc
  have HS := Lib.hid hS
  have HSL := Lib.hid hSL
  have HG := Lib.hid hG
  have HA4 := Lib.hid ha4
  have HDs := Lib.hid hDs
  have HQ := Lib.hid (show I64 (S.seq + 1) by unfold I64; omega)
  have HMBx := HMB.out
  have hm0 : (0 : Int) ≤ (M : Int) := by omega
  clear HMBx
  have HR64 := Lib.hid (show ∀ r ∈ (allL 0).take 4, ∀ x ∈ r, I64 x from fun r hr => allL_64 0 r (List.mem_of_mem_take hr))
  have HL0 := Lib.hid (show fnd0.live.length = 44 by decide)
  have HGL := Lib.hid hgL
  have hneb : (S.seq == 4294967295) = false := by simp [hne]
  have hnr' := hnr
  unfold maxLen at hnr'
  clear ht hi hit h64 h64t hys hfn hMb hM hn hc hS hSL hG ha4 hDs hfits hyl hD hok hlen h13 hgl hgL hfit hnr
  go_enter Tryd.func8, Tryd.ntmps8
  go_upto_region 8 with (first
    | (go_at_call 17; refine (works_any _ HT.out).mono ?_; rintro e w1 ⟨rfl, k1⟩; have HT1 := Lib.hid (HT.out.keep k1); have HI1 := Lib.hid (HI.out.keep0 k1); have K1 := Lib.hid k1; clear k1)
    | (go_at_call 9; refine (few_any _ _ _ _ HN.out HC.out).mono ?_; rw [← HM.out]; rintro e w' ⟨rfl, rfl⟩)
    | (go_at_call 12; refine (scan_any _ M c ys _ HT1.out HI1.out (by have := HMB.out; have := HN.out; omega) HC.out H64.out).mono ?_; rw [← HS.out]; rintro e w2 ⟨rfl, k2⟩; have h7 : FAt (w2.alloc (.cells (fndV fnd0) 28)) w2.heap.size 28 [] fnd0 := heap_alloc_new w2 _; have HT2 := Lib.hid (HT1.out.keep (k2.alloc (.cells (fndV fnd0) 28))); have HI2 := Lib.hid (HI1.out.keep0 (k2.alloc (.cells (fndV fnd0) 28))); have K2 := Lib.hid (K1.out.trans0 k2); clear k2)
    | (simp only [zeros48])
    | (refine st_fnd _ _ h7 HL0.out HSL.out rfl rfl rfl rfl ?_; intro w8 h8 k8 s8; simp only [Act.put]; have d0 : w8.cell? ⟨w2.heap.size, 0, none⟩ = some (.bool S.has) := h8.has; have d1 : w8.cell? ⟨w2.heap.size, 1, none⟩ = some (.int .i64 S.seq) := h8.seq; have d3 : w8.cell? ⟨w2.heap.size, 46, none⟩ = some (.int .i64 S.com) := h8.com HSL.out; have d4 : w8.cell? ⟨w2.heap.size, 47, none⟩ = some (.int .i64 (S.free : Int)) := h8.free HSL.out; have HF := Lib.hid h8; have K8 := Lib.hid ((K2.out.alloc (.cells (fndV fnd0) 28)).trans k8 (by intro x hx; right; have := K2.out.size; simp at hx; omega)); have HT8 := Lib.hid (HT.out.keep K8.out); have HI8 := Lib.hid (HI.out.keep0 K8.out); clear h8 h7 k8)
    | (go_at_call 20; refine (among_any _ 4 _ (by omega) (by omega)).mono ?_; rw [HA4.out]; rintro e w' ⟨rfl, rfl⟩))
  have hw1 : IntKind.i64.wrap (S.seq + 1) = S.seq + 1 := IntWalk.i64_in _ (by omega)
  go_cut [7, 8, 9] from 23 to 34 (fun s7 s8 s9 wx => ∃ A3 c3, s7 = .slice A3 gl.length c3 ∧ s8 = .int .i64 (16 * (S.free : Int)) ∧ s9 = .int .i64 0 ∧ Keeps [] w8 wx)
  case first =>
    go_region_held3 (fun wz => wz.cell? ⟨w2.heap.size, 1, none⟩ = some (.int .i64 S.seq)) (first | exact d1 | exact p1 | exact q1 | go_keep) (first
      | (go_at_call 21; refine (all_any 0 _).mono ?_; rw [kinds_all]; rintro e w9 ⟨a2, c2, rfl, r2, l2, m2, k9⟩; have R2 := Lib.hid (recs_front r2 (show 4 ≤ 4 by omega)); have k9' := ((Keeps.refl [] w8).drewN 1).trans0 k9; have K9 := Lib.hid (show Keeps [] w8 w9 from k9'); have HF9 := Lib.hid (HF.out.keep k9' (by simp)); have p0 : w9.cell? ⟨w2.heap.size, 0, none⟩ = some (.bool S.has) := HF9.out.has; have p1 : w9.cell? ⟨w2.heap.size, 1, none⟩ = some (.int .i64 S.seq) := HF9.out.seq; have p3 : w9.cell? ⟨w2.heap.size, 46, none⟩ = some (.int .i64 S.com) := HF9.out.com HSL.out; have p4 : w9.cell? ⟨w2.heap.size, 47, none⟩ = some (.int .i64 (S.free : Int)) := HF9.out.free HSL.out; clear r2 k9 k9'; have l2i : (4 : Int) ≤ (c2 : Int) := by omega)
      | (go_at_call 18; refine (put_any _ M c ys (S.seq + 1) false a2 4 c2 ((allL 0).take 4) _ (HT8.out.keep K9.out) (HI8.out.keep0 K9.out) (by have := HMB.out; have := HN.out; omega) HC.out R2.out (by omega) HQ.out HR64.out).mono ?_; rw [← HG.out]; rintro e w10 ⟨A3, c3, rfl, i3, k3, l3, m3⟩; have K10 := Lib.hid (K9.out.trans0 k3); have q1 : w10.cell? ⟨w2.heap.size, 1, none⟩ = some (.int .i64 S.seq) := (HF9.out.keep k3 (by simp)).seq; clear i3 k3))
    all_goals (go_wp2_with fail; go_meet; exact ⟨A3, c3, rfl, rfl, rfl, K10.out⟩)
  case rest =>
  obtain ⟨A3, c3, rfl, rfl, rfl, k9⟩ := hcut
  rw [HGL.out]
  clear d0 d1 d3 d4 hw1
  have hF := HF.out.keep k9 (by simp)
  have d0 : wc.cell? ⟨w2.heap.size, 0, none⟩ = some (.bool S.has) := hF.has; have d1 : wc.cell? ⟨w2.heap.size, 1, none⟩ = some (.int .i64 S.seq) := hF.seq; have d3 : wc.cell? ⟨w2.heap.size, 46, none⟩ = some (.int .i64 S.com) := hF.com HSL.out; have d4 : wc.cell? ⟨w2.heap.size, 47, none⟩ = some (.int .i64 (S.free : Int)) := hF.free HSL.out
  have K9 := Lib.hid (K8.out.trans0 k9)
  clear hF k9
  go_upto_region 9 with fail
  have hw2 : IntKind.i64.wrap ((D : Int) - (S.free : Int)) = (D : Int) - (S.free : Int) := IntWalk.i64_in _ (by omega)
  go_quiet ((go_at_call 14; refine Calls.quiet_of_same (flipF (slotsN_any M D _ HDs.out HMB.out.2))))
  trace_state
  go_wp2_with fail
  all_goals (go_ret; exact ⟨rfl, K9.out.drewN _⟩)

set_option maxHeartbeats 4000000 in
theorem gfull_3n (a : Option Addr) (n c : Nat) (xs : List Int) (ar : Option Addr) (nr cr : Nat) (w : World) (ht : Turns w) (hi : IntsAt w a n xs) (hn : n ≤ c) (hc : c ≤ maxLen) (h64 : ∀ x ∈ xs, I64 x) (hnr : nr ≤ maxLen) (ha4 : amongI (nr : Int) 4 = 3)
    (hne : ¬ (scanR (xs.take (fewN n))).seq = 4294967295) (hfit : ¬ (scanR (xs.take (fewN n))).free + 4 + 1 ≤ (fewN n / 16)) :
    Calls Tryd.prog 8 #[.slice a n c, .slice ar nr cr] w fun e w' => e = .returned (.bool true) ∧ Keeps [] w w' := by
  have hfn := fewN_le n
  have hit := hi.take (k := fewN n) hfn.1
  have h64t := take_64F (k := fewN n) h64
  obtain ⟨ys, hys⟩ : ∃ ys, ys = xs.take (fewN n) := ⟨_, rfl⟩
  rw [← hys] at hit h64t hne hfit
  obtain ⟨M, hM⟩ : ∃ M, M = fewN n := ⟨_, rfl⟩
  have hMb : M ≤ n ∧ M ≤ 480 := by rw [hM]; exact hfn
  rw [← hM] at hit hfit
  obtain ⟨S, hS⟩ : ∃ S, S = scanR ys := ⟨_, rfl⟩
  have hyl : ys.length = M := hit.1.symm
  have hfits : Fits S (ys.length / 16) := by rw [hS]; exact fits_scan ys
  rw [hyl] at hfits
  obtain ⟨D, hD⟩ : ∃ D, D = M / 16 := ⟨_, rfl⟩
  rw [← hS] at hne hfit
  rw [← hD] at hfits hfit
  have hD30 : D ≤ 30 := by omega
  have hSD : S.free ≤ D := hfits.free
  have hs0 : 0 ≤ S.seq := hfits.seq.1
  have hs1 : S.seq < 4294967295 := by have := hfits.seq.2; omega
  have hok : putsOk (S.seq + 1) (-1) ((allL 0).take 4) = true := allL_ok 0 (by omega) (by omega)
  have hlen : ((allL 0).take 4).length = 4 := by simp [allL]
  have h13 : ∀ r ∈ (allL 0).take 4, r.length = 13 := fun r hr => allL_len 0 r (List.mem_of_mem_take hr)
  have hgl : (putSlots (S.seq + 1) false ((allL 0).take 4)).flatten.length = 16 * (4 + 1) := by rw [putSlots_flat h13, hlen]
  obtain ⟨gc, gl, ga, hG⟩ : ∃ gc gl ga, (gc, gl, ga) = gputR ys (S.seq + 1) false ((allL 0).take 4) := ⟨_, _, _, rfl⟩
  have hGv : gc = 4 ∧ gl.length = 0 ∧ ga = 0 := by
    unfold gputR at hG
    rw [if_pos ⟨by omega, by omega, hok⟩, ← hS, hyl, ← hD, hlen, if_neg hfit] at hG
    simp only [Prod.mk.injEq] at hG
    obtain ⟨rfl, rfl, rfl⟩ := hG
    exact ⟨rfl, rfl, rfl⟩
  obtain ⟨rfl, hgL, rfl⟩ := hGv
  have hlt : (D : Int) - (S.free : Int) < 5 := by omega
  have hSL : S.live.length = 44 := hfits.live
  have hDs : slotsI (M : Int) = (D : Int) := by rw [slotsI_nat, hD]
  have HT := Lib.hid ht
  have HI := Lib.hid hit
  have H64 := Lib.hid h64t
  have HMB := Lib.hid hMb
  have HM := Lib.hid hM
  have HN := Lib.hid hn
  have HC := Lib.hid hc
  have HS := Lib.hid hS
  have HSL := Lib.hid hSL
  have HG := Lib.hid hG
  have HA4 := Lib.hid ha4
  have HDs := Lib.hid hDs
  have HQ := Lib.hid (show I64 (S.seq + 1) by unfold I64; omega)
  have HMBx := HMB.out
  have hm0 : (0 : Int) ≤ (M : Int) := by omega
  clear HMBx
  have HR64 := Lib.hid (show ∀ r ∈ (allL 0).take 4, ∀ x ∈ r, I64 x from fun r hr => allL_64 0 r (List.mem_of_mem_take hr))
  have HL0 := Lib.hid (show fnd0.live.length = 44 by decide)
  have HGL := Lib.hid hgL
  have hneb : (S.seq == 4294967295) = false := by simp [hne]
  have hnr' := hnr
  unfold maxLen at hnr'
  clear ht hi hit h64 h64t hys hfn hMb hM hn hc hS hSL hG ha4 hDs hfits hyl hD hok hlen h13 hgl hgL hfit hnr
  go_enter Tryd.func8, Tryd.ntmps8
  go_upto_region 8 with (first
    | (go_at_call 17; refine (works_any _ HT.out).mono ?_; rintro e w1 ⟨rfl, k1⟩; have HT1 := Lib.hid (HT.out.keep k1); have HI1 := Lib.hid (HI.out.keep0 k1); have K1 := Lib.hid k1; clear k1)
    | (go_at_call 9; refine (few_any _ _ _ _ HN.out HC.out).mono ?_; rw [← HM.out]; rintro e w' ⟨rfl, rfl⟩)
    | (go_at_call 12; refine (scan_any _ M c ys _ HT1.out HI1.out (by have := HMB.out; have := HN.out; omega) HC.out H64.out).mono ?_; rw [← HS.out]; rintro e w2 ⟨rfl, k2⟩; have h7 : FAt (w2.alloc (.cells (fndV fnd0) 28)) w2.heap.size 28 [] fnd0 := heap_alloc_new w2 _; have HT2 := Lib.hid (HT1.out.keep (k2.alloc (.cells (fndV fnd0) 28))); have HI2 := Lib.hid (HI1.out.keep0 (k2.alloc (.cells (fndV fnd0) 28))); have K2 := Lib.hid (K1.out.trans0 k2); clear k2)
    | (simp only [zeros48])
    | (refine st_fnd _ _ h7 HL0.out HSL.out rfl rfl rfl rfl ?_; intro w8 h8 k8 s8; simp only [Act.put]; have d0 : w8.cell? ⟨w2.heap.size, 0, none⟩ = some (.bool S.has) := h8.has; have d1 : w8.cell? ⟨w2.heap.size, 1, none⟩ = some (.int .i64 S.seq) := h8.seq; have d3 : w8.cell? ⟨w2.heap.size, 46, none⟩ = some (.int .i64 S.com) := h8.com HSL.out; have d4 : w8.cell? ⟨w2.heap.size, 47, none⟩ = some (.int .i64 (S.free : Int)) := h8.free HSL.out; have HF := Lib.hid h8; have K8 := Lib.hid ((K2.out.alloc (.cells (fndV fnd0) 28)).trans k8 (by intro x hx; right; have := K2.out.size; simp at hx; omega)); have HT8 := Lib.hid (HT.out.keep K8.out); have HI8 := Lib.hid (HI.out.keep0 K8.out); clear h8 h7 k8)
    | (go_at_call 20; refine (among_any _ 4 _ (by omega) (by omega)).mono ?_; rw [HA4.out]; rintro e w' ⟨rfl, rfl⟩))
  have hw1 : IntKind.i64.wrap (S.seq + 1) = S.seq + 1 := IntWalk.i64_in _ (by omega)
  go_cut [7, 8, 9] from 23 to 34 (fun s7 s8 s9 wx => ∃ A3 c3, s7 = .slice A3 gl.length c3 ∧ s8 = .int .i64 (0) ∧ s9 = .int .i64 4 ∧ Keeps [] w8 wx)
  case first =>
    go_region_held3 (fun wz => wz.cell? ⟨w2.heap.size, 1, none⟩ = some (.int .i64 S.seq)) (first | exact d1 | exact p1 | exact q1 | go_keep) (first
      | (go_at_call 21; refine (all_any 0 _).mono ?_; rw [kinds_all]; rintro e w9 ⟨a2, c2, rfl, r2, l2, m2, k9⟩; have R2 := Lib.hid (recs_front r2 (show 4 ≤ 4 by omega)); have k9' := ((Keeps.refl [] w8).drewN 1).trans0 k9; have K9 := Lib.hid (show Keeps [] w8 w9 from k9'); have HF9 := Lib.hid (HF.out.keep k9' (by simp)); have p0 : w9.cell? ⟨w2.heap.size, 0, none⟩ = some (.bool S.has) := HF9.out.has; have p1 : w9.cell? ⟨w2.heap.size, 1, none⟩ = some (.int .i64 S.seq) := HF9.out.seq; have p3 : w9.cell? ⟨w2.heap.size, 46, none⟩ = some (.int .i64 S.com) := HF9.out.com HSL.out; have p4 : w9.cell? ⟨w2.heap.size, 47, none⟩ = some (.int .i64 (S.free : Int)) := HF9.out.free HSL.out; clear r2 k9 k9'; have l2i : (4 : Int) ≤ (c2 : Int) := by omega)
      | (go_at_call 18; refine (put_any _ M c ys (S.seq + 1) false a2 4 c2 ((allL 0).take 4) _ (HT8.out.keep K9.out) (HI8.out.keep0 K9.out) (by have := HMB.out; have := HN.out; omega) HC.out R2.out (by omega) HQ.out HR64.out).mono ?_; rw [← HG.out]; rintro e w10 ⟨A3, c3, rfl, i3, k3, l3, m3⟩; have K10 := Lib.hid (K9.out.trans0 k3); have q1 : w10.cell? ⟨w2.heap.size, 1, none⟩ = some (.int .i64 S.seq) := (HF9.out.keep k3 (by simp)).seq; clear i3 k3))
    all_goals (go_wp2_with fail; go_meet; exact ⟨A3, c3, rfl, rfl, rfl, K10.out⟩)
  case rest =>
  obtain ⟨A3, c3, rfl, rfl, rfl, k9⟩ := hcut
  rw [HGL.out]
  clear d0 d1 d3 d4 hw1
  have hF := HF.out.keep k9 (by simp)
  have d0 : wc.cell? ⟨w2.heap.size, 0, none⟩ = some (.bool S.has) := hF.has; have d1 : wc.cell? ⟨w2.heap.size, 1, none⟩ = some (.int .i64 S.seq) := hF.seq; have d3 : wc.cell? ⟨w2.heap.size, 46, none⟩ = some (.int .i64 S.com) := hF.com HSL.out; have d4 : wc.cell? ⟨w2.heap.size, 47, none⟩ = some (.int .i64 (S.free : Int)) := hF.free HSL.out
  have K9 := Lib.hid (K8.out.trans0 k9)
  clear hF k9
  go_upto_region 9 with fail
  have hw2 : IntKind.i64.wrap ((D : Int) - (S.free : Int)) = (D : Int) - (S.free : Int) := IntWalk.i64_in _ (by omega)
  go_quiet ((go_at_call 14; refine Calls.quiet_of_same (flipF (slotsN_any M D _ HDs.out HMB.out.2))))
  trace_state
  go_wp2_with fail
  all_goals (go_ret; exact ⟨rfl, K9.out.drewN _⟩)

theorem gfull_any (a : Option Addr) (n c : Nat) (xs : List Int) (ar : Option Addr) (nr cr : Nat) (w : World) (ht : Turns w) (hi : IntsAt w a n xs) (hn : n ≤ c) (hc : c ≤ maxLen) (h64 : ∀ x ∈ xs, I64 x) (hnr : nr ≤ maxLen) :
    Calls Tryd.prog 8 #[.slice a n c, .slice ar nr cr] w fun e w' => e = .returned (.bool true) ∧ Keeps [] w w' := by
  by_cases hne : (scanR (xs.take (fewN n))).seq = 4294967295
  · exact gfull_top a n c xs ar nr cr w ht hi hn hc h64 hnr hne
  · have hb := amongI_lt (nr : Int) 4 (by omega) (by omega)
    obtain h | h | h | h : amongI (nr : Int) 4 = 0 ∨ amongI (nr : Int) 4 = 1 ∨ amongI (nr : Int) 4 = 2 ∨ amongI (nr : Int) 4 = 3 := by omega
    · by_cases hfit : (scanR (xs.take (fewN n))).free + 1 + 1 ≤ fewN n / 16
      · exact gfull_0f a n c xs ar nr cr w ht hi hn hc h64 hnr h hne hfit
      · exact gfull_0n a n c xs ar nr cr w ht hi hn hc h64 hnr h hne hfit
    · by_cases hfit : (scanR (xs.take (fewN n))).free + 2 + 1 ≤ fewN n / 16
      · exact gfull_1f a n c xs ar nr cr w ht hi hn hc h64 hnr h hne hfit
      · exact gfull_1n a n c xs ar nr cr w ht hi hn hc h64 hnr h hne hfit
    · by_cases hfit : (scanR (xs.take (fewN n))).free + 3 + 1 ≤ fewN n / 16
      · exact gfull_2f a n c xs ar nr cr w ht hi hn hc h64 hnr h hne hfit
      · exact gfull_2n a n c xs ar nr cr w ht hi hn hc h64 hnr h hne hfit
    · by_cases hfit : (scanR (xs.take (fewN n))).free + 4 + 1 ≤ fewN n / 16
      · exact gfull_3f a n c xs ar nr cr w ht hi hn hc h64 hnr h hne hfit
      · exact gfull_3n a n c xs ar nr cr w ht hi hn hc h64 hnr h hne hfit

end Go.Proofs.YtnmblemplkdmaaaDoor
