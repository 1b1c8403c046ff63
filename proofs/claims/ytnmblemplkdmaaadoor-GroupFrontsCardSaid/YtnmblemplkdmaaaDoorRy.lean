
/- GroupFronts walked. No condition but lengths, that all are numbers of 64 bits, and the table of the sums. -/
import Derived.Test.YtnmblemplkdmaaaDoorWa
import Derived.Test.YtnmblemplkdmaaaDoorRp
import Derived.IntWalk
import Derived.StillTailTactics
import Derived.Deep.CutBlock
import Derived.Deep.RegionHeld3
namespace Go.Proofs.YtnmblemplkdmaaaDoor
open Go.RowKit Go.Shelf
set_option linter.unusedVariables false
set_option linter.unusedSimpArgs false
set_option maxRecDepth 100000

theorem flipF {P : Program} {f : FuncId} {args : Array Value} {w : World} {v : Value} (h : Calls P f args w fun e w' => e = .returned v ∧ w = w') : Calls P f args w fun e w' => e = .returned v ∧ w' = w := h.mono fun _ _ h => ⟨h.1, h.2.symm⟩
theorem recs_front {w : World} {a : Option Addr} {n k : Nat} {rs : List (List Int)} (h : RecsAt w a n rs) (hk : k ≤ n) : RecsAt w a k (rs.take k) := by
  have h13 := h.2.1
  have hn := h.1
  have hlt : (rs.take k).length = k := by rw [List.length_take]; omega
  have t13 : ∀ r ∈ rs.take k, r.length = 13 := fun r hr => h13 r (List.mem_of_mem_take hr)
  refine ⟨hlt.symm, t13, ?_⟩
  have e : (rs.take k).flatten = rs.flatten.take (13 * k) := by
    have h1 : rs.flatten = (rs.take k).flatten ++ (rs.drop k).flatten := by rw [← List.flatten_append, List.take_append_drop]
    have h2 : (rs.take k).flatten.length = 13 * k := by rw [flat13 t13, hlt]
    conv => rhs; rw [h1]
    rw [List.take_append_of_le_length (by omega)]
    exact (List.take_of_length_le (by omega)).symm
  rw [e]
  exact h.2.2.take (by omega)
theorem take_64F {xs : List Int} {k : Nat} (h : ∀ x ∈ xs, I64 x) : ∀ x ∈ xs.take k, I64 x := fun x hx => h x (List.mem_of_mem_take hx)
theorem slotsN_any (M D : Nat) (w : World) (h : slotsI (M : Int) = (D : Int)) (hM : M ≤ 480) : Calls Tryd.prog 14 #[.int .i64 (M : Int)] w fun e w' => e = .returned (.int .i64 (D : Int)) ∧ w = w' := by
  have hh := Slots_any (M : Int) w (by unfold I64; omega)
  rw [h] at hh
  exact hh
theorem gput_zero {xs : List Int} {q : Int} {first : Bool} {rs : List (List Int)} {gc ga : Int} {gl : List Int} (h : (gc, gl, ga) = gputR xs q first rs) (h0 : gc = 0) :
    (1 ≤ rs.length ∧ rs.length ≤ 4) ∧ putsOk q (-1) rs = true ∧ (scanR xs).free + rs.length + 1 ≤ xs.length / 16 ∧ gl = (putSlots q first rs).flatten ∧ ga = 16 * ((scanR xs).free : Int) := by
  unfold gputR at h
  split at h
  · rename_i h1
    split at h
    · rename_i h2
      simp only [Prod.mk.injEq] at h
      exact ⟨⟨h1.1, h1.2.1⟩, h1.2.2, h2, h.2.1, h.2.2⟩
    · simp only [Prod.mk.injEq] at h
      omega
  · simp only [Prod.mk.injEq] at h
    omega
theorem gput_err {xs : List Int} {q : Int} {first : Bool} {rs : List (List Int)} {gc ga : Int} {gl : List Int} (h : (gc, gl, ga) = gputR xs q first rs) (h0 : ¬ gc = 0) : gl = [] ∧ ga = 0 := by
  unfold gputR at h
  split at h
  · split at h
    · simp only [Prod.mk.injEq] at h
      exact absurd h.1 h0
    · simp only [Prod.mk.injEq] at h
      exact h.2
  · simp only [Prod.mk.injEq] at h
    exact h.2

set_option maxHeartbeats 4000000 in
theorem gfronts_to (a : Option Addr) (n c : Nat) (xs : List Int) (more : Int) (ar : Option Addr) (nr cr : Nat) (rr0 : List (List Int)) (cut : Int) (w : World) (ht : Turns w) (hi : IntsAt w a n xs) (hn : n ≤ c) (hc : c ≤ maxLen) (h64 : ∀ x ∈ xs, I64 x)
    (hrr0 : RecsAt w ar nr rr0) (hnr : nr ≤ cr) (hcr : cr ≤ maxLen) (hr640 : ∀ r ∈ rr0, ∀ x ∈ r, I64 x) (hz : ar = none → nr = 0 ∧ cr = 0) (hb : (scanR (xs.take (fewN n))).has = true) (hg : (gputR (xs.take (fewN n)) ((scanR (xs.take (fewN n))).seq + 1 + amongI more 9) false (rr0.take (if nr ≤ 9 then nr else 9))).1 = 0) :
    Calls Tryd.prog 6 #[.slice a n c, .int .i64 more, .slice ar nr cr, .int .i64 cut] w fun e w' => e = .returned (.bool true) ∧ Keeps [] w w' := by
  have hfn := fewN_le n
  have hit := hi.take (k := fewN n) hfn.1
  have h64t := take_64F (k := fewN n) h64
  obtain ⟨ys, hys⟩ : ∃ ys, ys = xs.take (fewN n) := ⟨_, rfl⟩
  rw [← hys] at hit h64t hb hg
  obtain ⟨M, hM⟩ : ∃ M, M = fewN n := ⟨_, rfl⟩
  have hMb : M ≤ n ∧ M ≤ 480 := by rw [hM]; exact hfn
  rw [← hM] at hit
  obtain ⟨R, hR⟩ : ∃ R, R = if nr ≤ 9 then nr else 9 := ⟨_, rfl⟩
  have hR9 : R ≤ nr ∧ R ≤ 9 := by rw [hR]; split <;> omega
  obtain ⟨rr, hrrr⟩ : ∃ rr, rr = rr0.take R := ⟨_, rfl⟩
  have hrr := recs_front hrr0 hR9.1
  have hr64 : ∀ r ∈ rr0.take R, ∀ x ∈ r, I64 x := fun r hr => hr640 r (List.mem_of_mem_take hr)
  rw [← hrrr] at hrr hr64
  rw [← hR, ← hrrr] at hg
  obtain ⟨S, hS⟩ : ∃ S, S = scanR ys := ⟨_, rfl⟩
  have hyl : ys.length = M := hit.1.symm
  have hfits : Fits S (ys.length / 16) := by rw [hS]; exact fits_scan ys
  rw [hyl] at hfits
  rw [← hS] at hb hg
  have hSD : S.free ≤ 30 := by have := hfits.free; omega
  have hs0 : 0 ≤ S.seq := hfits.seq.1
  have hs1 : S.seq ≤ 4294967295 := hfits.seq.2
  have hc0 : 0 ≤ S.com ∧ S.com ≤ 30 := by have := hfits.com; omega
  have hSL : S.live.length = 44 := hfits.live
  obtain ⟨A, hA⟩ : ∃ A, A = amongI more 9 := ⟨_, rfl⟩
  have hA0 : 0 ≤ A ∧ A < 9 := by rw [hA]; exact amongI_lt more 9 (by omega) (by omega)
  rw [← hA] at hg
  obtain ⟨gc, gl, ga, hG⟩ : ∃ gc gl ga, (gc, gl, ga) = gputR ys (S.seq + 1 + A) false rr := ⟨_, _, _, rfl⟩
  rw [← hG] at hg
  have hg0 : gc = 0 := hg
  have h13 : ∀ r ∈ rr, r.length = 13 := hrr.2.1
  have hlen : rr.length = R := hrr.1.symm
  obtain ⟨hn14, hok, hroom, hglv, hgav⟩ := gput_zero hG hg0
  rw [← hS, hlen, hyl] at hroom
  rw [hlen] at hn14
  have hglL : gl.length = 16 * (R + 1) := by rw [hglv, putSlots_flat h13, hlen]
  obtain ⟨W, hW⟩ : ∃ W, W = gl.length := ⟨_, rfl⟩
  obtain ⟨AT, hAT⟩ : ∃ AT, AT = 16 * S.free := ⟨_, rfl⟩
  have hgaT : ga = (AT : Int) := by rw [hgav, ← hS, hAT]; omega
  have hq2 := puts_seq h13 (by omega) hok
  have hws : ∀ x ∈ gl, 0 ≤ x ∧ x ≤ 65535 := by rw [hglv]; exact puts_words (by omega) hq2 hok
  have hbl : ∀ j, j < W → ys.getD (AT + j) 0 = 65535 := fun j hj => free_words ys (by rw [← hS, hAT]; omega) (by rw [hyl]; omega)
  obtain rfl := hg0
  have HGA := Lib.hid hgaT
  have HWv := Lib.hid (show W = 16 * (R + 1) by omega)
  have HW := Lib.hid hW
  have HWS := Lib.hid hws
  have HBL := Lib.hid hbl
  have HAT := Lib.hid hAT
  have hATM : AT + W ≤ M := by omega
  have hW1 : 32 ≤ W ∧ W ≤ 80 := by omega
  have HQ2 := Lib.hid hq2
  have HOK := Lib.hid hok
  have HN14 := Lib.hid hn14
  have HLEN := Lib.hid hlen
  have H13 := Lib.hid h13
  have HROOM := Lib.hid hroom
  have HGLV := Lib.hid hglv
  obtain ⟨K, hK⟩ : ∃ K : Nat, amongI cut (W : Int) = (K : Int) ∧ K < W := by
    have h := amongI_lt cut (W : Int) (by omega) (by omega)
    exact ⟨(amongI cut (W : Int)).toNat, by omega, by omega⟩
  have HK := Lib.hid hK.1
  have hKW := hK.2
  obtain ⟨S2, hS2⟩ : ∃ S2, S2 = ({ S with free := S.free + (K + 15) / 16 } : Fnd) := ⟨_, rfl⟩
  have hsc : scanR (withB ys AT (gl.take K)) = S2 := by
    have h := scan_some (xs := ys) (q := S.seq + 1 + A) (first := false) (rs := rr) h13 (by omega) hq2 hok (by rw [← hS, hlen, hyl]; exact hroom) (k := K) (by omega)
    rw [← hS, ← hglv, ← hAT] at h
    rw [h, hS2]
  have HSC := Lib.hid hsc
  have HS2 := Lib.hid hS2
  have HSL2 := Lib.hid (show S2.live.length = 44 by rw [hS2]; exact hSL)
  have HTL := Lib.hid (show (gl.take K).length = K by rw [List.length_take]; omega)
  obtain ⟨F2, hF2⟩ : ∃ F2, F2 = S2.free := ⟨_, rfl⟩
  have hF2v : F2 = S.free + (K + 15) / 16 := by rw [hF2, hS2]
  have HF2 := Lib.hid hF2
  clear hK hsc hS2 hF2
  clear hroom hglv hgav hglL hW hAT hgaT hq2 hws hbl hok hn14
  have HT := Lib.hid ht
  have HI := Lib.hid hit
  have H64 := Lib.hid h64t
  have HMB := Lib.hid hMb
  have HM := Lib.hid hM
  have HN := Lib.hid hn
  have HC := Lib.hid hc
  have HS := Lib.hid hS
  have HSL := Lib.hid hSL
  have HG := Lib.hid hG
  have HA := Lib.hid hA
  have HB := Lib.hid hb
  have HR := Lib.hid hR
  have HR9 := Lib.hid hR9
  have HRR := Lib.hid hrr
  have HZ := Lib.hid hz
  have HYL := Lib.hid hyl
  have HQ := Lib.hid (show I64 (S.seq + 1 + A) by unfold I64; omega)
  have HR64 := Lib.hid (show ∀ r ∈ rr, ∀ x ∈ r, I64 x from hr64)
  have HL0 := Lib.hid (show fnd0.live.length = 44 by decide)
  have hcr' := hcr
  unfold maxLen at hcr'
  have hm0 : (0 : Int) ≤ (M : Int) := by omega
  clear ht hi hit h64 h64t hys hfn hMb hM hn hc hS hSL hG hA hb hR hR9 hrr hrr0 hz hyl hfits hrrr hr64 hr640 hcr h13 hlen hg
  go_enter Tryd.func6, Tryd.ntmps6
  go_upto_region 3 with (go_at_call 17; refine (works_any _ HT.out).mono ?_; rintro e w1 ⟨rfl, k1⟩; have K1 := Lib.hid k1; clear k1)
  go_cut [0, 2] from 17 to 24 (fun s0 s2 wx => s0 = .slice a M c ∧ s2 = .slice ar R cr ∧ Keeps [] w wx)
  case first =>
    rcases ar with _ | ad
    · obtain ⟨rfl, rfl⟩ := HZ.out rfl
      have E := Lib.hid (show R = 0 by have := HR9.out; omega)
      go_region_with (go_at_call 9; refine (few_any _ _ _ _ HN.out HC.out).mono ?_; rw [← HM.out]; rintro e w' ⟨rfl, rfl⟩)
      all_goals (try (exfalso; omega))
      all_goals (go_wp2_with fail; go_meet; exact ⟨rfl, (by rw [E.out]), K1.out.drewN 1⟩)
    rcases Nat.lt_trichotomy nr 9 with h | h | h
    · have E := Lib.hid (show R = nr by rw [HR.out, if_pos (by omega)])
      go_region_with (go_at_call 9; refine (few_any _ _ _ _ HN.out HC.out).mono ?_; rw [← HM.out]; rintro e w' ⟨rfl, rfl⟩)
      all_goals (try (exfalso; omega))
      all_goals (go_wp2_with fail; go_meet; exact ⟨rfl, (by rw [E.out]), K1.out.drewN 1⟩)
    · subst h
      have E := Lib.hid (show R = 9 by rw [HR.out, if_pos (by omega)])
      go_region_with (go_at_call 9; refine (few_any _ _ _ _ HN.out HC.out).mono ?_; rw [← HM.out]; rintro e w' ⟨rfl, rfl⟩)
      all_goals (try (exfalso; omega))
      all_goals (go_wp2_with fail; go_meet; exact ⟨rfl, (by rw [E.out]), K1.out.drewN 1⟩)
    · have E := Lib.hid (show R = 9 by rw [HR.out, if_neg (by omega)])
      go_region_with (go_at_call 9; refine (few_any _ _ _ _ HN.out HC.out).mono ?_; rw [← HM.out]; rintro e w' ⟨rfl, rfl⟩)
      all_goals (try (exfalso; omega))
      all_goals (go_wp2_with fail; go_meet; exact ⟨rfl, (by rw [E.out]), K1.out.drewN 1⟩)
  case rest =>
  obtain ⟨rfl, rfl, k3⟩ := hcut
  have K3 := Lib.hid k3
  clear k3
  go_upto_region 7 with (first
    | (go_at_call 12; refine (scan_any _ M c ys _ (HT.out.keep K3.out) (HI.out.keep0 K3.out) (by have := HMB.out; have := HN.out; omega) HC.out H64.out).mono ?_; rw [← HS.out]; rintro e w2 ⟨rfl, k2⟩; have h7 : FAt (w2.alloc (.cells (fndV fnd0) 28)) w2.heap.size 28 [] fnd0 := heap_alloc_new w2 _; have K2 := Lib.hid (K3.out.trans0 k2); clear k2)
    | (simp only [zeros48])
    | (refine st_fnd _ _ h7 HL0.out HSL.out rfl rfl rfl rfl ?_; intro w8 h8 k8 s8; simp only [Act.put]; have d0 : w8.cell? ⟨w2.heap.size, 0, none⟩ = some (.bool true) := (by rw [← HB.out]; exact h8.has); have d1 : w8.cell? ⟨w2.heap.size, 1, none⟩ = some (.int .i64 S.seq) := h8.seq; have d4 : w8.cell? ⟨w2.heap.size, 47, none⟩ = some (.int .i64 (S.free : Int)) := h8.free HSL.out; have HF := Lib.hid h8; have K8 := Lib.hid ((K2.out.alloc (.cells (fndV fnd0) 28)).trans k8 (by intro x hx; right; have := K2.out.size; simp at hx; omega)); clear h8 h7 k8)
    | (go_at_call 21; refine (all_any more _).mono ?_; rw [kinds_all]; rintro e w9 ⟨a2, c2, rfl, r2, l2, m2, k9⟩; have R2 := Lib.hid r2; have HF9 := Lib.hid (HF.out.keep k9 (by simp)); have p0 : w9.cell? ⟨w2.heap.size, 0, none⟩ = some (.bool true) := (by rw [← HB.out]; exact HF9.out.has); have p1 : w9.cell? ⟨w2.heap.size, 1, none⟩ = some (.int .i64 S.seq) := HF9.out.seq; have p4 : w9.cell? ⟨w2.heap.size, 47, none⟩ = some (.int .i64 (S.free : Int)) := HF9.out.free HSL.out; have K9 := Lib.hid (K8.out.trans0 k9); clear r2 k9))
  have hw1 : IntKind.i64.wrap (S.seq + 1) = S.seq + 1 := IntWalk.i64_in _ (by omega)
  have hw2 : IntKind.i64.wrap (S.seq + 1 + A) = S.seq + 1 + A := IntWalk.i64_in _ (by omega)
  go_cut [10, 11, 12] from 32 to 47 (fun s7 s8 s9 wx => ∃ A3 c3, s7 = .slice A3 W c3 ∧ s8 = .int .i64 (AT : Int) ∧ s9 = .int .i64 0 ∧ IntsAt wx A3 gl.length gl ∧ gl.length ≤ c3 ∧ c3 ≤ maxLen ∧ Keeps [] w8 wx)
  case first =>
    go_region_held3 (fun wz => wz.cell? ⟨w2.heap.size, 1, none⟩ = some (.int .i64 S.seq) ∧ wz.cell? ⟨w2.heap.size, 0, none⟩ = some (.bool true)) (first | exact ⟨d1, d0⟩ | exact ⟨q1, q0⟩ | go_keep) (first
      | (go_at_call 20; refine (among_any _ 9 _ (by omega) (by omega)).mono ?_; rw [← HA.out]; rintro e w' ⟨rfl, rfl⟩)
      | (go_at_call 18; have kd := (Keeps.refl [] w8).drewN 1; refine (put_any _ M c ys (S.seq + 1 + A) false ar R cr rr _ (HT.out.keep (K8.out.trans0 kd)) (HI.out.keep0 (K8.out.trans0 kd)) (by have := HMB.out; have := HN.out; omega) HC.out (HRR.out.keep0 (K8.out.trans0 kd)) (by have := HR9.out; omega) HQ.out HR64.out).mono ?_; rw [← HG.out]; rintro e w10 ⟨A3, c3, rfl, i3, k3, l3, m3⟩; have K10 := Lib.hid (kd.trans0 k3); have I3 := Lib.hid i3; have L3 := Lib.hid (And.intro l3 m3); have q1 : w10.cell? ⟨w2.heap.size, 1, none⟩ = some (.int .i64 S.seq) := ((HF.out.keep kd (by simp)).keep k3 (by simp)).seq; have q0 : w10.cell? ⟨w2.heap.size, 0, none⟩ = some (.bool true) := (by rw [← HB.out]; exact ((HF.out.keep kd (by simp)).keep k3 (by simp)).has); clear i3 k3 l3 m3 kd))
    all_goals (go_wp2_with fail; go_meet; exact ⟨A3, c3, (by rw [HW.out]), (by rw [HGA.out]), rfl, I3.out, L3.out.1, L3.out.2, K10.out⟩)
  case rest =>
  obtain ⟨A3, c3, rfl, rfl, rfl, i3, l3, m3, k9⟩ := hcut
  have K4 := Lib.hid (K8.out.trans0 k9)
  have HF4 := Lib.hid (HF.out.keep k9 (by simp))
  have I3 := Lib.hid i3
  unfold maxLen at m3
  clear hw1 hw2 i3 k9
  generalize wc = w4 at *
  have hKc : K ≤ c3 := by have := HW.out; omega
  have hKci : (K : Int) ≤ (c3 : Int) := by omega
  go_upto_region 13 with (first
    | (go_at_call 20; refine (among_any cut (W : Int) _ (by omega) (by omega)).mono ?_; rw [HK.out]; rintro e w' ⟨rfl, rfl⟩)
    | (go_at_call 22; refine (with_any a M c ys AT A3 K c3 (gl.take K) w4 (HI.out.keep0 K4.out) (by have := HMB.out; omega) (by have h := I3.out.take (k := K) (by have := HW.out; omega); exact h) (by rw [HTL.out, HYL.out]; omega) (fun x hx => HWS.out x (List.mem_of_mem_take hx)) (fun j hj => HBL.out j (by rw [HTL.out] at hj; omega))).mono ?_; rw [HYL.out]; rintro e w11 ⟨g5, c5, rfl, hA, k5, -⟩; have IW := Lib.hid (show IntsAt w11 (some ⟨g5, 0, none⟩) M (withB ys AT (gl.take K)) by have h := hA.ints; rw [withB_len (by rw [HTL.out, HYL.out]; omega), HYL.out] at h; exact h); have LW := Lib.hid (show M ≤ c5 ∧ c5 ≤ maxLen by have h := hA.le; rw [withB_len (by rw [HTL.out, HYL.out]; omega), HYL.out] at h; exact ⟨h, hA.cm⟩); have K11 := Lib.hid (K4.out.trans0 k5); have HF11 := Lib.hid (HF4.out.keep k5 (by simp)); clear hA k5)
    | (go_at_call 12; refine (scan_any _ M c5 (withB ys AT (gl.take K)) _ (HT.out.keep K11.out) IW.out LW.out.1 LW.out.2 (with_64 H64.out (fun x hx => HWS.out x (List.mem_of_mem_take hx)))).mono ?_; rw [HSC.out]; rintro e w12 ⟨rfl, k12⟩; have h7 : FAt (w12.alloc (.cells (fndV fnd0) 28)) w12.heap.size 28 [] fnd0 := heap_alloc_new w12 _; have hv7 : FAt (w12.alloc (.cells (fndV fnd0) 28)) w2.heap.size 28 [] S := heap_alloc_held (HF11.out.keep k12 (by simp)) _; have hl7 : w2.heap.size < w12.heap.size := (HF11.out.keep k12 (by simp)).lt; have K12 := Lib.hid (K11.out.trans0 k12); clear k12)
    | (simp only [zeros48])
    | (refine st_fnd _ _ h7 HL0.out HSL2.out rfl rfl rfl rfl ?_; intro w13 h13 k13 s13; simp only [Act.put]; have HV := Lib.hid (hv7.keep k13 (by simp; omega)); have HU := Lib.hid h13; have x4 : w13.cell? ⟨w12.heap.size, 47, none⟩ = some (.int .i64 (F2 : Int)) := (by rw [HF2.out]; exact h13.free HSL2.out); have d4 : w13.cell? ⟨w2.heap.size, 47, none⟩ = some (.int .i64 (S.free : Int)) := HV.out.free HSL.out; have ff := HU.out.frozen 47; have K13 := Lib.hid ((K12.out.alloc (.cells (fndV fnd0) 28)).trans k13 (by intro x hx; right; have := K12.out.size; simp at hx; omega)); have HLT := Lib.hid hl7; clear h13 hv7 h7 hl7 k13))
  go_upto_region 14 with fail
  have hU : FAt (w13.setCell ⟨w12.heap.size, 47, none⟩ (.int .i64 (S.free : Int))) w12.heap.size 28 [] S := (by
    have h := HU.out.setFree HSL2.out S.free
    have e : ({ S2 with free := S.free } : Fnd) = S := by rw [HS2.out]
    rw [e] at h
    exact h)
  have hV : FAt (w13.setCell ⟨w12.heap.size, 47, none⟩ (.int .i64 (S.free : Int))) w2.heap.size 28 [] S := HV.out.keep (F := [w12.heap.size]) ((Keeps.refl _ _).setCell (.inl (by simp)) _) (by have := HLT.out; simp; omega)
  have kU : Keeps [] w (w13.setCell ⟨w12.heap.size, 47, none⟩ (.int .i64 (S.free : Int))) := K13.out.setCell (.inr (by have := K12.out.size; simpa using this)) _
  clear x4 d4 ff
  generalize w13.setCell ⟨w12.heap.size, 47, none⟩ (.int .i64 (S.free : Int)) = w14 at *
  have d4 : w14.cell? ⟨w2.heap.size, 47, none⟩ = some (.int .i64 (S.free : Int)) := hV.free HSL.out
  have HUU := Lib.hid hU
  have HVV := Lib.hid hV
  have KU := Lib.hid kU
  clear hU hV kU
  have hle1 : (S.free : Int) ≤ (F2 : Int) := by omega
  have hle2 : (F2 : Int) ≤ (S.free : Int) + ((K : Int) + 15) / 16 := by omega
  have hK80 : (K : Int) ≤ 80 := by omega
  have hK16 : ((K : Int) + 15) / 16 ≤ ((K : Int) + 16 - 1) / 16 := by omega
  clear hF2v
  go_wp2_with (first
    | (refine ld_fnd _ HUU.out HSL.out rfl rfl rfl ?_; simp only [Act.put])
    | (refine ld_fnd _ HVV.out HSL.out rfl rfl rfl ?_; simp only [Act.put])
    | (refine eq_fnd _ _ _ HSL.out rfl rfl rfl rfl ?_; simp only [Act.put]))
  all_goals (go_ret; exact ⟨rfl, KU.out⟩)

set_option maxHeartbeats 4000000 in
theorem gfronts_te (a : Option Addr) (n c : Nat) (xs : List Int) (more : Int) (ar : Option Addr) (nr cr : Nat) (rr0 : List (List Int)) (cut : Int) (w : World) (ht : Turns w) (hi : IntsAt w a n xs) (hn : n ≤ c) (hc : c ≤ maxLen) (h64 : ∀ x ∈ xs, I64 x)
    (hrr0 : RecsAt w ar nr rr0) (hnr : nr ≤ cr) (hcr : cr ≤ maxLen) (hr640 : ∀ r ∈ rr0, ∀ x ∈ r, I64 x) (hz : ar = none → nr = 0 ∧ cr = 0) (hb : (scanR (xs.take (fewN n))).has = true) (hg : ¬ (gputR (xs.take (fewN n)) ((scanR (xs.take (fewN n))).seq + 1 + amongI more 9) false (rr0.take (if nr ≤ 9 then nr else 9))).1 = 0) :
    Calls Tryd.prog 6 #[.slice a n c, .int .i64 more, .slice ar nr cr, .int .i64 cut] w fun e w' => e = .returned (.bool true) ∧ Keeps [] w w' := by
  have hfn := fewN_le n
  have hit := hi.take (k := fewN n) hfn.1
  have h64t := take_64F (k := fewN n) h64
  obtain ⟨ys, hys⟩ : ∃ ys, ys = xs.take (fewN n) := ⟨_, rfl⟩
  rw [← hys] at hit h64t hb hg
  obtain ⟨M, hM⟩ : ∃ M, M = fewN n := ⟨_, rfl⟩
  have hMb : M ≤ n ∧ M ≤ 480 := by rw [hM]; exact hfn
  rw [← hM] at hit
  obtain ⟨R, hR⟩ : ∃ R, R = if nr ≤ 9 then nr else 9 := ⟨_, rfl⟩
  have hR9 : R ≤ nr ∧ R ≤ 9 := by rw [hR]; split <;> omega
  obtain ⟨rr, hrrr⟩ : ∃ rr, rr = rr0.take R := ⟨_, rfl⟩
  have hrr := recs_front hrr0 hR9.1
  have hr64 : ∀ r ∈ rr0.take R, ∀ x ∈ r, I64 x := fun r hr => hr640 r (List.mem_of_mem_take hr)
  rw [← hrrr] at hrr hr64
  rw [← hR, ← hrrr] at hg
  obtain ⟨S, hS⟩ : ∃ S, S = scanR ys := ⟨_, rfl⟩
  have hyl : ys.length = M := hit.1.symm
  have hfits : Fits S (ys.length / 16) := by rw [hS]; exact fits_scan ys
  rw [hyl] at hfits
  rw [← hS] at hb hg
  have hSD : S.free ≤ 30 := by have := hfits.free; omega
  have hs0 : 0 ≤ S.seq := hfits.seq.1
  have hs1 : S.seq ≤ 4294967295 := hfits.seq.2
  have hc0 : 0 ≤ S.com ∧ S.com ≤ 30 := by have := hfits.com; omega
  have hSL : S.live.length = 44 := hfits.live
  obtain ⟨A, hA⟩ : ∃ A, A = amongI more 9 := ⟨_, rfl⟩
  have hA0 : 0 ≤ A ∧ A < 9 := by rw [hA]; exact amongI_lt more 9 (by omega) (by omega)
  rw [← hA] at hg
  obtain ⟨gc, gl, ga, hG⟩ : ∃ gc gl ga, (gc, gl, ga) = gputR ys (S.seq + 1 + A) false rr := ⟨_, _, _, rfl⟩
  rw [← hG] at hg
  have hg0 : ¬ gc = 0 := hg
  have h13 : ∀ r ∈ rr, r.length = 13 := hrr.2.1
  have hlen : rr.length = R := hrr.1.symm
  obtain ⟨rfl, rfl⟩ := gput_err hG hg0
  have hg0b : (gc == 0) = false := by simp [hg0]
  have HT := Lib.hid ht
  have HI := Lib.hid hit
  have H64 := Lib.hid h64t
  have HMB := Lib.hid hMb
  have HM := Lib.hid hM
  have HN := Lib.hid hn
  have HC := Lib.hid hc
  have HS := Lib.hid hS
  have HSL := Lib.hid hSL
  have HG := Lib.hid hG
  have HA := Lib.hid hA
  have HB := Lib.hid hb
  have HR := Lib.hid hR
  have HR9 := Lib.hid hR9
  have HRR := Lib.hid hrr
  have HZ := Lib.hid hz
  have HYL := Lib.hid hyl
  have HQ := Lib.hid (show I64 (S.seq + 1 + A) by unfold I64; omega)
  have HR64 := Lib.hid (show ∀ r ∈ rr, ∀ x ∈ r, I64 x from hr64)
  have HL0 := Lib.hid (show fnd0.live.length = 44 by decide)
  have hcr' := hcr
  unfold maxLen at hcr'
  have hm0 : (0 : Int) ≤ (M : Int) := by omega
  clear ht hi hit h64 h64t hys hfn hMb hM hn hc hS hSL hG hA hb hR hR9 hrr hrr0 hz hyl hfits hrrr hr64 hr640 hcr h13 hlen hg
  go_enter Tryd.func6, Tryd.ntmps6
  go_upto_region 3 with (go_at_call 17; refine (works_any _ HT.out).mono ?_; rintro e w1 ⟨rfl, k1⟩; have K1 := Lib.hid k1; clear k1)
  go_cut [0, 2] from 17 to 24 (fun s0 s2 wx => s0 = .slice a M c ∧ s2 = .slice ar R cr ∧ Keeps [] w wx)
  case first =>
    rcases ar with _ | ad
    · obtain ⟨rfl, rfl⟩ := HZ.out rfl
      have E := Lib.hid (show R = 0 by have := HR9.out; omega)
      go_region_with (go_at_call 9; refine (few_any _ _ _ _ HN.out HC.out).mono ?_; rw [← HM.out]; rintro e w' ⟨rfl, rfl⟩)
      all_goals (try (exfalso; omega))
      all_goals (go_wp2_with fail; go_meet; exact ⟨rfl, (by rw [E.out]), K1.out.drewN 1⟩)
    rcases Nat.lt_trichotomy nr 9 with h | h | h
    · have E := Lib.hid (show R = nr by rw [HR.out, if_pos (by omega)])
      go_region_with (go_at_call 9; refine (few_any _ _ _ _ HN.out HC.out).mono ?_; rw [← HM.out]; rintro e w' ⟨rfl, rfl⟩)
      all_goals (try (exfalso; omega))
      all_goals (go_wp2_with fail; go_meet; exact ⟨rfl, (by rw [E.out]), K1.out.drewN 1⟩)
    · subst h
      have E := Lib.hid (show R = 9 by rw [HR.out, if_pos (by omega)])
      go_region_with (go_at_call 9; refine (few_any _ _ _ _ HN.out HC.out).mono ?_; rw [← HM.out]; rintro e w' ⟨rfl, rfl⟩)
      all_goals (try (exfalso; omega))
      all_goals (go_wp2_with fail; go_meet; exact ⟨rfl, (by rw [E.out]), K1.out.drewN 1⟩)
    · have E := Lib.hid (show R = 9 by rw [HR.out, if_neg (by omega)])
      go_region_with (go_at_call 9; refine (few_any _ _ _ _ HN.out HC.out).mono ?_; rw [← HM.out]; rintro e w' ⟨rfl, rfl⟩)
      all_goals (try (exfalso; omega))
      all_goals (go_wp2_with fail; go_meet; exact ⟨rfl, (by rw [E.out]), K1.out.drewN 1⟩)
  case rest =>
  obtain ⟨rfl, rfl, k3⟩ := hcut
  have K3 := Lib.hid k3
  clear k3
  go_upto_region 7 with (first
    | (go_at_call 12; refine (scan_any _ M c ys _ (HT.out.keep K3.out) (HI.out.keep0 K3.out) (by have := HMB.out; have := HN.out; omega) HC.out H64.out).mono ?_; rw [← HS.out]; rintro e w2 ⟨rfl, k2⟩; have h7 : FAt (w2.alloc (.cells (fndV fnd0) 28)) w2.heap.size 28 [] fnd0 := heap_alloc_new w2 _; have K2 := Lib.hid (K3.out.trans0 k2); clear k2)
    | (simp only [zeros48])
    | (refine st_fnd _ _ h7 HL0.out HSL.out rfl rfl rfl rfl ?_; intro w8 h8 k8 s8; simp only [Act.put]; have d0 : w8.cell? ⟨w2.heap.size, 0, none⟩ = some (.bool true) := (by rw [← HB.out]; exact h8.has); have d1 : w8.cell? ⟨w2.heap.size, 1, none⟩ = some (.int .i64 S.seq) := h8.seq; have d4 : w8.cell? ⟨w2.heap.size, 47, none⟩ = some (.int .i64 (S.free : Int)) := h8.free HSL.out; have HF := Lib.hid h8; have K8 := Lib.hid ((K2.out.alloc (.cells (fndV fnd0) 28)).trans k8 (by intro x hx; right; have := K2.out.size; simp at hx; omega)); clear h8 h7 k8)
    | (go_at_call 21; refine (all_any more _).mono ?_; rw [kinds_all]; rintro e w9 ⟨a2, c2, rfl, r2, l2, m2, k9⟩; have R2 := Lib.hid r2; have HF9 := Lib.hid (HF.out.keep k9 (by simp)); have p0 : w9.cell? ⟨w2.heap.size, 0, none⟩ = some (.bool true) := (by rw [← HB.out]; exact HF9.out.has); have p1 : w9.cell? ⟨w2.heap.size, 1, none⟩ = some (.int .i64 S.seq) := HF9.out.seq; have p4 : w9.cell? ⟨w2.heap.size, 47, none⟩ = some (.int .i64 (S.free : Int)) := HF9.out.free HSL.out; have K9 := Lib.hid (K8.out.trans0 k9); clear r2 k9))
  have hw1 : IntKind.i64.wrap (S.seq + 1) = S.seq + 1 := IntWalk.i64_in _ (by omega)
  have hw2 : IntKind.i64.wrap (S.seq + 1 + A) = S.seq + 1 + A := IntWalk.i64_in _ (by omega)
  go_cut [10, 11, 12] from 32 to 47 (fun s7 s8 s9 wx => ∃ A3 c3, s7 = .slice A3 0 c3 ∧ s8 = .int .i64 0 ∧ s9 = .int .i64 gc ∧ True ∧ 0 ≤ c3 ∧ c3 ≤ maxLen ∧ Keeps [] w8 wx)
  case first =>
    go_region_held3 (fun wz => wz.cell? ⟨w2.heap.size, 1, none⟩ = some (.int .i64 S.seq) ∧ wz.cell? ⟨w2.heap.size, 0, none⟩ = some (.bool true)) (first | exact ⟨d1, d0⟩ | exact ⟨q1, q0⟩ | go_keep) (first
      | (go_at_call 20; refine (among_any _ 9 _ (by omega) (by omega)).mono ?_; rw [← HA.out]; rintro e w' ⟨rfl, rfl⟩)
      | (go_at_call 18; have kd := (Keeps.refl [] w8).drewN 1; refine (put_any _ M c ys (S.seq + 1 + A) false ar R cr rr _ (HT.out.keep (K8.out.trans0 kd)) (HI.out.keep0 (K8.out.trans0 kd)) (by have := HMB.out; have := HN.out; omega) HC.out (HRR.out.keep0 (K8.out.trans0 kd)) (by have := HR9.out; omega) HQ.out HR64.out).mono ?_; rw [← HG.out]; rintro e w10 ⟨A3, c3, rfl, i3, k3, l3, m3⟩; have K10 := Lib.hid (kd.trans0 k3); have I3 := Lib.hid i3; have L3 := Lib.hid (And.intro l3 m3); have q1 : w10.cell? ⟨w2.heap.size, 1, none⟩ = some (.int .i64 S.seq) := ((HF.out.keep kd (by simp)).keep k3 (by simp)).seq; have q0 : w10.cell? ⟨w2.heap.size, 0, none⟩ = some (.bool true) := (by rw [← HB.out]; exact ((HF.out.keep kd (by simp)).keep k3 (by simp)).has); clear i3 k3 l3 m3 kd))
    all_goals (go_wp2_with fail; go_meet; exact ⟨A3, c3, rfl, rfl, rfl, trivial, L3.out.1, L3.out.2, K10.out⟩)
  case rest =>
  obtain ⟨A3, c3, rfl, rfl, rfl, i3, l3, m3, k9⟩ := hcut
  have K4 := Lib.hid (K8.out.trans0 k9)
  have HF4 := Lib.hid (HF.out.keep k9 (by simp))
  have I3 := Lib.hid i3
  unfold maxLen at m3
  clear hw1 hw2 i3 k9
  generalize wc = w4 at *
  go_wp2_with fail
  go_ret
  exact ⟨rfl, K4.out⟩

set_option maxHeartbeats 4000000 in
theorem gfronts_fo (a : Option Addr) (n c : Nat) (xs : List Int) (more : Int) (ar : Option Addr) (nr cr : Nat) (rr0 : List (List Int)) (cut : Int) (w : World) (ht : Turns w) (hi : IntsAt w a n xs) (hn : n ≤ c) (hc : c ≤ maxLen) (h64 : ∀ x ∈ xs, I64 x)
    (hrr0 : RecsAt w ar nr rr0) (hnr : nr ≤ cr) (hcr : cr ≤ maxLen) (hr640 : ∀ r ∈ rr0, ∀ x ∈ r, I64 x) (hz : ar = none → nr = 0 ∧ cr = 0) (hb : (scanR (xs.take (fewN n))).has = false) (hg : (gputR (xs.take (fewN n)) ((scanR (xs.take (fewN n))).seq + 1 + amongI more 9) true (allL more)).1 = 0) :
    Calls Tryd.prog 6 #[.slice a n c, .int .i64 more, .slice ar nr cr, .int .i64 cut] w fun e w' => e = .returned (.bool true) ∧ Keeps [] w w' := by
  have hfn := fewN_le n
  have hit := hi.take (k := fewN n) hfn.1
  have h64t := take_64F (k := fewN n) h64
  obtain ⟨ys, hys⟩ : ∃ ys, ys = xs.take (fewN n) := ⟨_, rfl⟩
  rw [← hys] at hit h64t hb hg
  obtain ⟨M, hM⟩ : ∃ M, M = fewN n := ⟨_, rfl⟩
  have hMb : M ≤ n ∧ M ≤ 480 := by rw [hM]; exact hfn
  rw [← hM] at hit
  obtain ⟨R, hR⟩ : ∃ R, R = if nr ≤ 9 then nr else 9 := ⟨_, rfl⟩
  have hR9 : R ≤ nr ∧ R ≤ 9 := by rw [hR]; split <;> omega
  obtain ⟨rr, hrrr⟩ : ∃ rr, rr = rr0.take R := ⟨_, rfl⟩
  have hrr := recs_front hrr0 hR9.1
  have hr64 : ∀ r ∈ rr0.take R, ∀ x ∈ r, I64 x := fun r hr => hr640 r (List.mem_of_mem_take hr)
  rw [← hrrr] at hrr hr64
  skip
  obtain ⟨S, hS⟩ : ∃ S, S = scanR ys := ⟨_, rfl⟩
  have hyl : ys.length = M := hit.1.symm
  have hfits : Fits S (ys.length / 16) := by rw [hS]; exact fits_scan ys
  rw [hyl] at hfits
  rw [← hS] at hb hg
  have hSD : S.free ≤ 30 := by have := hfits.free; omega
  have hs0 : 0 ≤ S.seq := hfits.seq.1
  have hs1 : S.seq ≤ 4294967295 := hfits.seq.2
  have hc0 : 0 ≤ S.com ∧ S.com ≤ 30 := by have := hfits.com; omega
  have hSL : S.live.length = 44 := hfits.live
  obtain ⟨A, hA⟩ : ∃ A, A = amongI more 9 := ⟨_, rfl⟩
  have hA0 : 0 ≤ A ∧ A < 9 := by rw [hA]; exact amongI_lt more 9 (by omega) (by omega)
  rw [← hA] at hg
  obtain ⟨gc, gl, ga, hG⟩ : ∃ gc gl ga, (gc, gl, ga) = gputR ys (S.seq + 1 + A) true (allL more) := ⟨_, _, _, rfl⟩
  rw [← hG] at hg
  have hg0 : gc = 0 := hg
  have h13 : ∀ r ∈ (allL more), r.length = 13 := allL_len more
  have hlen : (allL more).length = 4 := by simp [allL]
  obtain ⟨hn14, hok, hroom, hglv, hgav⟩ := gput_zero hG hg0
  rw [← hS, hlen, hyl] at hroom
  rw [hlen] at hn14
  have hglL : gl.length = 16 * (4 + 1) := by rw [hglv, putSlots_flat h13, hlen]
  obtain ⟨W, hW⟩ : ∃ W, W = gl.length := ⟨_, rfl⟩
  obtain ⟨AT, hAT⟩ : ∃ AT, AT = 16 * S.free := ⟨_, rfl⟩
  have hgaT : ga = (AT : Int) := by rw [hgav, ← hS, hAT]; omega
  have hq2 := puts_seq h13 (by omega) hok
  have hws : ∀ x ∈ gl, 0 ≤ x ∧ x ≤ 65535 := by rw [hglv]; exact puts_words (by omega) hq2 hok
  have hbl : ∀ j, j < W → ys.getD (AT + j) 0 = 65535 := fun j hj => free_words ys (by rw [← hS, hAT]; omega) (by rw [hyl]; omega)
  obtain rfl := hg0
  have HGA := Lib.hid hgaT
  have HWv := Lib.hid (show W = 16 * (4 + 1) by omega)
  have HW := Lib.hid hW
  have HWS := Lib.hid hws
  have HBL := Lib.hid hbl
  have HAT := Lib.hid hAT
  have hATM : AT + W ≤ M := by omega
  have hW1 : 32 ≤ W ∧ W ≤ 80 := by omega
  have HQ2 := Lib.hid hq2
  have HOK := Lib.hid hok
  have HN14 := Lib.hid hn14
  have HLEN := Lib.hid hlen
  have H13 := Lib.hid h13
  have HROOM := Lib.hid hroom
  have HGLV := Lib.hid hglv
  obtain ⟨K, hK⟩ : ∃ K : Nat, amongI cut (W : Int) = (K : Int) ∧ K < W := by
    have h := amongI_lt cut (W : Int) (by omega) (by omega)
    exact ⟨(amongI cut (W : Int)).toNat, by omega, by omega⟩
  have HK := Lib.hid hK.1
  have hKW := hK.2
  obtain ⟨S2, hS2⟩ : ∃ S2, S2 = ({ S with free := S.free + (K + 15) / 16 } : Fnd) := ⟨_, rfl⟩
  have hsc : scanR (withB ys AT (gl.take K)) = S2 := by
    have h := scan_some (xs := ys) (q := S.seq + 1 + A) (first := true) (rs := (allL more)) h13 (by omega) hq2 hok (by rw [← hS, hlen, hyl]; exact hroom) (k := K) (by omega)
    rw [← hS, ← hglv, ← hAT] at h
    rw [h, hS2]
  have HSC := Lib.hid hsc
  have HS2 := Lib.hid hS2
  have HSL2 := Lib.hid (show S2.live.length = 44 by rw [hS2]; exact hSL)
  have HTL := Lib.hid (show (gl.take K).length = K by rw [List.length_take]; omega)
  obtain ⟨F2, hF2⟩ : ∃ F2, F2 = S2.free := ⟨_, rfl⟩
  have hF2v : F2 = S.free + (K + 15) / 16 := by rw [hF2, hS2]
  have HF2 := Lib.hid hF2
  clear hK hsc hS2 hF2
  clear hroom hglv hgav hglL hW hAT hgaT hq2 hws hbl hok hn14
  have HT := Lib.hid ht
  have HI := Lib.hid hit
  have H64 := Lib.hid h64t
  have HMB := Lib.hid hMb
  have HM := Lib.hid hM
  have HN := Lib.hid hn
  have HC := Lib.hid hc
  have HS := Lib.hid hS
  have HSL := Lib.hid hSL
  have HG := Lib.hid hG
  have HA := Lib.hid hA
  have HB := Lib.hid hb
  have HR := Lib.hid hR
  have HR9 := Lib.hid hR9
  have HRR := Lib.hid hrr
  have HZ := Lib.hid hz
  have HYL := Lib.hid hyl
  have HQ := Lib.hid (show I64 (S.seq + 1 + A) by unfold I64; omega)
  have HR64 := Lib.hid (show ∀ r ∈ (allL more), ∀ x ∈ r, I64 x from allL_64 more)
  have HL0 := Lib.hid (show fnd0.live.length = 44 by decide)
  have hcr' := hcr
  unfold maxLen at hcr'
  have hm0 : (0 : Int) ≤ (M : Int) := by omega
  clear ht hi hit h64 h64t hys hfn hMb hM hn hc hS hSL hG hA hb hR hR9 hrr hrr0 hz hyl hfits hrrr hr64 hr640 hcr h13 hlen hg
  go_enter Tryd.func6, Tryd.ntmps6
  go_upto_region 3 with (go_at_call 17; refine (works_any _ HT.out).mono ?_; rintro e w1 ⟨rfl, k1⟩; have K1 := Lib.hid k1; clear k1)
  go_cut [0, 2] from 17 to 24 (fun s0 s2 wx => s0 = .slice a M c ∧ s2 = .slice ar R cr ∧ Keeps [] w wx)
  case first =>
    rcases ar with _ | ad
    · obtain ⟨rfl, rfl⟩ := HZ.out rfl
      have E := Lib.hid (show R = 0 by have := HR9.out; omega)
      go_region_with (go_at_call 9; refine (few_any _ _ _ _ HN.out HC.out).mono ?_; rw [← HM.out]; rintro e w' ⟨rfl, rfl⟩)
      all_goals (try (exfalso; omega))
      all_goals (go_wp2_with fail; go_meet; exact ⟨rfl, (by rw [E.out]), K1.out.drewN 1⟩)
    rcases Nat.lt_trichotomy nr 9 with h | h | h
    · have E := Lib.hid (show R = nr by rw [HR.out, if_pos (by omega)])
      go_region_with (go_at_call 9; refine (few_any _ _ _ _ HN.out HC.out).mono ?_; rw [← HM.out]; rintro e w' ⟨rfl, rfl⟩)
      all_goals (try (exfalso; omega))
      all_goals (go_wp2_with fail; go_meet; exact ⟨rfl, (by rw [E.out]), K1.out.drewN 1⟩)
    · subst h
      have E := Lib.hid (show R = 9 by rw [HR.out, if_pos (by omega)])
      go_region_with (go_at_call 9; refine (few_any _ _ _ _ HN.out HC.out).mono ?_; rw [← HM.out]; rintro e w' ⟨rfl, rfl⟩)
      all_goals (try (exfalso; omega))
      all_goals (go_wp2_with fail; go_meet; exact ⟨rfl, (by rw [E.out]), K1.out.drewN 1⟩)
    · have E := Lib.hid (show R = 9 by rw [HR.out, if_neg (by omega)])
      go_region_with (go_at_call 9; refine (few_any _ _ _ _ HN.out HC.out).mono ?_; rw [← HM.out]; rintro e w' ⟨rfl, rfl⟩)
      all_goals (try (exfalso; omega))
      all_goals (go_wp2_with fail; go_meet; exact ⟨rfl, (by rw [E.out]), K1.out.drewN 1⟩)
  case rest =>
  obtain ⟨rfl, rfl, k3⟩ := hcut
  have K3 := Lib.hid k3
  clear k3
  go_upto_region 7 with (first
    | (go_at_call 12; refine (scan_any _ M c ys _ (HT.out.keep K3.out) (HI.out.keep0 K3.out) (by have := HMB.out; have := HN.out; omega) HC.out H64.out).mono ?_; rw [← HS.out]; rintro e w2 ⟨rfl, k2⟩; have h7 : FAt (w2.alloc (.cells (fndV fnd0) 28)) w2.heap.size 28 [] fnd0 := heap_alloc_new w2 _; have K2 := Lib.hid (K3.out.trans0 k2); clear k2)
    | (simp only [zeros48])
    | (refine st_fnd _ _ h7 HL0.out HSL.out rfl rfl rfl rfl ?_; intro w8 h8 k8 s8; simp only [Act.put]; have d0 : w8.cell? ⟨w2.heap.size, 0, none⟩ = some (.bool false) := (by rw [← HB.out]; exact h8.has); have d1 : w8.cell? ⟨w2.heap.size, 1, none⟩ = some (.int .i64 S.seq) := h8.seq; have d4 : w8.cell? ⟨w2.heap.size, 47, none⟩ = some (.int .i64 (S.free : Int)) := h8.free HSL.out; have HF := Lib.hid h8; have K8 := Lib.hid ((K2.out.alloc (.cells (fndV fnd0) 28)).trans k8 (by intro x hx; right; have := K2.out.size; simp at hx; omega)); clear h8 h7 k8)
    | (go_at_call 21; refine (all_any more _).mono ?_; rw [kinds_all]; rintro e w9 ⟨a2, c2, rfl, r2, l2, m2, k9⟩; have R2 := Lib.hid r2; have HF9 := Lib.hid (HF.out.keep k9 (by simp)); have p0 : w9.cell? ⟨w2.heap.size, 0, none⟩ = some (.bool false) := (by rw [← HB.out]; exact HF9.out.has); have p1 : w9.cell? ⟨w2.heap.size, 1, none⟩ = some (.int .i64 S.seq) := HF9.out.seq; have p4 : w9.cell? ⟨w2.heap.size, 47, none⟩ = some (.int .i64 (S.free : Int)) := HF9.out.free HSL.out; have K9 := Lib.hid (K8.out.trans0 k9); clear r2 k9))
  have hw1 : IntKind.i64.wrap (S.seq + 1) = S.seq + 1 := IntWalk.i64_in _ (by omega)
  have hw2 : IntKind.i64.wrap (S.seq + 1 + A) = S.seq + 1 + A := IntWalk.i64_in _ (by omega)
  go_cut [10, 11, 12] from 32 to 47 (fun s7 s8 s9 wx => ∃ A3 c3, s7 = .slice A3 W c3 ∧ s8 = .int .i64 (AT : Int) ∧ s9 = .int .i64 0 ∧ IntsAt wx A3 gl.length gl ∧ gl.length ≤ c3 ∧ c3 ≤ maxLen ∧ Keeps [] w9 wx)
  case first =>
    go_region_held3 (fun wz => wz.cell? ⟨w2.heap.size, 1, none⟩ = some (.int .i64 S.seq) ∧ wz.cell? ⟨w2.heap.size, 0, none⟩ = some (.bool false)) (first | exact ⟨p1, p0⟩ | exact ⟨q1, q0⟩ | go_keep) (first
      | (go_at_call 20; refine (among_any _ 9 _ (by omega) (by omega)).mono ?_; rw [← HA.out]; rintro e w' ⟨rfl, rfl⟩)
      | (go_at_call 18; have kd := (Keeps.refl [] w9).drewN 1; refine (put_any _ M c ys (S.seq + 1 + A) true a2 4 c2 (allL more) _ (HT.out.keep (K9.out.trans0 kd)) (HI.out.keep0 (K9.out.trans0 kd)) (by have := HMB.out; have := HN.out; omega) HC.out (R2.out.keep0 kd) (by have := HR9.out; omega) HQ.out HR64.out).mono ?_; rw [← HG.out]; rintro e w10 ⟨A3, c3, rfl, i3, k3, l3, m3⟩; have K10 := Lib.hid (kd.trans0 k3); have I3 := Lib.hid i3; have L3 := Lib.hid (And.intro l3 m3); have q1 : w10.cell? ⟨w2.heap.size, 1, none⟩ = some (.int .i64 S.seq) := ((HF9.out.keep kd (by simp)).keep k3 (by simp)).seq; have q0 : w10.cell? ⟨w2.heap.size, 0, none⟩ = some (.bool false) := (by rw [← HB.out]; exact ((HF9.out.keep kd (by simp)).keep k3 (by simp)).has); clear i3 k3 l3 m3 kd))
    all_goals (go_wp2_with fail; go_meet; exact ⟨A3, c3, (by rw [HW.out]), (by rw [HGA.out]), rfl, I3.out, L3.out.1, L3.out.2, K10.out⟩)
  case rest =>
  obtain ⟨A3, c3, rfl, rfl, rfl, i3, l3, m3, k9⟩ := hcut
  have K4 := Lib.hid (K9.out.trans0 k9)
  have HF4 := Lib.hid (HF9.out.keep k9 (by simp))
  have I3 := Lib.hid i3
  unfold maxLen at m3
  clear hw1 hw2 i3 k9
  generalize wc = w4 at *
  have hKc : K ≤ c3 := by have := HW.out; omega
  have hKci : (K : Int) ≤ (c3 : Int) := by omega
  go_upto_region 13 with (first
    | (go_at_call 20; refine (among_any cut (W : Int) _ (by omega) (by omega)).mono ?_; rw [HK.out]; rintro e w' ⟨rfl, rfl⟩)
    | (go_at_call 22; refine (with_any a M c ys AT A3 K c3 (gl.take K) w4 (HI.out.keep0 K4.out) (by have := HMB.out; omega) (by have h := I3.out.take (k := K) (by have := HW.out; omega); exact h) (by rw [HTL.out, HYL.out]; omega) (fun x hx => HWS.out x (List.mem_of_mem_take hx)) (fun j hj => HBL.out j (by rw [HTL.out] at hj; omega))).mono ?_; rw [HYL.out]; rintro e w11 ⟨g5, c5, rfl, hA, k5, -⟩; have IW := Lib.hid (show IntsAt w11 (some ⟨g5, 0, none⟩) M (withB ys AT (gl.take K)) by have h := hA.ints; rw [withB_len (by rw [HTL.out, HYL.out]; omega), HYL.out] at h; exact h); have LW := Lib.hid (show M ≤ c5 ∧ c5 ≤ maxLen by have h := hA.le; rw [withB_len (by rw [HTL.out, HYL.out]; omega), HYL.out] at h; exact ⟨h, hA.cm⟩); have K11 := Lib.hid (K4.out.trans0 k5); have HF11 := Lib.hid (HF4.out.keep k5 (by simp)); clear hA k5)
    | (go_at_call 12; refine (scan_any _ M c5 (withB ys AT (gl.take K)) _ (HT.out.keep K11.out) IW.out LW.out.1 LW.out.2 (with_64 H64.out (fun x hx => HWS.out x (List.mem_of_mem_take hx)))).mono ?_; rw [HSC.out]; rintro e w12 ⟨rfl, k12⟩; have h7 : FAt (w12.alloc (.cells (fndV fnd0) 28)) w12.heap.size 28 [] fnd0 := heap_alloc_new w12 _; have hv7 : FAt (w12.alloc (.cells (fndV fnd0) 28)) w2.heap.size 28 [] S := heap_alloc_held (HF11.out.keep k12 (by simp)) _; have hl7 : w2.heap.size < w12.heap.size := (HF11.out.keep k12 (by simp)).lt; have K12 := Lib.hid (K11.out.trans0 k12); clear k12)
    | (simp only [zeros48])
    | (refine st_fnd _ _ h7 HL0.out HSL2.out rfl rfl rfl rfl ?_; intro w13 h13 k13 s13; simp only [Act.put]; have HV := Lib.hid (hv7.keep k13 (by simp; omega)); have HU := Lib.hid h13; have x4 : w13.cell? ⟨w12.heap.size, 47, none⟩ = some (.int .i64 (F2 : Int)) := (by rw [HF2.out]; exact h13.free HSL2.out); have d4 : w13.cell? ⟨w2.heap.size, 47, none⟩ = some (.int .i64 (S.free : Int)) := HV.out.free HSL.out; have ff := HU.out.frozen 47; have K13 := Lib.hid ((K12.out.alloc (.cells (fndV fnd0) 28)).trans k13 (by intro x hx; right; have := K12.out.size; simp at hx; omega)); have HLT := Lib.hid hl7; clear h13 hv7 h7 hl7 k13))
  go_upto_region 14 with fail
  have hU : FAt (w13.setCell ⟨w12.heap.size, 47, none⟩ (.int .i64 (S.free : Int))) w12.heap.size 28 [] S := (by
    have h := HU.out.setFree HSL2.out S.free
    have e : ({ S2 with free := S.free } : Fnd) = S := by rw [HS2.out]
    rw [e] at h
    exact h)
  have hV : FAt (w13.setCell ⟨w12.heap.size, 47, none⟩ (.int .i64 (S.free : Int))) w2.heap.size 28 [] S := HV.out.keep (F := [w12.heap.size]) ((Keeps.refl _ _).setCell (.inl (by simp)) _) (by have := HLT.out; simp; omega)
  have kU : Keeps [] w (w13.setCell ⟨w12.heap.size, 47, none⟩ (.int .i64 (S.free : Int))) := K13.out.setCell (.inr (by have := K12.out.size; simpa using this)) _
  clear x4 d4 ff
  generalize w13.setCell ⟨w12.heap.size, 47, none⟩ (.int .i64 (S.free : Int)) = w14 at *
  have d4 : w14.cell? ⟨w2.heap.size, 47, none⟩ = some (.int .i64 (S.free : Int)) := hV.free HSL.out
  have HUU := Lib.hid hU
  have HVV := Lib.hid hV
  have KU := Lib.hid kU
  clear hU hV kU
  have hle1 : (S.free : Int) ≤ (F2 : Int) := by omega
  have hle2 : (F2 : Int) ≤ (S.free : Int) + ((K : Int) + 15) / 16 := by omega
  have hK80 : (K : Int) ≤ 80 := by omega
  have hK16 : ((K : Int) + 15) / 16 ≤ ((K : Int) + 16 - 1) / 16 := by omega
  clear hF2v
  go_wp2_with (first
    | (refine ld_fnd _ HUU.out HSL.out rfl rfl rfl ?_; simp only [Act.put])
    | (refine ld_fnd _ HVV.out HSL.out rfl rfl rfl ?_; simp only [Act.put])
    | (refine eq_fnd _ _ _ HSL.out rfl rfl rfl rfl ?_; simp only [Act.put]))
  all_goals (go_ret; exact ⟨rfl, KU.out⟩)

set_option maxHeartbeats 4000000 in
theorem gfronts_fe (a : Option Addr) (n c : Nat) (xs : List Int) (more : Int) (ar : Option Addr) (nr cr : Nat) (rr0 : List (List Int)) (cut : Int) (w : World) (ht : Turns w) (hi : IntsAt w a n xs) (hn : n ≤ c) (hc : c ≤ maxLen) (h64 : ∀ x ∈ xs, I64 x)
    (hrr0 : RecsAt w ar nr rr0) (hnr : nr ≤ cr) (hcr : cr ≤ maxLen) (hr640 : ∀ r ∈ rr0, ∀ x ∈ r, I64 x) (hz : ar = none → nr = 0 ∧ cr = 0) (hb : (scanR (xs.take (fewN n))).has = false) (hg : ¬ (gputR (xs.take (fewN n)) ((scanR (xs.take (fewN n))).seq + 1 + amongI more 9) true (allL more)).1 = 0) :
    Calls Tryd.prog 6 #[.slice a n c, .int .i64 more, .slice ar nr cr, .int .i64 cut] w fun e w' => e = .returned (.bool true) ∧ Keeps [] w w' := by
  have hfn := fewN_le n
  have hit := hi.take (k := fewN n) hfn.1
  have h64t := take_64F (k := fewN n) h64
  obtain ⟨ys, hys⟩ : ∃ ys, ys = xs.take (fewN n) := ⟨_, rfl⟩
  rw [← hys] at hit h64t hb hg
  obtain ⟨M, hM⟩ : ∃ M, M = fewN n := ⟨_, rfl⟩
  have hMb : M ≤ n ∧ M ≤ 480 := by rw [hM]; exact hfn
  rw [← hM] at hit
  obtain ⟨R, hR⟩ : ∃ R, R = if nr ≤ 9 then nr else 9 := ⟨_, rfl⟩
  have hR9 : R ≤ nr ∧ R ≤ 9 := by rw [hR]; split <;> omega
  obtain ⟨rr, hrrr⟩ : ∃ rr, rr = rr0.take R := ⟨_, rfl⟩
  have hrr := recs_front hrr0 hR9.1
  have hr64 : ∀ r ∈ rr0.take R, ∀ x ∈ r, I64 x := fun r hr => hr640 r (List.mem_of_mem_take hr)
  rw [← hrrr] at hrr hr64
  skip
  obtain ⟨S, hS⟩ : ∃ S, S = scanR ys := ⟨_, rfl⟩
  have hyl : ys.length = M := hit.1.symm
  have hfits : Fits S (ys.length / 16) := by rw [hS]; exact fits_scan ys
  rw [hyl] at hfits
  rw [← hS] at hb hg
  have hSD : S.free ≤ 30 := by have := hfits.free; omega
  have hs0 : 0 ≤ S.seq := hfits.seq.1
  have hs1 : S.seq ≤ 4294967295 := hfits.seq.2
  have hc0 : 0 ≤ S.com ∧ S.com ≤ 30 := by have := hfits.com; omega
  have hSL : S.live.length = 44 := hfits.live
  obtain ⟨A, hA⟩ : ∃ A, A = amongI more 9 := ⟨_, rfl⟩
  have hA0 : 0 ≤ A ∧ A < 9 := by rw [hA]; exact amongI_lt more 9 (by omega) (by omega)
  rw [← hA] at hg
  obtain ⟨gc, gl, ga, hG⟩ : ∃ gc gl ga, (gc, gl, ga) = gputR ys (S.seq + 1 + A) true (allL more) := ⟨_, _, _, rfl⟩
  rw [← hG] at hg
  have hg0 : ¬ gc = 0 := hg
  have h13 : ∀ r ∈ (allL more), r.length = 13 := allL_len more
  have hlen : (allL more).length = 4 := by simp [allL]
  obtain ⟨rfl, rfl⟩ := gput_err hG hg0
  have hg0b : (gc == 0) = false := by simp [hg0]
  have HT := Lib.hid ht
  have HI := Lib.hid hit
  have H64 := Lib.hid h64t
  have HMB := Lib.hid hMb
  have HM := Lib.hid hM
  have HN := Lib.hid hn
  have HC := Lib.hid hc
  have HS := Lib.hid hS
  have HSL := Lib.hid hSL
  have HG := Lib.hid hG
  have HA := Lib.hid hA
  have HB := Lib.hid hb
  have HR := Lib.hid hR
  have HR9 := Lib.hid hR9
  have HRR := Lib.hid hrr
  have HZ := Lib.hid hz
  have HYL := Lib.hid hyl
  have HQ := Lib.hid (show I64 (S.seq + 1 + A) by unfold I64; omega)
  have HR64 := Lib.hid (show ∀ r ∈ (allL more), ∀ x ∈ r, I64 x from allL_64 more)
  have HL0 := Lib.hid (show fnd0.live.length = 44 by decide)
  have hcr' := hcr
  unfold maxLen at hcr'
  have hm0 : (0 : Int) ≤ (M : Int) := by omega
  clear ht hi hit h64 h64t hys hfn hMb hM hn hc hS hSL hG hA hb hR hR9 hrr hrr0 hz hyl hfits hrrr hr64 hr640 hcr h13 hlen hg
  go_enter Tryd.func6, Tryd.ntmps6
  go_upto_region 3 with (go_at_call 17; refine (works_any _ HT.out).mono ?_; rintro e w1 ⟨rfl, k1⟩; have K1 := Lib.hid k1; clear k1)
  go_cut [0, 2] from 17 to 24 (fun s0 s2 wx => s0 = .slice a M c ∧ s2 = .slice ar R cr ∧ Keeps [] w wx)
  case first =>
    rcases ar with _ | ad
    · obtain ⟨rfl, rfl⟩ := HZ.out rfl
      have E := Lib.hid (show R = 0 by have := HR9.out; omega)
      go_region_with (go_at_call 9; refine (few_any _ _ _ _ HN.out HC.out).mono ?_; rw [← HM.out]; rintro e w' ⟨rfl, rfl⟩)
      all_goals (try (exfalso; omega))
      all_goals (go_wp2_with fail; go_meet; exact ⟨rfl, (by rw [E.out]), K1.out.drewN 1⟩)
    rcases Nat.lt_trichotomy nr 9 with h | h | h
    · have E := Lib.hid (show R = nr by rw [HR.out, if_pos (by omega)])
      go_region_with (go_at_call 9; refine (few_any _ _ _ _ HN.out HC.out).mono ?_; rw [← HM.out]; rintro e w' ⟨rfl, rfl⟩)
      all_goals (try (exfalso; omega))
      all_goals (go_wp2_with fail; go_meet; exact ⟨rfl, (by rw [E.out]), K1.out.drewN 1⟩)
    · subst h
      have E := Lib.hid (show R = 9 by rw [HR.out, if_pos (by omega)])
      go_region_with (go_at_call 9; refine (few_any _ _ _ _ HN.out HC.out).mono ?_; rw [← HM.out]; rintro e w' ⟨rfl, rfl⟩)
      all_goals (try (exfalso; omega))
      all_goals (go_wp2_with fail; go_meet; exact ⟨rfl, (by rw [E.out]), K1.out.drewN 1⟩)
    · have E := Lib.hid (show R = 9 by rw [HR.out, if_neg (by omega)])
      go_region_with (go_at_call 9; refine (few_any _ _ _ _ HN.out HC.out).mono ?_; rw [← HM.out]; rintro e w' ⟨rfl, rfl⟩)
      all_goals (try (exfalso; omega))
      all_goals (go_wp2_with fail; go_meet; exact ⟨rfl, (by rw [E.out]), K1.out.drewN 1⟩)
  case rest =>
  obtain ⟨rfl, rfl, k3⟩ := hcut
  have K3 := Lib.hid k3
  clear k3
  go_upto_region 7 with (first
    | (go_at_call 12; refine (scan_any _ M c ys _ (HT.out.keep K3.out) (HI.out.keep0 K3.out) (by have := HMB.out; have := HN.out; omega) HC.out H64.out).mono ?_; rw [← HS.out]; rintro e w2 ⟨rfl, k2⟩; have h7 : FAt (w2.alloc (.cells (fndV fnd0) 28)) w2.heap.size 28 [] fnd0 := heap_alloc_new w2 _; have K2 := Lib.hid (K3.out.trans0 k2); clear k2)
    | (simp only [zeros48])
    | (refine st_fnd _ _ h7 HL0.out HSL.out rfl rfl rfl rfl ?_; intro w8 h8 k8 s8; simp only [Act.put]; have d0 : w8.cell? ⟨w2.heap.size, 0, none⟩ = some (.bool false) := (by rw [← HB.out]; exact h8.has); have d1 : w8.cell? ⟨w2.heap.size, 1, none⟩ = some (.int .i64 S.seq) := h8.seq; have d4 : w8.cell? ⟨w2.heap.size, 47, none⟩ = some (.int .i64 (S.free : Int)) := h8.free HSL.out; have HF := Lib.hid h8; have K8 := Lib.hid ((K2.out.alloc (.cells (fndV fnd0) 28)).trans k8 (by intro x hx; right; have := K2.out.size; simp at hx; omega)); clear h8 h7 k8)
    | (go_at_call 21; refine (all_any more _).mono ?_; rw [kinds_all]; rintro e w9 ⟨a2, c2, rfl, r2, l2, m2, k9⟩; have R2 := Lib.hid r2; have HF9 := Lib.hid (HF.out.keep k9 (by simp)); have p0 : w9.cell? ⟨w2.heap.size, 0, none⟩ = some (.bool false) := (by rw [← HB.out]; exact HF9.out.has); have p1 : w9.cell? ⟨w2.heap.size, 1, none⟩ = some (.int .i64 S.seq) := HF9.out.seq; have p4 : w9.cell? ⟨w2.heap.size, 47, none⟩ = some (.int .i64 (S.free : Int)) := HF9.out.free HSL.out; have K9 := Lib.hid (K8.out.trans0 k9); clear r2 k9))
  have hw1 : IntKind.i64.wrap (S.seq + 1) = S.seq + 1 := IntWalk.i64_in _ (by omega)
  have hw2 : IntKind.i64.wrap (S.seq + 1 + A) = S.seq + 1 + A := IntWalk.i64_in _ (by omega)
  go_cut [10, 11, 12] from 32 to 47 (fun s7 s8 s9 wx => ∃ A3 c3, s7 = .slice A3 0 c3 ∧ s8 = .int .i64 0 ∧ s9 = .int .i64 gc ∧ True ∧ 0 ≤ c3 ∧ c3 ≤ maxLen ∧ Keeps [] w9 wx)
  case first =>
    go_region_held3 (fun wz => wz.cell? ⟨w2.heap.size, 1, none⟩ = some (.int .i64 S.seq) ∧ wz.cell? ⟨w2.heap.size, 0, none⟩ = some (.bool false)) (first | exact ⟨p1, p0⟩ | exact ⟨q1, q0⟩ | go_keep) (first
      | (go_at_call 20; refine (among_any _ 9 _ (by omega) (by omega)).mono ?_; rw [← HA.out]; rintro e w' ⟨rfl, rfl⟩)
      | (go_at_call 18; have kd := (Keeps.refl [] w9).drewN 1; refine (put_any _ M c ys (S.seq + 1 + A) true a2 4 c2 (allL more) _ (HT.out.keep (K9.out.trans0 kd)) (HI.out.keep0 (K9.out.trans0 kd)) (by have := HMB.out; have := HN.out; omega) HC.out (R2.out.keep0 kd) (by have := HR9.out; omega) HQ.out HR64.out).mono ?_; rw [← HG.out]; rintro e w10 ⟨A3, c3, rfl, i3, k3, l3, m3⟩; have K10 := Lib.hid (kd.trans0 k3); have I3 := Lib.hid i3; have L3 := Lib.hid (And.intro l3 m3); have q1 : w10.cell? ⟨w2.heap.size, 1, none⟩ = some (.int .i64 S.seq) := ((HF9.out.keep kd (by simp)).keep k3 (by simp)).seq; have q0 : w10.cell? ⟨w2.heap.size, 0, none⟩ = some (.bool false) := (by rw [← HB.out]; exact ((HF9.out.keep kd (by simp)).keep k3 (by simp)).has); clear i3 k3 l3 m3 kd))
    all_goals (go_wp2_with fail; go_meet; exact ⟨A3, c3, rfl, rfl, rfl, trivial, L3.out.1, L3.out.2, K10.out⟩)
  case rest =>
  obtain ⟨A3, c3, rfl, rfl, rfl, i3, l3, m3, k9⟩ := hcut
  have K4 := Lib.hid (K9.out.trans0 k9)
  have HF4 := Lib.hid (HF9.out.keep k9 (by simp))
  have I3 := Lib.hid i3
  unfold maxLen at m3
  clear hw1 hw2 i3 k9
  generalize wc = w4 at *
  go_wp2_with fail
  go_ret
  exact ⟨rfl, K4.out⟩

theorem gfronts_any (a : Option Addr) (n c : Nat) (xs : List Int) (more : Int) (ar : Option Addr) (nr cr : Nat) (rr0 : List (List Int)) (cut : Int) (w : World) (ht : Turns w) (hi : IntsAt w a n xs) (hn : n ≤ c) (hc : c ≤ maxLen) (h64 : ∀ x ∈ xs, I64 x)
    (hrr0 : RecsAt w ar nr rr0) (hnr : nr ≤ cr) (hcr : cr ≤ maxLen) (hr640 : ∀ r ∈ rr0, ∀ x ∈ r, I64 x) (hz : ar = none → nr = 0 ∧ cr = 0) :
    Calls Tryd.prog 6 #[.slice a n c, .int .i64 more, .slice ar nr cr, .int .i64 cut] w fun e w' => e = .returned (.bool true) ∧ Keeps [] w w' := by
  rcases hb : (scanR (xs.take (fewN n))).has with _ | _
  · by_cases hg : (gputR (xs.take (fewN n)) ((scanR (xs.take (fewN n))).seq + 1 + amongI more 9) true (allL more)).1 = 0
    · exact gfronts_fo a n c xs more ar nr cr rr0 cut w ht hi hn hc h64 hrr0 hnr hcr hr640 hz hb hg
    · exact gfronts_fe a n c xs more ar nr cr rr0 cut w ht hi hn hc h64 hrr0 hnr hcr hr640 hz hb hg
  · by_cases hg : (gputR (xs.take (fewN n)) ((scanR (xs.take (fewN n))).seq + 1 + amongI more 9) false (rr0.take (if nr ≤ 9 then nr else 9))).1 = 0
    · exact gfronts_to a n c xs more ar nr cr rr0 cut w ht hi hn hc h64 hrr0 hnr hcr hr640 hz hb hg
    · exact gfronts_te a n c xs more ar nr cr rr0 cut w ht hi hn hc h64 hrr0 hnr hcr hr640 hz hb hg

end Go.Proofs.YtnmblemplkdmaaaDoor
