
/- GroupCounts walked. No condition but lengths, that all are numbers of 64 bits, and the table of the sums. -/
import Derived.Test.YtnmblemplkdmaaaDoorWa
import Derived.Test.YtnmblemplkdmaaaDoorRp
import Derived.IntWalk
import Derived.StillTailTactics
import Derived.Deep.CutBlock
import Derived.Deep.RegionHeld3
namespace Go.Proofs.YtnmblemplkdmaaaDoor
open Go.RowKit Go.Shelf
set_option linter.unusedVariables false
set_option linter.unusedSimpArgs false
set_option maxRecDepth 100000

theorem flipF {P : Program} {f : FuncId} {args : Array Value} {w : World} {v : Value} (h : Calls P f args w fun e w' => e = .returned v ∧ w = w') : Calls P f args w fun e w' => e = .returned v ∧ w' = w := h.mono fun _ _ h => ⟨h.1, h.2.symm⟩
theorem recs_front {w : World} {a : Option Addr} {n k : Nat} {rs : List (List Int)} (h : RecsAt w a n rs) (hk : k ≤ n) : RecsAt w a k (rs.take k) := by
  have h13 := h.2.1
  have hn := h.1
  have hlt : (rs.take k).length = k := by rw [List.length_take]; omega
  have t13 : ∀ r ∈ rs.take k, r.length = 13 := fun r hr => h13 r (List.mem_of_mem_take hr)
  refine ⟨hlt.symm, t13, ?_⟩
  have e : (rs.take k).flatten = rs.flatten.take (13 * k) := by
    have h1 : rs.flatten = (rs.take k).flatten ++ (rs.drop k).flatten := by rw [← List.flatten_append, List.take_append_drop]
    have h2 : (rs.take k).flatten.length = 13 * k := by rw [flat13 t13, hlt]
    conv => rhs; rw [h1]
    rw [List.take_append_of_le_length (by omega)]
    exact (List.take_of_length_le (by omega)).symm
  rw [e]
  exact h.2.2.take (by omega)
theorem take_64F {xs : List Int} {k : Nat} (h : ∀ x ∈ xs, I64 x) : ∀ x ∈ xs.take k, I64 x := fun x hx => h x (List.mem_of_mem_take hx)
theorem slotsN_any (M D : Nat) (w : World) (h : slotsI (M : Int) = (D : Int)) (hM : M ≤ 480) : Calls Tryd.prog 14 #[.int .i64 (M : Int)] w fun e w' => e = .returned (.int .i64 (D : Int)) ∧ w = w' := by
  have hh := Slots_any (M : Int) w (by unfold I64; omega)
  rw [h] at hh
  exact hh
theorem gput_zero {xs : List Int} {q : Int} {first : Bool} {rs : List (List Int)} {gc ga : Int} {gl : List Int} (h : (gc, gl, ga) = gputR xs q first rs) (h0 : gc = 0) :
    (1 ≤ rs.length ∧ rs.length ≤ 4) ∧ putsOk q (-1) rs = true ∧ (scanR xs).free + rs.length + 1 ≤ xs.length / 16 ∧ gl = (putSlots q first rs).flatten ∧ ga = 16 * ((scanR xs).free : Int) := by
  unfold gputR at h
  split at h
  · rename_i h1
    split at h
    · rename_i h2
      simp only [Prod.mk.injEq] at h
      exact ⟨⟨h1.1, h1.2.1⟩, h1.2.2, h2, h.2.1, h.2.2⟩
    · simp only [Prod.mk.injEq] at h
      omega
  · simp only [Prod.mk.injEq] at h
    omega
theorem gput_err {xs : List Int} {q : Int} {first : Bool} {rs : List (List Int)} {gc ga : Int} {gl : List Int} (h : (gc, gl, ga) = gputR xs q first rs) (h0 : ¬ gc = 0) : gl = [] ∧ ga = 0 := by
  unfold gputR at h
  split at h
  · split at h
    · simp only [Prod.mk.injEq] at h
      exact absurd h.1 h0
    · simp only [Prod.mk.injEq] at h
      exact h.2
  · simp only [Prod.mk.injEq] at h
    exact h.2
theorem recs_lt {w : World} {a : Option Addr} {n : Nat} {rs : List (List Int)} (h : RecsAt w a n rs) (h1 : 1 ≤ n) : ∀ b o s, a = some ⟨b, o, s⟩ → b < w.heap.size := by
  rintro b o s rfl
  obtain ⟨rfl, hr⟩ := h.range (i := 0) (by omega)
  have h13 : (rs.getD 0 []).length = 13 := h.2.1 _ (getD_mem (by rw [← h.1]; omega))
  exact World.block_lt_of_cell? w _ (hr 0 _ (map_get (by omega)))
theorem range_pay {w : World} {b o : Nat} {r : List Int} (h : w.rangeAt b o (r.map (.int .i64))) : w.rangeAt b (o + 2) ((r.drop 2).map (.int .i64)) := by
  intro j v hv
  rw [List.getElem?_map, List.getElem?_drop] at hv
  have h2 := h (2 + j) v (by rw [List.getElem?_map]; exact hv)
  rw [show o + 2 + j = o + (2 + j) by omega]
  exact h2
theorem kind_cell {w : World} {b o k : Nat} {r : List Int} (h : w.rangeAt b o (r.map (.int .i64))) (hl : r.length = 13) (hk : r.getD 0 0 = (k : Int)) : w.cell? ⟨b, o, none⟩ = some (.int .i64 (k : Int)) := by
  have h2 := h 0 _ (map_get (l := r) (by rw [hl]; decide))
  rw [Nat.add_zero, hk] at h2
  exact h2
theorem among_at (x A : Int) (w : World) (h : A = amongI x 9) : Calls Tryd.prog 20 #[.int .i64 x, .int .i64 9] w fun e w' => e = .returned (.int .i64 A) ∧ w = w' := by
  rw [h]
  exact among_any x 9 w (by omega) (by omega)

set_option maxHeartbeats 4000000 in
theorem gcounts_to (a : Option Addr) (n c : Nat) (xs : List Int) (more : Int) (ar : Option Addr) (nr cr : Nat) (rr0 : List (List Int)) (w : World) (ht : Turns w) (hi : IntsAt w a n xs) (hn : n ≤ c) (hc : c ≤ maxLen) (h64 : ∀ x ∈ xs, I64 x)
    (hrr0 : RecsAt w ar nr rr0) (hnr : nr ≤ cr) (hcr : cr ≤ maxLen) (hr640 : ∀ r ∈ rr0, ∀ x ∈ r, I64 x) (hz : ar = none → nr = 0 ∧ cr = 0) (hb : (scanR (xs.take (fewN n))).has = true) (hg : (gputR (xs.take (fewN n)) ((scanR (xs.take (fewN n))).seq + 1 + amongI more 9) false (rr0.take (if nr ≤ 9 then nr else 9))).1 = 0) :
    Calls Tryd.prog 5 #[.slice a n c, .int .i64 more, .slice ar nr cr] w fun e w' => e = .returned (.bool true) ∧ Keeps [] w w' := by
  have hfn := fewN_le n
  have hit := hi.take (k := fewN n) hfn.1
  have h64t := take_64F (k := fewN n) h64
  obtain ⟨ys, hys⟩ : ∃ ys, ys = xs.take (fewN n) := ⟨_, rfl⟩
  rw [← hys] at hit h64t hb hg
  obtain ⟨M, hM⟩ : ∃ M, M = fewN n := ⟨_, rfl⟩
  have hMb : M ≤ n ∧ M ≤ 480 := by rw [hM]; exact hfn
  rw [← hM] at hit
  obtain ⟨R, hR⟩ : ∃ R, R = if nr ≤ 9 then nr else 9 := ⟨_, rfl⟩
  have hR9 : R ≤ nr ∧ R ≤ 9 := by rw [hR]; split <;> omega
  obtain ⟨rr, hrrr⟩ : ∃ rr, rr = rr0.take R := ⟨_, rfl⟩
  have hrr := recs_front hrr0 hR9.1
  have hr64 : ∀ r ∈ rr0.take R, ∀ x ∈ r, I64 x := fun r hr => hr640 r (List.mem_of_mem_take hr)
  rw [← hrrr] at hrr hr64
  rw [← hR, ← hrrr] at hg
  obtain ⟨S, hS⟩ : ∃ S, S = scanR ys := ⟨_, rfl⟩
  have hyl : ys.length = M := hit.1.symm
  have hfits : Fits S (ys.length / 16) := by rw [hS]; exact fits_scan ys
  rw [hyl] at hfits
  rw [← hS] at hb hg
  have hSD : S.free ≤ 30 := by have := hfits.free; omega
  have hs0 : 0 ≤ S.seq := hfits.seq.1
  have hs1 : S.seq ≤ 4294967295 := hfits.seq.2
  have hc0 : 0 ≤ S.com ∧ S.com ≤ 30 := by have := hfits.com; omega
  have hSL : S.live.length = 44 := hfits.live
  obtain ⟨A, hA⟩ : ∃ A, A = amongI more 9 := ⟨_, rfl⟩
  have hA0 : 0 ≤ A ∧ A < 9 := by rw [hA]; exact amongI_lt more 9 (by omega) (by omega)
  rw [← hA] at hg
  obtain ⟨gc, gl, ga, hG⟩ : ∃ gc gl ga, (gc, gl, ga) = gputR ys (S.seq + 1 + A) false rr := ⟨_, _, _, rfl⟩
  rw [← hG] at hg
  have hg0 : gc = 0 := hg
  have h13 : ∀ r ∈ rr, r.length = 13 := hrr.2.1
  have hlen : rr.length = R := hrr.1.symm
  obtain ⟨hn14, hok, hroom, hglv, hgav⟩ := gput_zero hG hg0
  rw [← hS, hlen, hyl] at hroom
  rw [hlen] at hn14
  have hglL : gl.length = 16 * (R + 1) := by rw [hglv, putSlots_flat h13, hlen]
  obtain ⟨W, hW⟩ : ∃ W, W = gl.length := ⟨_, rfl⟩
  obtain ⟨AT, hAT⟩ : ∃ AT, AT = 16 * S.free := ⟨_, rfl⟩
  have hgaT : ga = (AT : Int) := by rw [hgav, ← hS, hAT]; omega
  have hq2 := puts_seq h13 (by omega) hok
  have hws : ∀ x ∈ gl, 0 ≤ x ∧ x ≤ 65535 := by rw [hglv]; exact puts_words (by omega) hq2 hok
  have hbl : ∀ j, j < W → ys.getD (AT + j) 0 = 65535 := fun j hj => free_words ys (by rw [← hS, hAT]; omega) (by rw [hyl]; omega)
  obtain rfl := hg0
  have HGA := Lib.hid hgaT
  have HWv := Lib.hid (show W = 16 * (R + 1) by omega)
  have HW := Lib.hid hW
  have HWS := Lib.hid hws
  have HBL := Lib.hid hbl
  have HAT := Lib.hid hAT
  have hATM : AT + W ≤ M := by omega
  have hW1 : 32 ≤ W ∧ W ≤ 80 := by omega
  have HQ2 := Lib.hid hq2
  have HOK := Lib.hid hok
  have HN14 := Lib.hid hn14
  have HLEN := Lib.hid hlen
  have H13 := Lib.hid h13
  have HROOM := Lib.hid hroom
  have HGLV := Lib.hid hglv
  have hkinds : ∀ r ∈ rr, r.length = 13 ∧ 0 ≤ r.getD 0 0 ∧ r.getD 0 0 < 4 := fun r hr => by
    have h1 := puts_mem hok r hr
    have h2 := (right_out h1.1).1.1
    rw [setSeq_kind (h13 r hr)] at h2
    exact ⟨h13 r hr, h2, h1.2⟩
  obtain ⟨S3, hS3⟩ : ∃ S3, S3 = (⟨true, S.seq + 1 + A, liveRecs S.live rr, S.com + 1, S.free + R + 1⟩ : Fnd) := ⟨_, rfl⟩
  have hsc : scanR (withB ys AT gl) = S3 := by
    have h := scan_put (xs := ys) (q := S.seq + 1 + A) (first := false) (rs := rr) h13 (by omega) hq2 hok (by rw [← hS, if_pos hb]; exact ⟨rfl, by omega⟩) (by rw [← hS, hlen, hyl]; exact hroom)
    rw [← hS, ← hglv, ← hAT, live_recs _ h13 hok, hlen] at h
    rw [h, hS3]
  have HSC := Lib.hid hsc
  have HS3 := Lib.hid hS3
  have HSL3 := Lib.hid (show S3.live.length = 44 by rw [hS3]; exact liveRecs_len hSL hkinds)
  have HKINDS := Lib.hid hkinds
  clear hkinds hsc hS3
  clear hroom hglv hgav hglL hW hAT hgaT hq2 hws hbl hok hn14
  have HT := Lib.hid ht
  have HI := Lib.hid hit
  have H64 := Lib.hid h64t
  have HMB := Lib.hid hMb
  have HM := Lib.hid hM
  have HN := Lib.hid hn
  have HC := Lib.hid hc
  have HS := Lib.hid hS
  have HSL := Lib.hid hSL
  have HG := Lib.hid hG
  have HA := Lib.hid hA
  have HB := Lib.hid hb
  have HR := Lib.hid hR
  have HR9 := Lib.hid hR9
  have HRR := Lib.hid hrr
  have HZ := Lib.hid hz
  have HYL := Lib.hid hyl
  have HQ := Lib.hid (show I64 (S.seq + 1 + A) by unfold I64; omega)
  have HR64 := Lib.hid (show ∀ r ∈ rr, ∀ x ∈ r, I64 x from hr64)
  have HL0 := Lib.hid (show fnd0.live.length = 44 by decide)
  have hcr' := hcr
  unfold maxLen at hcr'
  have hm0 : (0 : Int) ≤ (M : Int) := by omega
  clear ht hi hit h64 h64t hys hfn hMb hM hn hc hS hSL hG hA hb hR hR9 hrr hrr0 hz hyl hfits hrrr hr64 hr640 hcr h13 hlen hg
  go_enter Tryd.func5, Tryd.ntmps5
  go_upto_region 3 with (go_at_call 17; refine (works_any _ HT.out).mono ?_; rintro e w1 ⟨rfl, k1⟩; have K1 := Lib.hid k1; clear k1)
  go_cut [0, 2] from 16 to 23 (fun s0 s2 wx => s0 = .slice a M c ∧ s2 = .slice ar R cr ∧ Keeps [] w wx)
  case first =>
    rcases ar with _ | ad
    · obtain ⟨rfl, rfl⟩ := HZ.out rfl
      have E := Lib.hid (show R = 0 by have := HR9.out; omega)
      go_region_with (go_at_call 9; refine (few_any _ _ _ _ HN.out HC.out).mono ?_; rw [← HM.out]; rintro e w' ⟨rfl, rfl⟩)
      all_goals (try (exfalso; omega))
      all_goals (go_wp2_with fail; go_meet; exact ⟨rfl, (by rw [E.out]), K1.out.drewN 1⟩)
    rcases Nat.lt_trichotomy nr 9 with h | h | h
    · have E := Lib.hid (show R = nr by rw [HR.out, if_pos (by omega)])
      go_region_with (go_at_call 9; refine (few_any _ _ _ _ HN.out HC.out).mono ?_; rw [← HM.out]; rintro e w' ⟨rfl, rfl⟩)
      all_goals (try (exfalso; omega))
      all_goals (go_wp2_with fail; go_meet; exact ⟨rfl, (by rw [E.out]), K1.out.drewN 1⟩)
    · subst h
      have E := Lib.hid (show R = 9 by rw [HR.out, if_pos (by omega)])
      go_region_with (go_at_call 9; refine (few_any _ _ _ _ HN.out HC.out).mono ?_; rw [← HM.out]; rintro e w' ⟨rfl, rfl⟩)
      all_goals (try (exfalso; omega))
      all_goals (go_wp2_with fail; go_meet; exact ⟨rfl, (by rw [E.out]), K1.out.drewN 1⟩)
    · have E := Lib.hid (show R = 9 by rw [HR.out, if_neg (by omega)])
      go_region_with (go_at_call 9; refine (few_any _ _ _ _ HN.out HC.out).mono ?_; rw [← HM.out]; rintro e w' ⟨rfl, rfl⟩)
      all_goals (try (exfalso; omega))
      all_goals (go_wp2_with fail; go_meet; exact ⟨rfl, (by rw [E.out]), K1.out.drewN 1⟩)
  case rest =>
  obtain ⟨rfl, rfl, k3⟩ := hcut
  have K3 := Lib.hid k3
  clear k3
  go_upto_region 5 with (first
    | (go_at_call 12; refine (scan_any _ M c ys _ (HT.out.keep K3.out) (HI.out.keep0 K3.out) (by have := HMB.out; have := HN.out; omega) HC.out H64.out).mono ?_; rw [← HS.out]; rintro e w2 ⟨rfl, k2⟩; have h7 : FAt (w2.alloc (.cells (fndV fnd0) 28)) w2.heap.size 28 [] fnd0 := heap_alloc_new w2 _; have K2 := Lib.hid (K3.out.trans0 k2); clear k2)
    | (simp only [zeros48])
    | (refine st_fnd _ _ h7 HL0.out HSL.out rfl rfl rfl rfl ?_; intro w8 h8 k8 s8; simp only [Act.put]; have d0 : w8.cell? ⟨w2.heap.size, 0, none⟩ = some (.bool true) := (by rw [← HB.out]; exact h8.has); have d1 : w8.cell? ⟨w2.heap.size, 1, none⟩ = some (.int .i64 S.seq) := h8.seq; have d4 : w8.cell? ⟨w2.heap.size, 47, none⟩ = some (.int .i64 (S.free : Int)) := h8.free HSL.out; have HF := Lib.hid h8; have K8 := Lib.hid ((K2.out.alloc (.cells (fndV fnd0) 28)).trans k8 (by intro x hx; right; have := K2.out.size; simp at hx; omega)); clear h8 h7 k8)
    | (go_at_call 21; refine (all_any more _).mono ?_; rw [kinds_all]; rintro e w9 ⟨a2, c2, rfl, r2, l2, m2, k9⟩; have R2 := Lib.hid r2; have HF9 := Lib.hid (HF.out.keep k9 (by simp)); have p0 : w9.cell? ⟨w2.heap.size, 0, none⟩ = some (.bool true) := (by rw [← HB.out]; exact HF9.out.has); have p1 : w9.cell? ⟨w2.heap.size, 1, none⟩ = some (.int .i64 S.seq) := HF9.out.seq; have p4 : w9.cell? ⟨w2.heap.size, 47, none⟩ = some (.int .i64 (S.free : Int)) := HF9.out.free HSL.out; have K9 := Lib.hid (K8.out.trans0 k9); clear r2 k9))
  have hw1 : IntKind.i64.wrap (S.seq + 1) = S.seq + 1 := IntWalk.i64_in _ (by omega)
  have hw2 : IntKind.i64.wrap (S.seq + 1 + A) = S.seq + 1 + A := IntWalk.i64_in _ (by omega)
  go_cut [8] from 26 to 31 (fun s8 wx => s8 = .int .i64 (S.seq + 1 + A) ∧ Keeps [] w8 wx)
  case first =>
    go_quiet ((go_at_call 20; refine Calls.quiet_of_same (flipF (among_at more A _ HA.out))))
    go_wp2_with fail
    go_meet
    exact ⟨rfl, (Keeps.refl _ _).drewN _⟩
  case rest =>
  obtain ⟨rfl, k5⟩ := hcut
  generalize wc = w5 at *
  have K5 := Lib.hid (K8.out.trans0 k5)
  have HF5 := Lib.hid (HF.out.keep k5 (by simp))
  clear k5 d0 d1 d4 hw1 hw2
  have d0 : w5.cell? ⟨w2.heap.size, 0, none⟩ = some (.bool true) := (by rw [← HB.out]; exact HF5.out.has); have d1 : w5.cell? ⟨w2.heap.size, 1, none⟩ = some (.int .i64 S.seq) := HF5.out.seq; have d4 : w5.cell? ⟨w2.heap.size, 47, none⟩ = some (.int .i64 (S.free : Int)) := HF5.out.free HSL.out
  go_upto_region 9 with (first
    | (go_at_call 21; refine (all_any more _).mono ?_; rw [kinds_all]; rintro e w9 ⟨a2, c2, rfl, r2, l2, m2, k9⟩; have R2 := Lib.hid r2; have HF9 := Lib.hid (HF5.out.keep k9 (by simp)); have p0 : w9.cell? ⟨w2.heap.size, 0, none⟩ = some (.bool true) := (by rw [← HB.out]; exact HF9.out.has); have p1 : w9.cell? ⟨w2.heap.size, 1, none⟩ = some (.int .i64 S.seq) := HF9.out.seq; have p4 : w9.cell? ⟨w2.heap.size, 47, none⟩ = some (.int .i64 (S.free : Int)) := HF9.out.free HSL.out; have K9 := Lib.hid (K5.out.trans0 k9); clear r2 k9)
    | (go_at_call 18; refine (put_any _ M c ys (S.seq + 1 + A) false ar R cr rr _ (HT.out.keep K5.out) (HI.out.keep0 K5.out) (by have := HMB.out; have := HN.out; omega) HC.out (HRR.out.keep0 K5.out) (by have := HR9.out; omega) HQ.out HR64.out).mono ?_; rw [← HG.out]; rintro e w10 ⟨A3, c3, rfl, i3, k3, l3, m3⟩; have K10 := Lib.hid k3; have I3 := Lib.hid (show IntsAt w10 A3 gl.length gl from i3); have L3 := Lib.hid (And.intro l3 m3); have HF10 := Lib.hid (HF5.out.keep k3 (by simp)); clear i3 k3 l3 m3))
  go_upto_region 13 with (first
    | (go_at_call 22; rw [HGA.out]; refine (with_any a M c ys AT A3 gl.length c3 gl w10 (HI.out.keep0 (K5.out.trans0 K10.out)) (by have := HMB.out; omega) I3.out (by rw [← HW.out, HYL.out]; omega) HWS.out (fun j hj => HBL.out j (by rw [HW.out]; exact hj))).mono ?_; rw [HYL.out]; rintro e w11 ⟨g5, c5, rfl, hA, k5, -⟩; have IW := Lib.hid (show IntsAt w11 (some ⟨g5, 0, none⟩) M (withB ys AT gl) by have h := hA.ints; rw [withB_len (by rw [← HW.out, HYL.out]; omega), HYL.out] at h; exact h); have LW := Lib.hid (show M ≤ c5 ∧ c5 ≤ maxLen by have h := hA.le; rw [withB_len (by rw [← HW.out, HYL.out]; omega), HYL.out] at h; exact ⟨h, hA.cm⟩); have K11 := Lib.hid (K10.out.trans0 k5); have HF11 := Lib.hid (HF10.out.keep k5 (by simp)); clear hA k5)
    | (go_at_call 12; refine (scan_any _ M c5 (withB ys AT gl) _ (HT.out.keep (K5.out.trans0 K11.out)) IW.out LW.out.1 LW.out.2 (with_64 H64.out HWS.out)).mono ?_; rw [HSC.out]; rintro e w12 ⟨rfl, k12⟩; have h7 : FAt (w12.alloc (.cells (fndV fnd0) 28)) w12.heap.size 28 [] fnd0 := heap_alloc_new w12 _; have hv7 : FAt (w12.alloc (.cells (fndV fnd0) 28)) w2.heap.size 28 [] S := heap_alloc_held (HF11.out.keep k12 (by simp)) _; have hl7 : w2.heap.size < w12.heap.size := (HF11.out.keep k12 (by simp)).lt; have HL7 := Lib.hid hl7; have K12 := Lib.hid (K11.out.trans0 k12); clear k12 hl7)
    | (simp only [zeros48])
    | (refine st_fnd _ _ h7 HL0.out HSL3.out rfl rfl rfl rfl ?_; intro w13 h13 k13 s13; simp only [Act.put]; have HV := Lib.hid (hv7.keep k13 (by have := HL7.out; simp; omega)); have HU := Lib.hid h13; have K13 := Lib.hid ((K12.out.alloc (.cells (fndV fnd0) 28)).trans k13 (by intro x hx; right; have := K12.out.size; simp at hx; omega)); have HV13 := Lib.hid (show w12.heap.size < w13.heap.size from h13.lt); clear h13 hv7 h7 k13 s13)
    | (refine ld_fnd _ HV.out HSL.out rfl rfl rfl ?_; simp only [Act.put]; have h9 : FAt (w13.alloc (.cells (fndV fnd0) 28)) w13.heap.size 28 [] fnd0 := heap_alloc_new w13 _; have hv9 : FAt (w13.alloc (.cells (fndV fnd0) 28)) w2.heap.size 28 [] S := heap_alloc_held HV.out _; have hu9 : FAt (w13.alloc (.cells (fndV fnd0) 28)) w12.heap.size 28 [] S3 := heap_alloc_held HU.out _)
    | (refine st_fnd _ _ h9 HL0.out HSL.out rfl rfl rfl rfl ?_; intro w15 h15 k15 s15; simp only [Act.put]; have HV15 := Lib.hid (hv9.keep k15 (by have := HL7.out; have := HV13.out; simp; omega)); have HU15 := Lib.hid (hu9.keep k15 (by have := HV13.out; simp; omega)); have HX15 := Lib.hid h15; have K15 := Lib.hid ((K13.out.alloc (.cells (fndV fnd0) 28)).trans k15 (by intro x hx; right; have := K13.out.size; simp at hx; omega)); clear h15 hv9 hu9 h9 k15 s15))
  have HG02 := Lib.hid (show w2.heap.size < w13.heap.size by have := HL7.out; have := HV13.out; omega)
  have HG12 := Lib.hid (show w12.heap.size < w13.heap.size from HV13.out)
  have HGW := Lib.hid (show w5.heap.size ≤ w13.heap.size from K13.out.size)
  generalize w13.heap.size = g2 at *
  generalize w12.heap.size = g1 at *
  generalize w2.heap.size = g0 at *
  have d3 : w15.cell? ⟨g0, 46, none⟩ = some (.int .i64 S.com) := HV15.out.com HSL.out
  have d4' : w15.cell? ⟨g0, 47, none⟩ = some (.int .i64 (S.free : Int)) := HV15.out.free HSL.out
  have e0 : w15.cell? ⟨g2, 0, none⟩ = some (.bool S.has) := HX15.out.has
  have e1 : w15.cell? ⟨g2, 1, none⟩ = some (.int .i64 S.seq) := HX15.out.seq
  have e3 : w15.cell? ⟨g2, 46, none⟩ = some (.int .i64 S.com) := HX15.out.com HSL.out
  have e4 : w15.cell? ⟨g2, 47, none⟩ = some (.int .i64 (S.free : Int)) := HX15.out.free HSL.out
  have f0 := HX15.out.frozen 0
  have f1 := HX15.out.frozen 1
  have f3 := HX15.out.frozen 46
  have f4 := HX15.out.frozen 47
  have hne1 : g2 ≠ g0 := by have := HG02.out; omega
  have hne2 : g0 ≠ g2 := by have := HG02.out; omega
  have hw3 : IntKind.i64.wrap (S.com + 1) = S.com + 1 := IntWalk.i64_in _ (by omega)
  have hRN9 : (R : Int) ≤ 9 := by have := HR9.out; omega
  have hw4 : IntKind.i64.wrap ((S.free : Int) + (R : Int)) = (S.free : Int) + (R : Int) := IntWalk.i64_in _ (by omega)
  have hw5 : IntKind.i64.wrap ((S.free : Int) + (R : Int) + 1) = (S.free : Int) + (R : Int) + 1 := IntWalk.i64_in _ (by omega)
  go_cut [] from 63 to 76 (fun wx => FAt wx g2 28 [] (⟨true, S.seq + 1 + A, S.live, S.com + 1, S.free + R + 1⟩ : Fnd) ∧ FAt wx g1 28 [] S3 ∧ Keeps [] w5 wx)
  case first =>
    go_region_held3 (fun wz => wz.cell? ⟨g0, 46, none⟩ = some (.int .i64 S.com) ∧ wz.cell? ⟨g0, 47, none⟩ = some (.int .i64 (S.free : Int))) (first | exact ⟨d3, d4'⟩ | go_keep) (first | fail)
    all_goals
      go_wp2_with fail
      go_meet
      refine ⟨?_, HU15.out.keep (F := [g2]) (((((Keeps.refl _ _).setCell (p := ⟨g2, 0, none⟩) (.inl (by simp)) _).setCell (p := ⟨g2, 1, none⟩) (.inl (by simp)) _).setCell (p := ⟨g2, 46, none⟩) (.inl (by simp)) _).setCell (p := ⟨g2, 47, none⟩) (.inl (by simp)) _).drew (by have := HG12.out; simp; omega), ((((K15.out.setCell (p := ⟨g2, 0, none⟩) (.inr HGW.out) _).setCell (p := ⟨g2, 1, none⟩) (.inr HGW.out) _).setCell (p := ⟨g2, 46, none⟩) (.inr HGW.out) _).setCell (p := ⟨g2, 47, none⟩) (.inr HGW.out) _).drew⟩
      have h := (((HX15.out.setHas true).setSeq (S.seq + 1 + A)).setCom HSL.out (S.com + 1)).setFree HSL.out (S.free + R + 1)
      rw [show ((S.free + R + 1 : Nat) : Int) = (S.free : Int) + (R : Int) + 1 by omega] at h
      exact h.keep ((Keeps.refl [] _).drew) (by simp)
  case rest =>
  obtain ⟨hX, hU, kX⟩ := hcut
  generalize wc = w16 at *
  have HU16 := Lib.hid hU
  have HX16 := Lib.hid hX
  have KX := Lib.hid kX
  clear hX hU kX d3 d4' e0 e1 e3 e4 f0 f1 f3 f4 hw3 hw4 hw5 hne1 hne2 hRN9
  have HRB := Lib.hid (show RecsAt w16 ar R rr from (HRR.out.keep0 (K5.out.trans0 KX.out)))
  have HNB := Lib.hid (show ∀ b o s, ar = some ⟨b, o, s⟩ → b ∉ [g2] by
    intro b o s e hb
    have h1 := recs_lt (HRR.out.keep0 K5.out) (by have := HN14.out; omega) b o s e
    have h2 := HGW.out
    rw [List.mem_singleton] at hb
    omega)
  go_wp2_with fail
  go_loopw [14] (fun vi wr => ∃ (i : Nat), i ≤ R ∧ vi = .int .i64 i ∧ FAt wr g2 28 [] ⟨true, S.seq + 1 + A, liveRecs S.live (rr.take i), S.com + 1, S.free + R + 1⟩ ∧ Keeps [g2] w16 wr) (fun vi _ => R - (intOf vi).toNat)
  case atStart => exact ⟨0, Nat.zero_le _, rfl, HX16.out, Keeps.refl _ _⟩
  case round =>
    obtain ⟨i, hi, rfl, hfi, hkk⟩ := hrel
    have HKK := Lib.hid hkk
    have HFI := Lib.hid hfi
    clear hkk hfi
    by_cases hlt : i < R
    · obtain ⟨r, hrd⟩ : ∃ r, r = rr.getD i [] := ⟨_, rfl⟩
      have hmem : r ∈ rr := by rw [hrd]; exact getD_mem (by rw [HLEN.out]; exact hlt)
      have hr13 : r.length = 13 := H13.out _ hmem
      obtain ⟨⟨b, o, s⟩, rfl⟩ : ∃ ad, ar = some ad := by
        rcases ar with _ | ad
        · have h1 := HRB.out.2.2.2.1 rfl
          have h2 := flat13 H13.out
          rw [h1, HLEN.out] at h2
          simp at h2 <;> omega
        · exact ⟨ad, rfl⟩
      obtain ⟨rfl, hrg⟩ := (HRB.out.keep HKK.out HNB.out).range hlt
      rw [← hrd] at hrg
      have e13 : o + i * 13 = o + 13 * i := by omega
      rw [← e13] at hrg
      have hkr := (HKINDS.out r hmem).2
      obtain ⟨k, hkd⟩ := Int.eq_ofNat_of_zero_le hkr.1
      have hk4 : k < 4 := by omega
      have hst : liveRecs S.live (rr.take (i + 1)) = liveSet (liveRecs S.live (rr.take i)) k (r.drop 2) := by rw [take_snoc (by rw [HLEN.out]; exact hlt), ← hrd, liveRecs_snoc, hkd]; simp
      have hll : (liveRecs S.live (rr.take i)).length = 44 := liveRecs_len HSL.out (fun t ht => HKINDS.out t (List.mem_of_mem_take ht))
      have HST := Lib.hid hst
      have HRD := Lib.hid hrd
      have HR13 := Lib.hid hr13
      have HKD := Lib.hid hkd
      have HLL := Lib.hid hll
      have hlti : (i : Int) < (R : Int) := by omega
      have hi9 : i < 9 := by have := HR9.out; omega
      clear hrd hr13 hkd hst e13 hkr hmem hll
      go_upto_region 17 with fail
      have hk4i : (k : Int) < 4 := by omega
      refine wp_region_held_drew (S := fun wz => wz.rangeAt b (o + i * 13) (r.map (.int .i64))) (by kernel_rfl) hrg (fun hHeld => ?_)
      refine wpAnyH_take (i := 0) (oi := ⟨some 83, _, _, _, _, _⟩) (v := .slice (some ⟨b, o, none⟩) R cr) rfl (by kernel_rfl) (by kernel_rfl) (by kernel_rfl) (fun _ _ _ h => h) (Or.inl ⟨by rfl, fun wz hz => by go_simp⟩) hHeld ?_
      simp only [Act.put, List.setIfInBounds_toArray, List.set_cons_zero, List.set_cons_succ]
      refine wpAnyH_take (i := 1) (oi := ⟨some 84, _, _, _, _, _⟩) (v := .int .i64 (i : Int)) rfl (by kernel_rfl) (by kernel_rfl) (by kernel_rfl) (fun _ _ _ h => h) (Or.inl ⟨by rfl, fun wz hz => by go_simp⟩) hHeld ?_
      simp only [Act.put, List.setIfInBounds_toArray, List.set_cons_zero, List.set_cons_succ]
      refine wpAnyH_take (i := 2) (oi := ⟨some 85, _, _, _, _, _⟩) (v := .pointer (some ⟨b, o + i * 13, none⟩)) rfl (by kernel_rfl) (by kernel_rfl) (by kernel_rfl) (fun _ _ _ h => h) (Or.inl ⟨by rfl, fun wz hz => by go_simp⟩) hHeld ?_
      simp only [Act.put, List.setIfInBounds_toArray, List.set_cons_zero, List.set_cons_succ]
      refine wpAnyH_take (i := 3) (oi := ⟨some 86, _, _, _, _, _⟩) (v := .pointer (some ⟨b, o + i * 13, none⟩)) rfl (by kernel_rfl) (by kernel_rfl) (by kernel_rfl) (fun _ _ _ h => h) (Or.inl ⟨by rfl, fun wz hz => by go_simp⟩) hHeld ?_
      simp only [Act.put, List.setIfInBounds_toArray, List.set_cons_zero, List.set_cons_succ]
      refine wpAnyH_take (i := 4) (oi := ⟨some 87, _, _, _, _, _⟩) (v := .int .i64 (k : Int)) rfl (by kernel_rfl) (by kernel_rfl) (by kernel_rfl) (fun _ _ _ h => h) (Or.inl ⟨by rfl, fun wz hz => by have hs := kind_cell hz HR13.out HKD.out; go_simp⟩) hHeld ?_
      simp only [Act.put, List.setIfInBounds_toArray, List.set_cons_zero, List.set_cons_succ]
      refine wpAnyH_take (i := 5) (oi := ⟨some 88, _, _, _, _, _⟩) (v := .slice (some ⟨b, o, none⟩) R cr) rfl (by kernel_rfl) (by kernel_rfl) (by kernel_rfl) (fun _ _ _ h => h) (Or.inl ⟨by rfl, fun wz hz => by go_simp⟩) hHeld ?_
      simp only [Act.put, List.setIfInBounds_toArray, List.set_cons_zero, List.set_cons_succ]
      refine wpAnyH_take (i := 6) (oi := ⟨some 89, _, _, _, _, _⟩) (v := .int .i64 (i : Int)) rfl (by kernel_rfl) (by kernel_rfl) (by kernel_rfl) (fun _ _ _ h => h) (Or.inl ⟨by rfl, fun wz hz => by go_simp⟩) hHeld ?_
      simp only [Act.put, List.setIfInBounds_toArray, List.set_cons_zero, List.set_cons_succ]
      refine wpAnyH_take (i := 7) (oi := ⟨some 90, _, _, _, _, _⟩) (v := .pointer (some ⟨b, o + i * 13, none⟩)) rfl (by kernel_rfl) (by kernel_rfl) (by kernel_rfl) (fun _ _ _ h => h) (Or.inl ⟨by rfl, fun wz hz => by go_simp⟩) hHeld ?_
      simp only [Act.put, List.setIfInBounds_toArray, List.set_cons_zero, List.set_cons_succ]
      refine wpAnyH_take (i := 8) (oi := ⟨some 91, _, _, _, _, _⟩) (v := .pointer (some ⟨b, o + i * 13 + 2, none⟩)) rfl (by kernel_rfl) (by kernel_rfl) (by kernel_rfl) (fun _ _ _ h => h) (Or.inl ⟨by rfl, fun wz hz => by go_simp⟩) hHeld ?_
      simp only [Act.put, List.setIfInBounds_toArray, List.set_cons_zero, List.set_cons_succ]
      refine wpAnyH_take (i := 9) (oi := ⟨some 92, _, _, _, _, _⟩) rfl (by kernel_rfl) (by kernel_rfl) (by kernel_rfl) (fun _ _ _ h => h) (yieldsIf_load_mid (by rfl) _ _ rfl _ _ rfl ((r.drop 2).map (.int .i64)) _ (fun _ h => range_pay h) Tryd.underlying25 rfl (by rw [List.length_map, pay_list HR13.out]; exact infoPay)) hHeld ?_
      simp only [Act.put, List.setIfInBounds_toArray, List.set_cons_zero, List.set_cons_succ]
      refine wpAnyH_take (i := 10) (oi := ⟨some 93, _, _, _, _, _⟩) (v := .pointer (some ⟨g2, 2, none⟩)) rfl (by kernel_rfl) (by kernel_rfl) (by kernel_rfl) (fun _ _ _ h => h) (Or.inl ⟨by rfl, fun wz hz => by go_simp⟩) hHeld ?_
      simp only [Act.put, List.setIfInBounds_toArray, List.set_cons_zero, List.set_cons_succ]
      refine wpAnyH_take (i := 11) (oi := ⟨some 94, _, _, _, _, _⟩) (v := .pointer (some ⟨g2, 2 + k * 11, none⟩)) rfl (by kernel_rfl) (by kernel_rfl) (by kernel_rfl) (fun _ _ _ h => h) (Or.inl ⟨by rfl, fun wz hz => by go_simp⟩) hHeld ?_
      simp only [Act.put, List.setIfInBounds_toArray, List.set_cons_zero, List.set_cons_succ]
      refine wpAnyH_ready (rs := [12]) (by kernel_rfl) (by simp) ?_
      refine AllReadyH.cons (o := ⟨none, _, _, _, _, _⟩) rfl (fun K hK => ?_) AllReadyH.nil
      rw [if_pos (by rfl)]
      have hF6 : FAt wr.drew g2 28 [] ⟨true, S.seq + 1 + A, liveRecs S.live (rr.take i), S.com + 1, S.free + R + 1⟩ := HFI.out
      refine wp_store_mid _ _ _ rfl g2 (2 + k * 11) (ints (r.drop 2)) rfl rfl (hF6.there HLL.out (by rw [ints_size, pay_list HR13.out]; simp; omega)) (by rw [ints_size, pay_list HR13.out]; exact infoPay) (ints_one _) ?_
      have x1 : Keeps [g2] wr (wr.drew.setCells g2 (2 + k * 11) (ints (r.drop 2)).toList) := Keeps.setCellsR (Keeps.drew (Keeps.refl _ _)) (.inl (by simp)) _ _
      have a1 : FAt (wr.drew.setCells g2 (2 + k * 11) (ints (r.drop 2)).toList) g2 28 [] ⟨true, S.seq + 1 + A, liveRecs S.live (rr.take (i + 1)), S.com + 1, S.free + R + 1⟩ := by
        have h := hF6.setLive HLL.out hk4 (pay_list HR13.out)
        rw [HST.out]
        rw [show 2 + k * 11 = ([] : List Value).length + 2 + 11 * k by simp; omega]
        exact h
      have hrg2 : (wr.drew.setCells g2 (2 + k * 11) (ints (r.drop 2)).toList).rangeAt b (o + i * 13) (r.map (.int .i64)) := by
        have h := ((HRB.out.keep (HKK.out.trans x1 (by simp)) HNB.out).range hlt).2
        rw [← HRD.out, show o + 13 * i = o + i * 13 by omega] at h
        exact h
      refine hK.out _ _ hrg2 (fun hHeld => ?_)
      have K6 := Lib.hid (HKK.out.trans x1 (by simp))
      have A1 := Lib.hid a1
      clear hK K x1 a1 hF6 hrg hrg2
      generalize wr.drew.setCells g2 (2 + k * 11) (ints (r.drop 2)).toList = w6 at *
      refine wpAnyH_done (by kernel_rfl) ?_ _
      clear hHeld
      go_wp2_with fail
      go_roundw
      case rel => exact ⟨i + 1, by omega, by go_num, A1.out, K6.out⟩
      case measure => simp [intOf]; omega
    · have hin : i = R := by omega
      subst hin
      have hE : FAt wr g2 28 [] S3 := by
        have h := HFI.out
        rw [List.take_of_length_le (by rw [HLEN.out]; exact Nat.le_refl _)] at h
        rw [HS3.out]
        exact h
      have HE := Lib.hid hE
      have HU3 := Lib.hid (HU16.out.keep HKK.out (by have := HG12.out; simp; omega))
      clear hE
      go_wp2_with (first
        | (refine ld_fnd _ HU3.out HSL3.out rfl rfl rfl ?_; simp only [Act.put])
        | (refine ld_fnd _ HE.out HSL3.out rfl rfl rfl ?_; simp only [Act.put])
        | (refine eq_fnd _ _ _ HSL3.out rfl rfl rfl rfl ?_; simp only [Act.put]))
      go_ret
      exact ⟨rfl, (K5.out.trans0 KX.out).trans HKK.out (by intro x hx; right; have h1 := (K5.out).size; have h2 := HGW.out; simp at hx; omega)⟩

set_option maxHeartbeats 4000000 in
theorem gcounts_te (a : Option Addr) (n c : Nat) (xs : List Int) (more : Int) (ar : Option Addr) (nr cr : Nat) (rr0 : List (List Int)) (w : World) (ht : Turns w) (hi : IntsAt w a n xs) (hn : n ≤ c) (hc : c ≤ maxLen) (h64 : ∀ x ∈ xs, I64 x)
    (hrr0 : RecsAt w ar nr rr0) (hnr : nr ≤ cr) (hcr : cr ≤ maxLen) (hr640 : ∀ r ∈ rr0, ∀ x ∈ r, I64 x) (hz : ar = none → nr = 0 ∧ cr = 0) (hb : (scanR (xs.take (fewN n))).has = true) (hg : ¬ (gputR (xs.take (fewN n)) ((scanR (xs.take (fewN n))).seq + 1 + amongI more 9) false (rr0.take (if nr ≤ 9 then nr else 9))).1 = 0) :
    Calls Tryd.prog 5 #[.slice a n c, .int .i64 more, .slice ar nr cr] w fun e w' => e = .returned (.bool true) ∧ Keeps [] w w' := by
  have hfn := fewN_le n
  have hit := hi.take (k := fewN n) hfn.1
  have h64t := take_64F (k := fewN n) h64
  obtain ⟨ys, hys⟩ : ∃ ys, ys = xs.take (fewN n) := ⟨_, rfl⟩
  rw [← hys] at hit h64t hb hg
  obtain ⟨M, hM⟩ : ∃ M, M = fewN n := ⟨_, rfl⟩
  have hMb : M ≤ n ∧ M ≤ 480 := by rw [hM]; exact hfn
  rw [← hM] at hit
  obtain ⟨R, hR⟩ : ∃ R, R = if nr ≤ 9 then nr else 9 := ⟨_, rfl⟩
  have hR9 : R ≤ nr ∧ R ≤ 9 := by rw [hR]; split <;> omega
  obtain ⟨rr, hrrr⟩ : ∃ rr, rr = rr0.take R := ⟨_, rfl⟩
  have hrr := recs_front hrr0 hR9.1
  have hr64 : ∀ r ∈ rr0.take R, ∀ x ∈ r, I64 x := fun r hr => hr640 r (List.mem_of_mem_take hr)
  rw [← hrrr] at hrr hr64
  rw [← hR, ← hrrr] at hg
  obtain ⟨S, hS⟩ : ∃ S, S = scanR ys := ⟨_, rfl⟩
  have hyl : ys.length = M := hit.1.symm
  have hfits : Fits S (ys.length / 16) := by rw [hS]; exact fits_scan ys
  rw [hyl] at hfits
  rw [← hS] at hb hg
  have hSD : S.free ≤ 30 := by have := hfits.free; omega
  have hs0 : 0 ≤ S.seq := hfits.seq.1
  have hs1 : S.seq ≤ 4294967295 := hfits.seq.2
  have hc0 : 0 ≤ S.com ∧ S.com ≤ 30 := by have := hfits.com; omega
  have hSL : S.live.length = 44 := hfits.live
  obtain ⟨A, hA⟩ : ∃ A, A = amongI more 9 := ⟨_, rfl⟩
  have hA0 : 0 ≤ A ∧ A < 9 := by rw [hA]; exact amongI_lt more 9 (by omega) (by omega)
  rw [← hA] at hg
  obtain ⟨gc, gl, ga, hG⟩ : ∃ gc gl ga, (gc, gl, ga) = gputR ys (S.seq + 1 + A) false rr := ⟨_, _, _, rfl⟩
  rw [← hG] at hg
  have hg0 : ¬ gc = 0 := hg
  have h13 : ∀ r ∈ rr, r.length = 13 := hrr.2.1
  have hlen : rr.length = R := hrr.1.symm
  obtain ⟨rfl, rfl⟩ := gput_err hG hg0
  have hg0b : (gc == 0) = false := by simp [hg0]
  have HT := Lib.hid ht
  have HI := Lib.hid hit
  have H64 := Lib.hid h64t
  have HMB := Lib.hid hMb
  have HM := Lib.hid hM
  have HN := Lib.hid hn
  have HC := Lib.hid hc
  have HS := Lib.hid hS
  have HSL := Lib.hid hSL
  have HG := Lib.hid hG
  have HA := Lib.hid hA
  have HB := Lib.hid hb
  have HR := Lib.hid hR
  have HR9 := Lib.hid hR9
  have HRR := Lib.hid hrr
  have HZ := Lib.hid hz
  have HYL := Lib.hid hyl
  have HQ := Lib.hid (show I64 (S.seq + 1 + A) by unfold I64; omega)
  have HR64 := Lib.hid (show ∀ r ∈ rr, ∀ x ∈ r, I64 x from hr64)
  have HL0 := Lib.hid (show fnd0.live.length = 44 by decide)
  have hcr' := hcr
  unfold maxLen at hcr'
  have hm0 : (0 : Int) ≤ (M : Int) := by omega
  clear ht hi hit h64 h64t hys hfn hMb hM hn hc hS hSL hG hA hb hR hR9 hrr hrr0 hz hyl hfits hrrr hr64 hr640 hcr h13 hlen hg
  go_enter Tryd.func5, Tryd.ntmps5
  go_upto_region 3 with (go_at_call 17; refine (works_any _ HT.out).mono ?_; rintro e w1 ⟨rfl, k1⟩; have K1 := Lib.hid k1; clear k1)
  go_cut [0, 2] from 16 to 23 (fun s0 s2 wx => s0 = .slice a M c ∧ s2 = .slice ar R cr ∧ Keeps [] w wx)
  case first =>
    rcases ar with _ | ad
    · obtain ⟨rfl, rfl⟩ := HZ.out rfl
      have E := Lib.hid (show R = 0 by have := HR9.out; omega)
      go_region_with (go_at_call 9; refine (few_any _ _ _ _ HN.out HC.out).mono ?_; rw [← HM.out]; rintro e w' ⟨rfl, rfl⟩)
      all_goals (try (exfalso; omega))
      all_goals (go_wp2_with fail; go_meet; exact ⟨rfl, (by rw [E.out]), K1.out.drewN 1⟩)
    rcases Nat.lt_trichotomy nr 9 with h | h | h
    · have E := Lib.hid (show R = nr by rw [HR.out, if_pos (by omega)])
      go_region_with (go_at_call 9; refine (few_any _ _ _ _ HN.out HC.out).mono ?_; rw [← HM.out]; rintro e w' ⟨rfl, rfl⟩)
      all_goals (try (exfalso; omega))
      all_goals (go_wp2_with fail; go_meet; exact ⟨rfl, (by rw [E.out]), K1.out.drewN 1⟩)
    · subst h
      have E := Lib.hid (show R = 9 by rw [HR.out, if_pos (by omega)])
      go_region_with (go_at_call 9; refine (few_any _ _ _ _ HN.out HC.out).mono ?_; rw [← HM.out]; rintro e w' ⟨rfl, rfl⟩)
      all_goals (try (exfalso; omega))
      all_goals (go_wp2_with fail; go_meet; exact ⟨rfl, (by rw [E.out]), K1.out.drewN 1⟩)
    · have E := Lib.hid (show R = 9 by rw [HR.out, if_neg (by omega)])
      go_region_with (go_at_call 9; refine (few_any _ _ _ _ HN.out HC.out).mono ?_; rw [← HM.out]; rintro e w' ⟨rfl, rfl⟩)
      all_goals (try (exfalso; omega))
      all_goals (go_wp2_with fail; go_meet; exact ⟨rfl, (by rw [E.out]), K1.out.drewN 1⟩)
  case rest =>
  obtain ⟨rfl, rfl, k3⟩ := hcut
  have K3 := Lib.hid k3
  clear k3
  go_upto_region 5 with (first
    | (go_at_call 12; refine (scan_any _ M c ys _ (HT.out.keep K3.out) (HI.out.keep0 K3.out) (by have := HMB.out; have := HN.out; omega) HC.out H64.out).mono ?_; rw [← HS.out]; rintro e w2 ⟨rfl, k2⟩; have h7 : FAt (w2.alloc (.cells (fndV fnd0) 28)) w2.heap.size 28 [] fnd0 := heap_alloc_new w2 _; have K2 := Lib.hid (K3.out.trans0 k2); clear k2)
    | (simp only [zeros48])
    | (refine st_fnd _ _ h7 HL0.out HSL.out rfl rfl rfl rfl ?_; intro w8 h8 k8 s8; simp only [Act.put]; have d0 : w8.cell? ⟨w2.heap.size, 0, none⟩ = some (.bool true) := (by rw [← HB.out]; exact h8.has); have d1 : w8.cell? ⟨w2.heap.size, 1, none⟩ = some (.int .i64 S.seq) := h8.seq; have d4 : w8.cell? ⟨w2.heap.size, 47, none⟩ = some (.int .i64 (S.free : Int)) := h8.free HSL.out; have HF := Lib.hid h8; have K8 := Lib.hid ((K2.out.alloc (.cells (fndV fnd0) 28)).trans k8 (by intro x hx; right; have := K2.out.size; simp at hx; omega)); clear h8 h7 k8)
    | (go_at_call 21; refine (all_any more _).mono ?_; rw [kinds_all]; rintro e w9 ⟨a2, c2, rfl, r2, l2, m2, k9⟩; have R2 := Lib.hid r2; have HF9 := Lib.hid (HF.out.keep k9 (by simp)); have p0 : w9.cell? ⟨w2.heap.size, 0, none⟩ = some (.bool true) := (by rw [← HB.out]; exact HF9.out.has); have p1 : w9.cell? ⟨w2.heap.size, 1, none⟩ = some (.int .i64 S.seq) := HF9.out.seq; have p4 : w9.cell? ⟨w2.heap.size, 47, none⟩ = some (.int .i64 (S.free : Int)) := HF9.out.free HSL.out; have K9 := Lib.hid (K8.out.trans0 k9); clear r2 k9))
  have hw1 : IntKind.i64.wrap (S.seq + 1) = S.seq + 1 := IntWalk.i64_in _ (by omega)
  have hw2 : IntKind.i64.wrap (S.seq + 1 + A) = S.seq + 1 + A := IntWalk.i64_in _ (by omega)
  go_cut [8] from 26 to 31 (fun s8 wx => s8 = .int .i64 (S.seq + 1 + A) ∧ Keeps [] w8 wx)
  case first =>
    go_quiet ((go_at_call 20; refine Calls.quiet_of_same (flipF (among_at more A _ HA.out))))
    go_wp2_with fail
    go_meet
    exact ⟨rfl, (Keeps.refl _ _).drewN _⟩
  case rest =>
  obtain ⟨rfl, k5⟩ := hcut
  generalize wc = w5 at *
  have K5 := Lib.hid (K8.out.trans0 k5)
  have HF5 := Lib.hid (HF.out.keep k5 (by simp))
  clear k5 d0 d1 d4 hw1 hw2
  have d0 : w5.cell? ⟨w2.heap.size, 0, none⟩ = some (.bool true) := (by rw [← HB.out]; exact HF5.out.has); have d1 : w5.cell? ⟨w2.heap.size, 1, none⟩ = some (.int .i64 S.seq) := HF5.out.seq; have d4 : w5.cell? ⟨w2.heap.size, 47, none⟩ = some (.int .i64 (S.free : Int)) := HF5.out.free HSL.out
  go_upto_region 9 with (first
    | (go_at_call 21; refine (all_any more _).mono ?_; rw [kinds_all]; rintro e w9 ⟨a2, c2, rfl, r2, l2, m2, k9⟩; have R2 := Lib.hid r2; have HF9 := Lib.hid (HF5.out.keep k9 (by simp)); have p0 : w9.cell? ⟨w2.heap.size, 0, none⟩ = some (.bool true) := (by rw [← HB.out]; exact HF9.out.has); have p1 : w9.cell? ⟨w2.heap.size, 1, none⟩ = some (.int .i64 S.seq) := HF9.out.seq; have p4 : w9.cell? ⟨w2.heap.size, 47, none⟩ = some (.int .i64 (S.free : Int)) := HF9.out.free HSL.out; have K9 := Lib.hid (K5.out.trans0 k9); clear r2 k9)
    | (go_at_call 18; refine (put_any _ M c ys (S.seq + 1 + A) false ar R cr rr _ (HT.out.keep K5.out) (HI.out.keep0 K5.out) (by have := HMB.out; have := HN.out; omega) HC.out (HRR.out.keep0 K5.out) (by have := HR9.out; omega) HQ.out HR64.out).mono ?_; rw [← HG.out]; rintro e w10 ⟨A3, c3, rfl, i3, k3, l3, m3⟩; have K10 := Lib.hid k3;  have L3 := Lib.hid (And.intro l3 m3); have HF10 := Lib.hid (HF5.out.keep k3 (by simp)); clear i3 k3 l3 m3))
  go_wp2_with fail
  go_ret
  exact ⟨rfl, K5.out.trans0 K10.out⟩

set_option maxHeartbeats 4000000 in
theorem gcounts_fo (a : Option Addr) (n c : Nat) (xs : List Int) (more : Int) (ar : Option Addr) (nr cr : Nat) (rr0 : List (List Int)) (w : World) (ht : Turns w) (hi : IntsAt w a n xs) (hn : n ≤ c) (hc : c ≤ maxLen) (h64 : ∀ x ∈ xs, I64 x)
    (hrr0 : RecsAt w ar nr rr0) (hnr : nr ≤ cr) (hcr : cr ≤ maxLen) (hr640 : ∀ r ∈ rr0, ∀ x ∈ r, I64 x) (hz : ar = none → nr = 0 ∧ cr = 0) (hb : (scanR (xs.take (fewN n))).has = false) (hg : (gputR (xs.take (fewN n)) ((scanR (xs.take (fewN n))).seq + 1 + amongI more 9) true (allL more)).1 = 0) :
    Calls Tryd.prog 5 #[.slice a n c, .int .i64 more, .slice ar nr cr] w fun e w' => e = .returned (.bool true) ∧ Keeps [] w w' := by
  have hfn := fewN_le n
  have hit := hi.take (k := fewN n) hfn.1
  have h64t := take_64F (k := fewN n) h64
  obtain ⟨ys, hys⟩ : ∃ ys, ys = xs.take (fewN n) := ⟨_, rfl⟩
  rw [← hys] at hit h64t hb hg
  obtain ⟨M, hM⟩ : ∃ M, M = fewN n := ⟨_, rfl⟩
  have hMb : M ≤ n ∧ M ≤ 480 := by rw [hM]; exact hfn
  rw [← hM] at hit
  obtain ⟨R, hR⟩ : ∃ R, R = if nr ≤ 9 then nr else 9 := ⟨_, rfl⟩
  have hR9 : R ≤ nr ∧ R ≤ 9 := by rw [hR]; split <;> omega
  obtain ⟨rr, hrrr⟩ : ∃ rr, rr = rr0.take R := ⟨_, rfl⟩
  have hrr := recs_front hrr0 hR9.1
  have hr64 : ∀ r ∈ rr0.take R, ∀ x ∈ r, I64 x := fun r hr => hr640 r (List.mem_of_mem_take hr)
  rw [← hrrr] at hrr hr64
  skip
  obtain ⟨S, hS⟩ : ∃ S, S = scanR ys := ⟨_, rfl⟩
  have hyl : ys.length = M := hit.1.symm
  have hfits : Fits S (ys.length / 16) := by rw [hS]; exact fits_scan ys
  rw [hyl] at hfits
  rw [← hS] at hb hg
  have hSD : S.free ≤ 30 := by have := hfits.free; omega
  have hs0 : 0 ≤ S.seq := hfits.seq.1
  have hs1 : S.seq ≤ 4294967295 := hfits.seq.2
  have hc0 : 0 ≤ S.com ∧ S.com ≤ 30 := by have := hfits.com; omega
  have hSL : S.live.length = 44 := hfits.live
  obtain ⟨A, hA⟩ : ∃ A, A = amongI more 9 := ⟨_, rfl⟩
  have hA0 : 0 ≤ A ∧ A < 9 := by rw [hA]; exact amongI_lt more 9 (by omega) (by omega)
  rw [← hA] at hg
  obtain ⟨gc, gl, ga, hG⟩ : ∃ gc gl ga, (gc, gl, ga) = gputR ys (S.seq + 1 + A) true (allL more) := ⟨_, _, _, rfl⟩
  rw [← hG] at hg
  have hg0 : gc = 0 := hg
  have h13 : ∀ r ∈ (allL more), r.length = 13 := allL_len more
  have hlen : (allL more).length = 4 := by simp [allL]
  obtain ⟨hn14, hok, hroom, hglv, hgav⟩ := gput_zero hG hg0
  rw [← hS, hlen, hyl] at hroom
  rw [hlen] at hn14
  have hglL : gl.length = 16 * (4 + 1) := by rw [hglv, putSlots_flat h13, hlen]
  obtain ⟨W, hW⟩ : ∃ W, W = gl.length := ⟨_, rfl⟩
  obtain ⟨AT, hAT⟩ : ∃ AT, AT = 16 * S.free := ⟨_, rfl⟩
  have hgaT : ga = (AT : Int) := by rw [hgav, ← hS, hAT]; omega
  have hq2 := puts_seq h13 (by omega) hok
  have hws : ∀ x ∈ gl, 0 ≤ x ∧ x ≤ 65535 := by rw [hglv]; exact puts_words (by omega) hq2 hok
  have hbl : ∀ j, j < W → ys.getD (AT + j) 0 = 65535 := fun j hj => free_words ys (by rw [← hS, hAT]; omega) (by rw [hyl]; omega)
  obtain rfl := hg0
  have HGA := Lib.hid hgaT
  have HWv := Lib.hid (show W = 16 * (4 + 1) by omega)
  have HW := Lib.hid hW
  have HWS := Lib.hid hws
  have HBL := Lib.hid hbl
  have HAT := Lib.hid hAT
  have hATM : AT + W ≤ M := by omega
  have hW1 : 32 ≤ W ∧ W ≤ 80 := by omega
  have HQ2 := Lib.hid hq2
  have HOK := Lib.hid hok
  have HN14 := Lib.hid hn14
  have HLEN := Lib.hid hlen
  have H13 := Lib.hid h13
  have HROOM := Lib.hid hroom
  have HGLV := Lib.hid hglv
  have hkinds : ∀ r ∈ (allL more), r.length = 13 ∧ 0 ≤ r.getD 0 0 ∧ r.getD 0 0 < 4 := fun r hr => by
    have h1 := puts_mem hok r hr
    have h2 := (right_out h1.1).1.1
    rw [setSeq_kind (h13 r hr)] at h2
    exact ⟨h13 r hr, h2, h1.2⟩
  obtain ⟨S3, hS3⟩ : ∃ S3, S3 = (⟨true, S.seq + 1 + A, liveRecs S.live (allL more), S.com + 1, S.free + 4 + 1⟩ : Fnd) := ⟨_, rfl⟩
  have hsc : scanR (withB ys AT gl) = S3 := by
    have h := scan_put (xs := ys) (q := S.seq + 1 + A) (first := true) (rs := (allL more)) h13 (by omega) hq2 hok (by rw [← hS, if_neg (by rw [hb]; decide)]; exact ⟨rfl, hlen⟩) (by rw [← hS, hlen, hyl]; exact hroom)
    rw [← hS, ← hglv, ← hAT, live_recs _ h13 hok, hlen] at h
    rw [h, hS3]
  have HSC := Lib.hid hsc
  have HS3 := Lib.hid hS3
  have HSL3 := Lib.hid (show S3.live.length = 44 by rw [hS3]; exact liveRecs_len hSL hkinds)
  have HKINDS := Lib.hid hkinds
  clear hkinds hsc hS3
  clear hroom hglv hgav hglL hW hAT hgaT hq2 hws hbl hok hn14
  have HT := Lib.hid ht
  have HI := Lib.hid hit
  have H64 := Lib.hid h64t
  have HMB := Lib.hid hMb
  have HM := Lib.hid hM
  have HN := Lib.hid hn
  have HC := Lib.hid hc
  have HS := Lib.hid hS
  have HSL := Lib.hid hSL
  have HG := Lib.hid hG
  have HA := Lib.hid hA
  have HB := Lib.hid hb
  have HR := Lib.hid hR
  have HR9 := Lib.hid hR9
  have HRR := Lib.hid hrr
  have HZ := Lib.hid hz
  have HYL := Lib.hid hyl
  have HQ := Lib.hid (show I64 (S.seq + 1 + A) by unfold I64; omega)
  have HR64 := Lib.hid (show ∀ r ∈ (allL more), ∀ x ∈ r, I64 x from allL_64 more)
  have HL0 := Lib.hid (show fnd0.live.length = 44 by decide)
  have hcr' := hcr
  unfold maxLen at hcr'
  have hm0 : (0 : Int) ≤ (M : Int) := by omega
  clear ht hi hit h64 h64t hys hfn hMb hM hn hc hS hSL hG hA hb hR hR9 hrr hrr0 hz hyl hfits hrrr hr64 hr640 hcr h13 hlen hg
  go_enter Tryd.func5, Tryd.ntmps5
  go_upto_region 3 with (go_at_call 17; refine (works_any _ HT.out).mono ?_; rintro e w1 ⟨rfl, k1⟩; have K1 := Lib.hid k1; clear k1)
  go_cut [0, 2] from 16 to 23 (fun s0 s2 wx => s0 = .slice a M c ∧ s2 = .slice ar R cr ∧ Keeps [] w wx)
  case first =>
    rcases ar with _ | ad
    · obtain ⟨rfl, rfl⟩ := HZ.out rfl
      have E := Lib.hid (show R = 0 by have := HR9.out; omega)
      go_region_with (go_at_call 9; refine (few_any _ _ _ _ HN.out HC.out).mono ?_; rw [← HM.out]; rintro e w' ⟨rfl, rfl⟩)
      all_goals (try (exfalso; omega))
      all_goals (go_wp2_with fail; go_meet; exact ⟨rfl, (by rw [E.out]), K1.out.drewN 1⟩)
    rcases Nat.lt_trichotomy nr 9 with h | h | h
    · have E := Lib.hid (show R = nr by rw [HR.out, if_pos (by omega)])
      go_region_with (go_at_call 9; refine (few_any _ _ _ _ HN.out HC.out).mono ?_; rw [← HM.out]; rintro e w' ⟨rfl, rfl⟩)
      all_goals (try (exfalso; omega))
      all_goals (go_wp2_with fail; go_meet; exact ⟨rfl, (by rw [E.out]), K1.out.drewN 1⟩)
    · subst h
      have E := Lib.hid (show R = 9 by rw [HR.out, if_pos (by omega)])
      go_region_with (go_at_call 9; refine (few_any _ _ _ _ HN.out HC.out).mono ?_; rw [← HM.out]; rintro e w' ⟨rfl, rfl⟩)
      all_goals (try (exfalso; omega))
      all_goals (go_wp2_with fail; go_meet; exact ⟨rfl, (by rw [E.out]), K1.out.drewN 1⟩)
    · have E := Lib.hid (show R = 9 by rw [HR.out, if_neg (by omega)])
      go_region_with (go_at_call 9; refine (few_any _ _ _ _ HN.out HC.out).mono ?_; rw [← HM.out]; rintro e w' ⟨rfl, rfl⟩)
      all_goals (try (exfalso; omega))
      all_goals (go_wp2_with fail; go_meet; exact ⟨rfl, (by rw [E.out]), K1.out.drewN 1⟩)
  case rest =>
  obtain ⟨rfl, rfl, k3⟩ := hcut
  have K3 := Lib.hid k3
  clear k3
  go_upto_region 5 with (first
    | (go_at_call 12; refine (scan_any _ M c ys _ (HT.out.keep K3.out) (HI.out.keep0 K3.out) (by have := HMB.out; have := HN.out; omega) HC.out H64.out).mono ?_; rw [← HS.out]; rintro e w2 ⟨rfl, k2⟩; have h7 : FAt (w2.alloc (.cells (fndV fnd0) 28)) w2.heap.size 28 [] fnd0 := heap_alloc_new w2 _; have K2 := Lib.hid (K3.out.trans0 k2); clear k2)
    | (simp only [zeros48])
    | (refine st_fnd _ _ h7 HL0.out HSL.out rfl rfl rfl rfl ?_; intro w8 h8 k8 s8; simp only [Act.put]; have d0 : w8.cell? ⟨w2.heap.size, 0, none⟩ = some (.bool false) := (by rw [← HB.out]; exact h8.has); have d1 : w8.cell? ⟨w2.heap.size, 1, none⟩ = some (.int .i64 S.seq) := h8.seq; have d4 : w8.cell? ⟨w2.heap.size, 47, none⟩ = some (.int .i64 (S.free : Int)) := h8.free HSL.out; have HF := Lib.hid h8; have K8 := Lib.hid ((K2.out.alloc (.cells (fndV fnd0) 28)).trans k8 (by intro x hx; right; have := K2.out.size; simp at hx; omega)); clear h8 h7 k8)
    | (go_at_call 21; refine (all_any more _).mono ?_; rw [kinds_all]; rintro e w9 ⟨a2, c2, rfl, r2, l2, m2, k9⟩; have R2 := Lib.hid r2; have HF9 := Lib.hid (HF.out.keep k9 (by simp)); have p0 : w9.cell? ⟨w2.heap.size, 0, none⟩ = some (.bool false) := (by rw [← HB.out]; exact HF9.out.has); have p1 : w9.cell? ⟨w2.heap.size, 1, none⟩ = some (.int .i64 S.seq) := HF9.out.seq; have p4 : w9.cell? ⟨w2.heap.size, 47, none⟩ = some (.int .i64 (S.free : Int)) := HF9.out.free HSL.out; have K9 := Lib.hid (K8.out.trans0 k9); clear r2 k9))
  have hw1 : IntKind.i64.wrap (S.seq + 1) = S.seq + 1 := IntWalk.i64_in _ (by omega)
  have hw2 : IntKind.i64.wrap (S.seq + 1 + A) = S.seq + 1 + A := IntWalk.i64_in _ (by omega)
  go_cut [8] from 26 to 31 (fun s8 wx => s8 = .int .i64 (S.seq + 1 + A) ∧ Keeps [] w8 wx)
  case first =>
    go_quiet ((go_at_call 20; refine Calls.quiet_of_same (flipF (among_at more A _ HA.out))))
    go_wp2_with fail
    go_meet
    exact ⟨rfl, (Keeps.refl _ _).drewN _⟩
  case rest =>
  obtain ⟨rfl, k5⟩ := hcut
  generalize wc = w5 at *
  have K5 := Lib.hid (K8.out.trans0 k5)
  have HF5 := Lib.hid (HF.out.keep k5 (by simp))
  clear k5 d0 d1 d4 hw1 hw2
  have d0 : w5.cell? ⟨w2.heap.size, 0, none⟩ = some (.bool false) := (by rw [← HB.out]; exact HF5.out.has); have d1 : w5.cell? ⟨w2.heap.size, 1, none⟩ = some (.int .i64 S.seq) := HF5.out.seq; have d4 : w5.cell? ⟨w2.heap.size, 47, none⟩ = some (.int .i64 (S.free : Int)) := HF5.out.free HSL.out
  go_upto_region 9 with (first
    | (go_at_call 21; refine (all_any more _).mono ?_; rw [kinds_all]; rintro e w9 ⟨a2, c2, rfl, r2, l2, m2, k9⟩; have R2 := Lib.hid r2; have HF9 := Lib.hid (HF5.out.keep k9 (by simp)); have p0 : w9.cell? ⟨w2.heap.size, 0, none⟩ = some (.bool false) := (by rw [← HB.out]; exact HF9.out.has); have p1 : w9.cell? ⟨w2.heap.size, 1, none⟩ = some (.int .i64 S.seq) := HF9.out.seq; have p4 : w9.cell? ⟨w2.heap.size, 47, none⟩ = some (.int .i64 (S.free : Int)) := HF9.out.free HSL.out; have K9 := Lib.hid (K5.out.trans0 k9); clear r2 k9)
    | (go_at_call 18; refine (put_any _ M c ys (S.seq + 1 + A) true a2 4 c2 (allL more) _ (HT.out.keep K9.out) (HI.out.keep0 K9.out) (by have := HMB.out; have := HN.out; omega) HC.out R2.out (by have := HR9.out; omega) HQ.out HR64.out).mono ?_; rw [← HG.out]; rintro e w10 ⟨A3, c3, rfl, i3, k3, l3, m3⟩; have K10 := Lib.hid k3; have I3 := Lib.hid (show IntsAt w10 A3 gl.length gl from i3); have L3 := Lib.hid (And.intro l3 m3); have HF10 := Lib.hid (HF9.out.keep k3 (by simp)); clear i3 k3 l3 m3))
  go_upto_region 13 with (first
    | (go_at_call 22; rw [HGA.out]; refine (with_any a M c ys AT A3 gl.length c3 gl w10 (HI.out.keep0 (K9.out.trans0 K10.out)) (by have := HMB.out; omega) I3.out (by rw [← HW.out, HYL.out]; omega) HWS.out (fun j hj => HBL.out j (by rw [HW.out]; exact hj))).mono ?_; rw [HYL.out]; rintro e w11 ⟨g5, c5, rfl, hA, k5, -⟩; have IW := Lib.hid (show IntsAt w11 (some ⟨g5, 0, none⟩) M (withB ys AT gl) by have h := hA.ints; rw [withB_len (by rw [← HW.out, HYL.out]; omega), HYL.out] at h; exact h); have LW := Lib.hid (show M ≤ c5 ∧ c5 ≤ maxLen by have h := hA.le; rw [withB_len (by rw [← HW.out, HYL.out]; omega), HYL.out] at h; exact ⟨h, hA.cm⟩); have K11 := Lib.hid (K10.out.trans0 k5); have HF11 := Lib.hid (HF10.out.keep k5 (by simp)); clear hA k5)
    | (go_at_call 12; refine (scan_any _ M c5 (withB ys AT gl) _ (HT.out.keep (K9.out.trans0 K11.out)) IW.out LW.out.1 LW.out.2 (with_64 H64.out HWS.out)).mono ?_; rw [HSC.out]; rintro e w12 ⟨rfl, k12⟩; have h7 : FAt (w12.alloc (.cells (fndV fnd0) 28)) w12.heap.size 28 [] fnd0 := heap_alloc_new w12 _; have hv7 : FAt (w12.alloc (.cells (fndV fnd0) 28)) w2.heap.size 28 [] S := heap_alloc_held (HF11.out.keep k12 (by simp)) _; have hl7 : w2.heap.size < w12.heap.size := (HF11.out.keep k12 (by simp)).lt; have HL7 := Lib.hid hl7; have K12 := Lib.hid (K11.out.trans0 k12); clear k12 hl7)
    | (simp only [zeros48])
    | (refine st_fnd _ _ h7 HL0.out HSL3.out rfl rfl rfl rfl ?_; intro w13 h13 k13 s13; simp only [Act.put]; have HV := Lib.hid (hv7.keep k13 (by have := HL7.out; simp; omega)); have HU := Lib.hid h13; have K13 := Lib.hid ((K12.out.alloc (.cells (fndV fnd0) 28)).trans k13 (by intro x hx; right; have := K12.out.size; simp at hx; omega)); have HV13 := Lib.hid (show w12.heap.size < w13.heap.size from h13.lt); clear h13 hv7 h7 k13 s13)
    | (refine ld_fnd _ HV.out HSL.out rfl rfl rfl ?_; simp only [Act.put]; have h9 : FAt (w13.alloc (.cells (fndV fnd0) 28)) w13.heap.size 28 [] fnd0 := heap_alloc_new w13 _; have hv9 : FAt (w13.alloc (.cells (fndV fnd0) 28)) w2.heap.size 28 [] S := heap_alloc_held HV.out _; have hu9 : FAt (w13.alloc (.cells (fndV fnd0) 28)) w12.heap.size 28 [] S3 := heap_alloc_held HU.out _)
    | (refine st_fnd _ _ h9 HL0.out HSL.out rfl rfl rfl rfl ?_; intro w15 h15 k15 s15; simp only [Act.put]; have HV15 := Lib.hid (hv9.keep k15 (by have := HL7.out; have := HV13.out; simp; omega)); have HU15 := Lib.hid (hu9.keep k15 (by have := HV13.out; simp; omega)); have HX15 := Lib.hid h15; have K15 := Lib.hid ((K13.out.alloc (.cells (fndV fnd0) 28)).trans k15 (by intro x hx; right; have := K13.out.size; simp at hx; omega)); clear h15 hv9 hu9 h9 k15 s15))
  have HG02 := Lib.hid (show w2.heap.size < w13.heap.size by have := HL7.out; have := HV13.out; omega)
  have HG12 := Lib.hid (show w12.heap.size < w13.heap.size from HV13.out)
  have HGW := Lib.hid (show w9.heap.size ≤ w13.heap.size from K13.out.size)
  generalize w13.heap.size = g2 at *
  generalize w12.heap.size = g1 at *
  generalize w2.heap.size = g0 at *
  have d3 : w15.cell? ⟨g0, 46, none⟩ = some (.int .i64 S.com) := HV15.out.com HSL.out
  have d4' : w15.cell? ⟨g0, 47, none⟩ = some (.int .i64 (S.free : Int)) := HV15.out.free HSL.out
  have e0 : w15.cell? ⟨g2, 0, none⟩ = some (.bool S.has) := HX15.out.has
  have e1 : w15.cell? ⟨g2, 1, none⟩ = some (.int .i64 S.seq) := HX15.out.seq
  have e3 : w15.cell? ⟨g2, 46, none⟩ = some (.int .i64 S.com) := HX15.out.com HSL.out
  have e4 : w15.cell? ⟨g2, 47, none⟩ = some (.int .i64 (S.free : Int)) := HX15.out.free HSL.out
  have f0 := HX15.out.frozen 0
  have f1 := HX15.out.frozen 1
  have f3 := HX15.out.frozen 46
  have f4 := HX15.out.frozen 47
  have hne1 : g2 ≠ g0 := by have := HG02.out; omega
  have hne2 : g0 ≠ g2 := by have := HG02.out; omega
  have hw3 : IntKind.i64.wrap (S.com + 1) = S.com + 1 := IntWalk.i64_in _ (by omega)
  have hRN9 : (4 : Int) ≤ 9 := by have := HR9.out; omega
  have hw4 : IntKind.i64.wrap ((S.free : Int) + 4) = (S.free : Int) + 4 := IntWalk.i64_in _ (by omega)
  have hw5 : IntKind.i64.wrap ((S.free : Int) + 4 + 1) = (S.free : Int) + 4 + 1 := IntWalk.i64_in _ (by omega)
  go_cut [] from 63 to 76 (fun wx => FAt wx g2 28 [] (⟨true, S.seq + 1 + A, S.live, S.com + 1, S.free + 4 + 1⟩ : Fnd) ∧ FAt wx g1 28 [] S3 ∧ Keeps [] w9 wx)
  case first =>
    go_region_held3 (fun wz => wz.cell? ⟨g0, 46, none⟩ = some (.int .i64 S.com) ∧ wz.cell? ⟨g0, 47, none⟩ = some (.int .i64 (S.free : Int))) (first | exact ⟨d3, d4'⟩ | go_keep) (first | fail)
    all_goals
      go_wp2_with fail
      go_meet
      refine ⟨?_, HU15.out.keep (F := [g2]) (((((Keeps.refl _ _).setCell (p := ⟨g2, 0, none⟩) (.inl (by simp)) _).setCell (p := ⟨g2, 1, none⟩) (.inl (by simp)) _).setCell (p := ⟨g2, 46, none⟩) (.inl (by simp)) _).setCell (p := ⟨g2, 47, none⟩) (.inl (by simp)) _).drew (by have := HG12.out; simp; omega), ((((K15.out.setCell (p := ⟨g2, 0, none⟩) (.inr HGW.out) _).setCell (p := ⟨g2, 1, none⟩) (.inr HGW.out) _).setCell (p := ⟨g2, 46, none⟩) (.inr HGW.out) _).setCell (p := ⟨g2, 47, none⟩) (.inr HGW.out) _).drew⟩
      have h := (((HX15.out.setHas true).setSeq (S.seq + 1 + A)).setCom HSL.out (S.com + 1)).setFree HSL.out (S.free + 4 + 1)
      rw [show ((S.free + 4 + 1 : Nat) : Int) = (S.free : Int) + 4 + 1 by omega] at h
      exact h.keep ((Keeps.refl [] _).drew) (by simp)
  case rest =>
  obtain ⟨hX, hU, kX⟩ := hcut
  generalize wc = w16 at *
  have HU16 := Lib.hid hU
  have HX16 := Lib.hid hX
  have KX := Lib.hid kX
  clear hX hU kX d3 d4' e0 e1 e3 e4 f0 f1 f3 f4 hw3 hw4 hw5 hne1 hne2 hRN9
  have HRB := Lib.hid (show RecsAt w16 a2 4 (allL more) from (R2.out.keep0 KX.out))
  have HNB := Lib.hid (show ∀ b o s, a2 = some ⟨b, o, s⟩ → b ∉ [g2] by
    intro b o s e hb
    have h1 := recs_lt R2.out (by have := HN14.out; omega) b o s e
    have h2 := HGW.out
    rw [List.mem_singleton] at hb
    omega)
  go_wp2_with fail
  go_loopw [14] (fun vi wr => ∃ (i : Nat), i ≤ 4 ∧ vi = .int .i64 i ∧ FAt wr g2 28 [] ⟨true, S.seq + 1 + A, liveRecs S.live ((allL more).take i), S.com + 1, S.free + 4 + 1⟩ ∧ Keeps [g2] w16 wr) (fun vi _ => 4 - (intOf vi).toNat)
  case atStart => exact ⟨0, Nat.zero_le _, rfl, HX16.out, Keeps.refl _ _⟩
  case round =>
    obtain ⟨i, hi, rfl, hfi, hkk⟩ := hrel
    have HKK := Lib.hid hkk
    have HFI := Lib.hid hfi
    clear hkk hfi
    by_cases hlt : i < 4
    · obtain ⟨r, hrd⟩ : ∃ r, r = (allL more).getD i [] := ⟨_, rfl⟩
      have hmem : r ∈ (allL more) := by rw [hrd]; exact getD_mem (by rw [HLEN.out]; exact hlt)
      have hr13 : r.length = 13 := H13.out _ hmem
      obtain ⟨⟨b, o, s⟩, rfl⟩ : ∃ ad, a2 = some ad := by
        rcases a2 with _ | ad
        · have h1 := HRB.out.2.2.2.1 rfl
          have h2 := flat13 H13.out
          rw [h1, HLEN.out] at h2
          simp at h2 <;> omega
        · exact ⟨ad, rfl⟩
      obtain ⟨rfl, hrg⟩ := (HRB.out.keep HKK.out HNB.out).range hlt
      rw [← hrd] at hrg
      have e13 : o + i * 13 = o + 13 * i := by omega
      rw [← e13] at hrg
      have hkr := (HKINDS.out r hmem).2
      obtain ⟨k, hkd⟩ := Int.eq_ofNat_of_zero_le hkr.1
      have hk4 : k < 4 := by omega
      have hst : liveRecs S.live ((allL more).take (i + 1)) = liveSet (liveRecs S.live ((allL more).take i)) k (r.drop 2) := by rw [take_snoc (by rw [HLEN.out]; exact hlt), ← hrd, liveRecs_snoc, hkd]; simp
      have hll : (liveRecs S.live ((allL more).take i)).length = 44 := liveRecs_len HSL.out (fun t ht => HKINDS.out t (List.mem_of_mem_take ht))
      have HST := Lib.hid hst
      have HRD := Lib.hid hrd
      have HR13 := Lib.hid hr13
      have HKD := Lib.hid hkd
      have HLL := Lib.hid hll
      have hlti : (i : Int) < 4 := by omega
      have hi9 : i < 9 := by have := HR9.out; omega
      clear hrd hr13 hkd hst e13 hkr hmem hll
      go_upto_region 17 with fail
      have hk4i : (k : Int) < 4 := by omega
      refine wp_region_held_drew (S := fun wz => wz.rangeAt b (o + i * 13) (r.map (.int .i64))) (by kernel_rfl) hrg (fun hHeld => ?_)
      refine wpAnyH_take (i := 0) (oi := ⟨some 83, _, _, _, _, _⟩) (v := .slice (some ⟨b, o, none⟩) 4 c2) rfl (by kernel_rfl) (by kernel_rfl) (by kernel_rfl) (fun _ _ _ h => h) (Or.inl ⟨by rfl, fun wz hz => by go_simp⟩) hHeld ?_
      simp only [Act.put, List.setIfInBounds_toArray, List.set_cons_zero, List.set_cons_succ]
      refine wpAnyH_take (i := 1) (oi := ⟨some 84, _, _, _, _, _⟩) (v := .int .i64 (i : Int)) rfl (by kernel_rfl) (by kernel_rfl) (by kernel_rfl) (fun _ _ _ h => h) (Or.inl ⟨by rfl, fun wz hz => by go_simp⟩) hHeld ?_
      simp only [Act.put, List.setIfInBounds_toArray, List.set_cons_zero, List.set_cons_succ]
      refine wpAnyH_take (i := 2) (oi := ⟨some 85, _, _, _, _, _⟩) (v := .pointer (some ⟨b, o + i * 13, none⟩)) rfl (by kernel_rfl) (by kernel_rfl) (by kernel_rfl) (fun _ _ _ h => h) (Or.inl ⟨by rfl, fun wz hz => by go_simp⟩) hHeld ?_
      simp only [Act.put, List.setIfInBounds_toArray, List.set_cons_zero, List.set_cons_succ]
      refine wpAnyH_take (i := 3) (oi := ⟨some 86, _, _, _, _, _⟩) (v := .pointer (some ⟨b, o + i * 13, none⟩)) rfl (by kernel_rfl) (by kernel_rfl) (by kernel_rfl) (fun _ _ _ h => h) (Or.inl ⟨by rfl, fun wz hz => by go_simp⟩) hHeld ?_
      simp only [Act.put, List.setIfInBounds_toArray, List.set_cons_zero, List.set_cons_succ]
      refine wpAnyH_take (i := 4) (oi := ⟨some 87, _, _, _, _, _⟩) (v := .int .i64 (k : Int)) rfl (by kernel_rfl) (by kernel_rfl) (by kernel_rfl) (fun _ _ _ h => h) (Or.inl ⟨by rfl, fun wz hz => by have hs := kind_cell hz HR13.out HKD.out; go_simp⟩) hHeld ?_
      simp only [Act.put, List.setIfInBounds_toArray, List.set_cons_zero, List.set_cons_succ]
      refine wpAnyH_take (i := 5) (oi := ⟨some 88, _, _, _, _, _⟩) (v := .slice (some ⟨b, o, none⟩) 4 c2) rfl (by kernel_rfl) (by kernel_rfl) (by kernel_rfl) (fun _ _ _ h => h) (Or.inl ⟨by rfl, fun wz hz => by go_simp⟩) hHeld ?_
      simp only [Act.put, List.setIfInBounds_toArray, List.set_cons_zero, List.set_cons_succ]
      refine wpAnyH_take (i := 6) (oi := ⟨some 89, _, _, _, _, _⟩) (v := .int .i64 (i : Int)) rfl (by kernel_rfl) (by kernel_rfl) (by kernel_rfl) (fun _ _ _ h => h) (Or.inl ⟨by rfl, fun wz hz => by go_simp⟩) hHeld ?_
      simp only [Act.put, List.setIfInBounds_toArray, List.set_cons_zero, List.set_cons_succ]
      refine wpAnyH_take (i := 7) (oi := ⟨some 90, _, _, _, _, _⟩) (v := .pointer (some ⟨b, o + i * 13, none⟩)) rfl (by kernel_rfl) (by kernel_rfl) (by kernel_rfl) (fun _ _ _ h => h) (Or.inl ⟨by rfl, fun wz hz => by go_simp⟩) hHeld ?_
      simp only [Act.put, List.setIfInBounds_toArray, List.set_cons_zero, List.set_cons_succ]
      refine wpAnyH_take (i := 8) (oi := ⟨some 91, _, _, _, _, _⟩) (v := .pointer (some ⟨b, o + i * 13 + 2, none⟩)) rfl (by kernel_rfl) (by kernel_rfl) (by kernel_rfl) (fun _ _ _ h => h) (Or.inl ⟨by rfl, fun wz hz => by go_simp⟩) hHeld ?_
      simp only [Act.put, List.setIfInBounds_toArray, List.set_cons_zero, List.set_cons_succ]
      refine wpAnyH_take (i := 9) (oi := ⟨some 92, _, _, _, _, _⟩) rfl (by kernel_rfl) (by kernel_rfl) (by kernel_rfl) (fun _ _ _ h => h) (yieldsIf_load_mid (by rfl) _ _ rfl _ _ rfl ((r.drop 2).map (.int .i64)) _ (fun _ h => range_pay h) Tryd.underlying25 rfl (by rw [List.length_map, pay_list HR13.out]; exact infoPay)) hHeld ?_
      simp only [Act.put, List.setIfInBounds_toArray, List.set_cons_zero, List.set_cons_succ]
      refine wpAnyH_take (i := 10) (oi := ⟨some 93, _, _, _, _, _⟩) (v := .pointer (some ⟨g2, 2, none⟩)) rfl (by kernel_rfl) (by kernel_rfl) (by kernel_rfl) (fun _ _ _ h => h) (Or.inl ⟨by rfl, fun wz hz => by go_simp⟩) hHeld ?_
      simp only [Act.put, List.setIfInBounds_toArray, List.set_cons_zero, List.set_cons_succ]
      refine wpAnyH_take (i := 11) (oi := ⟨some 94, _, _, _, _, _⟩) (v := .pointer (some ⟨g2, 2 + k * 11, none⟩)) rfl (by kernel_rfl) (by kernel_rfl) (by kernel_rfl) (fun _ _ _ h => h) (Or.inl ⟨by rfl, fun wz hz => by go_simp⟩) hHeld ?_
      simp only [Act.put, List.setIfInBounds_toArray, List.set_cons_zero, List.set_cons_succ]
      refine wpAnyH_ready (rs := [12]) (by kernel_rfl) (by simp) ?_
      refine AllReadyH.cons (o := ⟨none, _, _, _, _, _⟩) rfl (fun K hK => ?_) AllReadyH.nil
      rw [if_pos (by rfl)]
      have hF6 : FAt wr.drew g2 28 [] ⟨true, S.seq + 1 + A, liveRecs S.live ((allL more).take i), S.com + 1, S.free + 4 + 1⟩ := HFI.out
      refine wp_store_mid _ _ _ rfl g2 (2 + k * 11) (ints (r.drop 2)) rfl rfl (hF6.there HLL.out (by rw [ints_size, pay_list HR13.out]; simp; omega)) (by rw [ints_size, pay_list HR13.out]; exact infoPay) (ints_one _) ?_
      have x1 : Keeps [g2] wr (wr.drew.setCells g2 (2 + k * 11) (ints (r.drop 2)).toList) := Keeps.setCellsR (Keeps.drew (Keeps.refl _ _)) (.inl (by simp)) _ _
      have a1 : FAt (wr.drew.setCells g2 (2 + k * 11) (ints (r.drop 2)).toList) g2 28 [] ⟨true, S.seq + 1 + A, liveRecs S.live ((allL more).take (i + 1)), S.com + 1, S.free + 4 + 1⟩ := by
        have h := hF6.setLive HLL.out hk4 (pay_list HR13.out)
        rw [HST.out]
        rw [show 2 + k * 11 = ([] : List Value).length + 2 + 11 * k by simp; omega]
        exact h
      have hrg2 : (wr.drew.setCells g2 (2 + k * 11) (ints (r.drop 2)).toList).rangeAt b (o + i * 13) (r.map (.int .i64)) := by
        have h := ((HRB.out.keep (HKK.out.trans x1 (by simp)) HNB.out).range hlt).2
        rw [← HRD.out, show o + 13 * i = o + i * 13 by omega] at h
        exact h
      refine hK.out _ _ hrg2 (fun hHeld => ?_)
      have K6 := Lib.hid (HKK.out.trans x1 (by simp))
      have A1 := Lib.hid a1
      clear hK K x1 a1 hF6 hrg hrg2
      generalize wr.drew.setCells g2 (2 + k * 11) (ints (r.drop 2)).toList = w6 at *
      refine wpAnyH_done (by kernel_rfl) ?_ _
      clear hHeld
      go_wp2_with fail
      go_roundw
      case rel => exact ⟨i + 1, by omega, by go_num, A1.out, K6.out⟩
      case measure => simp [intOf]; omega
    · have hin : i = 4 := by omega
      subst hin
      have hE : FAt wr g2 28 [] S3 := by
        have h := HFI.out
        rw [List.take_of_length_le (by rw [HLEN.out]; exact Nat.le_refl _)] at h
        rw [HS3.out]
        exact h
      have HE := Lib.hid hE
      have HU3 := Lib.hid (HU16.out.keep HKK.out (by have := HG12.out; simp; omega))
      clear hE
      go_wp2_with (first
        | (refine ld_fnd _ HU3.out HSL3.out rfl rfl rfl ?_; simp only [Act.put])
        | (refine ld_fnd _ HE.out HSL3.out rfl rfl rfl ?_; simp only [Act.put])
        | (refine eq_fnd _ _ _ HSL3.out rfl rfl rfl rfl ?_; simp only [Act.put]))
      go_ret
      exact ⟨rfl, (K9.out.trans0 KX.out).trans HKK.out (by intro x hx; right; have h1 := (K9.out).size; have h2 := HGW.out; simp at hx; omega)⟩

set_option maxHeartbeats 4000000 in
theorem gcounts_fe (a : Option Addr) (n c : Nat) (xs : List Int) (more : Int) (ar : Option Addr) (nr cr : Nat) (rr0 : List (List Int)) (w : World) (ht : Turns w) (hi : IntsAt w a n xs) (hn : n ≤ c) (hc : c ≤ maxLen) (h64 : ∀ x ∈ xs, I64 x)
    (hrr0 : RecsAt w ar nr rr0) (hnr : nr ≤ cr) (hcr : cr ≤ maxLen) (hr640 : ∀ r ∈ rr0, ∀ x ∈ r, I64 x) (hz : ar = none → nr = 0 ∧ cr = 0) (hb : (scanR (xs.take (fewN n))).has = false) (hg : ¬ (gputR (xs.take (fewN n)) ((scanR (xs.take (fewN n))).seq + 1 + amongI more 9) true (allL more)).1 = 0) :
    Calls Tryd.prog 5 #[.slice a n c, .int .i64 more, .slice ar nr cr] w fun e w' => e = .returned (.bool true) ∧ Keeps [] w w' := by
  have hfn := fewN_le n
  have hit := hi.take (k := fewN n) hfn.1
  have h64t := take_64F (k := fewN n) h64
  obtain ⟨ys, hys⟩ : ∃ ys, ys = xs.take (fewN n) := ⟨_, rfl⟩
  rw [← hys] at hit h64t hb hg
  obtain ⟨M, hM⟩ : ∃ M, M = fewN n := ⟨_, rfl⟩
  have hMb : M ≤ n ∧ M ≤ 480 := by rw [hM]; exact hfn
  rw [← hM] at hit
  obtain ⟨R, hR⟩ : ∃ R, R = if nr ≤ 9 then nr else 9 := ⟨_, rfl⟩
  have hR9 : R ≤ nr ∧ R ≤ 9 := by rw [hR]; split <;> omega
  obtain ⟨rr, hrrr⟩ : ∃ rr, rr = rr0.take R := ⟨_, rfl⟩
  have hrr := recs_front hrr0 hR9.1
  have hr64 : ∀ r ∈ rr0.take R, ∀ x ∈ r, I64 x := fun r hr => hr640 r (List.mem_of_mem_take hr)
  rw [← hrrr] at hrr hr64
  skip
  obtain ⟨S, hS⟩ : ∃ S, S = scanR ys := ⟨_, rfl⟩
  have hyl : ys.length = M := hit.1.symm
  have hfits : Fits S (ys.length / 16) := by rw [hS]; exact fits_scan ys
  rw [hyl] at hfits
  rw [← hS] at hb hg
  have hSD : S.free ≤ 30 := by have := hfits.free; omega
  have hs0 : 0 ≤ S.seq := hfits.seq.1
  have hs1 : S.seq ≤ 4294967295 := hfits.seq.2
  have hc0 : 0 ≤ S.com ∧ S.com ≤ 30 := by have := hfits.com; omega
  have hSL : S.live.length = 44 := hfits.live
  obtain ⟨A, hA⟩ : ∃ A, A = amongI more 9 := ⟨_, rfl⟩
  have hA0 : 0 ≤ A ∧ A < 9 := by rw [hA]; exact amongI_lt more 9 (by omega) (by omega)
  rw [← hA] at hg
  obtain ⟨gc, gl, ga, hG⟩ : ∃ gc gl ga, (gc, gl, ga) = gputR ys (S.seq + 1 + A) true (allL more) := ⟨_, _, _, rfl⟩
  rw [← hG] at hg
  have hg0 : ¬ gc = 0 := hg
  have h13 : ∀ r ∈ (allL more), r.length = 13 := allL_len more
  have hlen : (allL more).length = 4 := by simp [allL]
  obtain ⟨rfl, rfl⟩ := gput_err hG hg0
  have hg0b : (gc == 0) = false := by simp [hg0]
  have HT := Lib.hid ht
  have HI := Lib.hid hit
  have H64 := Lib.hid h64t
  have HMB := Lib.hid hMb
  have HM := Lib.hid hM
  have HN := Lib.hid hn
  have HC := Lib.hid hc
  have HS := Lib.hid hS
  have HSL := Lib.hid hSL
  have HG := Lib.hid hG
  have HA := Lib.hid hA
  have HB := Lib.hid hb
  have HR := Lib.hid hR
  have HR9 := Lib.hid hR9
  have HRR := Lib.hid hrr
  have HZ := Lib.hid hz
  have HYL := Lib.hid hyl
  have HQ := Lib.hid (show I64 (S.seq + 1 + A) by unfold I64; omega)
  have HR64 := Lib.hid (show ∀ r ∈ (allL more), ∀ x ∈ r, I64 x from allL_64 more)
  have HL0 := Lib.hid (show fnd0.live.length = 44 by decide)
  have hcr' := hcr
  unfold maxLen at hcr'
  have hm0 : (0 : Int) ≤ (M : Int) := by omega
  clear ht hi hit h64 h64t hys hfn hMb hM hn hc hS hSL hG hA hb hR hR9 hrr hrr0 hz hyl hfits hrrr hr64 hr640 hcr h13 hlen hg
  go_enter Tryd.func5, Tryd.ntmps5
  go_upto_region 3 with (go_at_call 17; refine (works_any _ HT.out).mono ?_; rintro e w1 ⟨rfl, k1⟩; have K1 := Lib.hid k1; clear k1)
  go_cut [0, 2] from 16 to 23 (fun s0 s2 wx => s0 = .slice a M c ∧ s2 = .slice ar R cr ∧ Keeps [] w wx)
  case first =>
    rcases ar with _ | ad
    · obtain ⟨rfl, rfl⟩ := HZ.out rfl
      have E := Lib.hid (show R = 0 by have := HR9.out; omega)
      go_region_with (go_at_call 9; refine (few_any _ _ _ _ HN.out HC.out).mono ?_; rw [← HM.out]; rintro e w' ⟨rfl, rfl⟩)
      all_goals (try (exfalso; omega))
      all_goals (go_wp2_with fail; go_meet; exact ⟨rfl, (by rw [E.out]), K1.out.drewN 1⟩)
    rcases Nat.lt_trichotomy nr 9 with h | h | h
    · have E := Lib.hid (show R = nr by rw [HR.out, if_pos (by omega)])
      go_region_with (go_at_call 9; refine (few_any _ _ _ _ HN.out HC.out).mono ?_; rw [← HM.out]; rintro e w' ⟨rfl, rfl⟩)
      all_goals (try (exfalso; omega))
      all_goals (go_wp2_with fail; go_meet; exact ⟨rfl, (by rw [E.out]), K1.out.drewN 1⟩)
    · subst h
      have E := Lib.hid (show R = 9 by rw [HR.out, if_pos (by omega)])
      go_region_with (go_at_call 9; refine (few_any _ _ _ _ HN.out HC.out).mono ?_; rw [← HM.out]; rintro e w' ⟨rfl, rfl⟩)
      all_goals (try (exfalso; omega))
      all_goals (go_wp2_with fail; go_meet; exact ⟨rfl, (by rw [E.out]), K1.out.drewN 1⟩)
    · have E := Lib.hid (show R = 9 by rw [HR.out, if_neg (by omega)])
      go_region_with (go_at_call 9; refine (few_any _ _ _ _ HN.out HC.out).mono ?_; rw [← HM.out]; rintro e w' ⟨rfl, rfl⟩)
      all_goals (try (exfalso; omega))
      all_goals (go_wp2_with fail; go_meet; exact ⟨rfl, (by rw [E.out]), K1.out.drewN 1⟩)
  case rest =>
  obtain ⟨rfl, rfl, k3⟩ := hcut
  have K3 := Lib.hid k3
  clear k3
  go_upto_region 5 with (first
    | (go_at_call 12; refine (scan_any _ M c ys _ (HT.out.keep K3.out) (HI.out.keep0 K3.out) (by have := HMB.out; have := HN.out; omega) HC.out H64.out).mono ?_; rw [← HS.out]; rintro e w2 ⟨rfl, k2⟩; have h7 : FAt (w2.alloc (.cells (fndV fnd0) 28)) w2.heap.size 28 [] fnd0 := heap_alloc_new w2 _; have K2 := Lib.hid (K3.out.trans0 k2); clear k2)
    | (simp only [zeros48])
    | (refine st_fnd _ _ h7 HL0.out HSL.out rfl rfl rfl rfl ?_; intro w8 h8 k8 s8; simp only [Act.put]; have d0 : w8.cell? ⟨w2.heap.size, 0, none⟩ = some (.bool false) := (by rw [← HB.out]; exact h8.has); have d1 : w8.cell? ⟨w2.heap.size, 1, none⟩ = some (.int .i64 S.seq) := h8.seq; have d4 : w8.cell? ⟨w2.heap.size, 47, none⟩ = some (.int .i64 (S.free : Int)) := h8.free HSL.out; have HF := Lib.hid h8; have K8 := Lib.hid ((K2.out.alloc (.cells (fndV fnd0) 28)).trans k8 (by intro x hx; right; have := K2.out.size; simp at hx; omega)); clear h8 h7 k8)
    | (go_at_call 21; refine (all_any more _).mono ?_; rw [kinds_all]; rintro e w9 ⟨a2, c2, rfl, r2, l2, m2, k9⟩; have R2 := Lib.hid r2; have HF9 := Lib.hid (HF.out.keep k9 (by simp)); have p0 : w9.cell? ⟨w2.heap.size, 0, none⟩ = some (.bool false) := (by rw [← HB.out]; exact HF9.out.has); have p1 : w9.cell? ⟨w2.heap.size, 1, none⟩ = some (.int .i64 S.seq) := HF9.out.seq; have p4 : w9.cell? ⟨w2.heap.size, 47, none⟩ = some (.int .i64 (S.free : Int)) := HF9.out.free HSL.out; have K9 := Lib.hid (K8.out.trans0 k9); clear r2 k9))
  have hw1 : IntKind.i64.wrap (S.seq + 1) = S.seq + 1 := IntWalk.i64_in _ (by omega)
  have hw2 : IntKind.i64.wrap (S.seq + 1 + A) = S.seq + 1 + A := IntWalk.i64_in _ (by omega)
  go_cut [8] from 26 to 31 (fun s8 wx => s8 = .int .i64 (S.seq + 1 + A) ∧ Keeps [] w8 wx)
  case first =>
    go_quiet ((go_at_call 20; refine Calls.quiet_of_same (flipF (among_at more A _ HA.out))))
    go_wp2_with fail
    go_meet
    exact ⟨rfl, (Keeps.refl _ _).drewN _⟩
  case rest =>
  obtain ⟨rfl, k5⟩ := hcut
  generalize wc = w5 at *
  have K5 := Lib.hid (K8.out.trans0 k5)
  have HF5 := Lib.hid (HF.out.keep k5 (by simp))
  clear k5 d0 d1 d4 hw1 hw2
  have d0 : w5.cell? ⟨w2.heap.size, 0, none⟩ = some (.bool false) := (by rw [← HB.out]; exact HF5.out.has); have d1 : w5.cell? ⟨w2.heap.size, 1, none⟩ = some (.int .i64 S.seq) := HF5.out.seq; have d4 : w5.cell? ⟨w2.heap.size, 47, none⟩ = some (.int .i64 (S.free : Int)) := HF5.out.free HSL.out
  go_upto_region 9 with (first
    | (go_at_call 21; refine (all_any more _).mono ?_; rw [kinds_all]; rintro e w9 ⟨a2, c2, rfl, r2, l2, m2, k9⟩; have R2 := Lib.hid r2; have HF9 := Lib.hid (HF5.out.keep k9 (by simp)); have p0 : w9.cell? ⟨w2.heap.size, 0, none⟩ = some (.bool false) := (by rw [← HB.out]; exact HF9.out.has); have p1 : w9.cell? ⟨w2.heap.size, 1, none⟩ = some (.int .i64 S.seq) := HF9.out.seq; have p4 : w9.cell? ⟨w2.heap.size, 47, none⟩ = some (.int .i64 (S.free : Int)) := HF9.out.free HSL.out; have K9 := Lib.hid (K5.out.trans0 k9); clear r2 k9)
    | (go_at_call 18; refine (put_any _ M c ys (S.seq + 1 + A) true a2 4 c2 (allL more) _ (HT.out.keep K9.out) (HI.out.keep0 K9.out) (by have := HMB.out; have := HN.out; omega) HC.out R2.out (by have := HR9.out; omega) HQ.out HR64.out).mono ?_; rw [← HG.out]; rintro e w10 ⟨A3, c3, rfl, i3, k3, l3, m3⟩; have K10 := Lib.hid k3;  have L3 := Lib.hid (And.intro l3 m3); have HF10 := Lib.hid (HF9.out.keep k3 (by simp)); clear i3 k3 l3 m3))
  go_wp2_with fail
  go_ret
  exact ⟨rfl, K9.out.trans0 K10.out⟩

theorem gcounts_any (a : Option Addr) (n c : Nat) (xs : List Int) (more : Int) (ar : Option Addr) (nr cr : Nat) (rr0 : List (List Int)) (w : World) (ht : Turns w) (hi : IntsAt w a n xs) (hn : n ≤ c) (hc : c ≤ maxLen) (h64 : ∀ x ∈ xs, I64 x)
    (hrr0 : RecsAt w ar nr rr0) (hnr : nr ≤ cr) (hcr : cr ≤ maxLen) (hr640 : ∀ r ∈ rr0, ∀ x ∈ r, I64 x) (hz : ar = none → nr = 0 ∧ cr = 0) :
    Calls Tryd.prog 5 #[.slice a n c, .int .i64 more, .slice ar nr cr] w fun e w' => e = .returned (.bool true) ∧ Keeps [] w w' := by
  rcases hb : (scanR (xs.take (fewN n))).has with _ | _
  · by_cases hg : (gputR (xs.take (fewN n)) ((scanR (xs.take (fewN n))).seq + 1 + amongI more 9) true (allL more)).1 = 0
    · exact gcounts_fo a n c xs more ar nr cr rr0 w ht hi hn hc h64 hrr0 hnr hcr hr640 hz hb hg
    · exact gcounts_fe a n c xs more ar nr cr rr0 w ht hi hn hc h64 hrr0 hnr hcr hr640 hz hb hg
  · by_cases hg : (gputR (xs.take (fewN n)) ((scanR (xs.take (fewN n))).seq + 1 + amongI more 9) false (rr0.take (if nr ≤ 9 then nr else 9))).1 = 0
    · exact gcounts_to a n c xs more ar nr cr rr0 w ht hi hn hc h64 hrr0 hnr hcr hr640 hz hb hg
    · exact gcounts_te a n c xs more ar nr cr rr0 w ht hi hn hc h64 hrr0 hnr hcr hr640 hz hb hg

end Go.Proofs.YtnmblemplkdmaaaDoor
