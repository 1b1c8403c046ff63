
/- group: the document's Scan: the contract. No condition but lengths, and that all are numbers of 64 bits. -/
import Derived.Test.YtnmblemplkdmaaaDoorRn
import Derived.Deep.CutBlock
namespace Go.Proofs.YtnmblemplkdmaaaDoor
open Go.RowKit Go.Shelf
set_option linter.unusedVariables false
set_option linter.unusedSimpArgs false
set_option maxRecDepth 100000

theorem built48 : Tryd.prog.built 30 [] = some (fndV fnd0) := by kernel_rfl
section
variable {ops : Array Oper} {rest : List Oper} {o : Oper} {a : Act} {w : World} {Q : Exit → Act → World → Prop}
theorem bd_zero2 (hgd : o.guard = none) (ho : o.op = .build 30 #[])
    (h : wpList Tryd.prog ops Q rest (a.put o.dst (.agg (fndV fnd0))) w) : wpList Tryd.prog ops Q (o :: rest) a w := by
  refine wpList_plain hgd fun K hK => ?_
  have e : ((#[] : Array (Nat × Operand)).map fun (i, x) => (i, a.eval x)).toList = [] := by simp
  refine wp_build 30 _ ho (by rw [e, built48]; rfl) ?_
  rw [e, built48]
  exact hK _ _ h
theorem ld_fnd2 (x : Operand) {g : Nat} {f : Fnd} (hg : FAt w g 30 [] f) (hl : f.live.length = 44) (hgd : Region.wanted o (yielded ops a.tmps) = true) (ho : o.op = .load 30 x) (hx : a.eval x = .pointer (some ⟨g, 0, none⟩))
    (h : wpList Tryd.prog ops Q rest (a.put o.dst (.agg (fndV f))) w) : wpList Tryd.prog ops Q (o :: rest) a w := by
  refine wpList_step fun K hK => ?_
  rw [if_pos hgd]
  exact wp_load_row 30 x ho g hx 30 (fndV f) (0, 0) _ hg Tryd.underlying30 rfl (by rw [fndV_size hl]; exact infoF2) (hK _ _ h)
theorem st_fnd2 (x y : Operand) {g : Nat} {f f' : Fnd} (hg : FAt w g 30 [] f) (hl : f.live.length = 44) (hl' : f'.live.length = 44) (hgd : o.guard = none) (ho : o.op = .store 30 x y) (hx : a.eval x = .pointer (some ⟨g, 0, none⟩)) (hy : a.eval y = .agg (fndV f'))
    (h : ∀ w', FAt w' g 30 [] f' → Keeps [g] w w' → w'.heap.size = w.heap.size → wpList Tryd.prog ops Q rest (a.put o.dst undef) w') : wpList Tryd.prog ops Q (o :: rest) a w :=
  wpList_store_row hgd 30 x y ho g (fndV f') hx hy 30 (fndV f) hg (by rw [fndV_size hl']; exact infoF2) (by rw [fndV_size hl, fndV_size hl']) (fndV_one f')
    (h _ (setRow_heap w g _ _ _ _ hg) ((Keeps.refl _ _).setRowR (.inl (by simp)) _) (by simp))
/-- A payload is read out of a record; it is written as what is alive of its Kind. -/
theorem ld_payR (x : Operand) {g : Nat} {l : List Int} (hg : RecAt w g l) (hl : l.length = 13) (hgd : Region.wanted o (yielded ops a.tmps) = true) (ho : o.op = .load 25 x) (hx : a.eval x = .pointer (some ⟨g, 2, none⟩))
    (h : wpList Tryd.prog ops Q rest (a.put o.dst (.agg (ints (l.drop 2)))) w) : wpList Tryd.prog ops Q (o :: rest) a w := by
  refine wpList_step fun K hK => ?_
  rw [if_pos hgd]
  exact wp_load_mid 25 x ho g 2 hx ((l.drop 2).map (.int .i64)) _ (hg.payRange hl) Tryd.underlying25 rfl (by rw [List.length_map, pay_list hl]; exact infoPay) (hK _ _ h)
theorem st_live (x y : Operand) {g : Nat} {t : TypeId} {f : Fnd} {k : Nat} {p : List Int} (hg : FAt w g t [] f) (hl : f.live.length = 44) (hk : k < 4) (hp : p.length = 11) (hgd : o.guard = none) (ho : o.op = .store 25 x y) (hx : a.eval x = .pointer (some ⟨g, 2 + k * 11, none⟩)) (hy : a.eval y = .agg (ints p))
    (h : ∀ w', FAt w' g t [] { f with live := liveSet f.live k p } → Keeps [g] w w' → w'.heap.size = w.heap.size → wpList Tryd.prog ops Q rest (a.put o.dst undef) w') : wpList Tryd.prog ops Q (o :: rest) a w :=
  wpList_store_mid hgd 25 x y ho g (2 + k * 11) (ints p) hx hy (hg.there hl (by rw [ints_size, hp]; simp; omega)) (by rw [ints_size, hp]; exact infoPay) (ints_one _)
    (h _ (by have := hg.setLive hl hk hp; rw [show 2 + k * 11 = ([] : List Value).length + 2 + 11 * k by simp; omega]; exact this) (Keeps.setCellsR (Keeps.refl _ _) (.inl (by simp)) _ _) (size_setCells w g _ _ w))
end
theorem ret_fnd2 {fn : Func} {p : Tmp} (h : fn.results = #[.cell p 30]) {tmps : Array Value} {w : World} {g : Nat} {f : Fnd} (hg : FAt w g 30 [] f) (hl : f.live.length = 44) (hp : tmps.getD p undef = .pointer (some ⟨g, 0, none⟩)) :
    (results fn tmps).run Tryd.prog w = .ok (.agg (fndV f)) w :=
  results_cell_row h tmps w g 30 (fndV f) (0, 0) _ hp hg Tryd.underlying30 rfl (by rw [fndV_size hl]; exact infoF2)
theorem counts_out {prev : List (List Int)} {f : Fnd} {s : List Int} (h : countsB prev f s = true) : (readR s).1 = 0 ∧ (isR (readR s).2).2.2 = true ∧ (isR (readR s).2).1 ≤ prev.length ∧ recsOk ((readR s).2.getD 1 0) (-1) (lastN prev (isR (readR s).2).1.toNat) = true := by
  unfold countsB at h
  simp only [Bool.and_eq_true, decide_eq_true_eq] at h
  exact ⟨h.1, h.2.1, h.2.2.1, h.2.2.2.1⟩
theorem isR_first {r : List Int} (h : (isR r).2.2 = true) : (isR r).1 = r.getD 2 0 := by
  unfold isR at h ⊢
  split
  · rfl
  · rename_i hd
    rw [if_neg hd] at h
    simp at h
theorem recs_kinds {q : Int} : ∀ {ss : List (List Int)} {last : Int}, -1 ≤ last → recsOk q last ss = true → ∀ s ∈ ss, 0 ≤ (readR s).2.getD 0 0 ∧ (readR s).2.getD 0 0 < 4
  | [], _, _, _, s, hs => by simp at hs
  | t :: ts, last, h0, h, s, hs => by
    simp only [recsOk, Bool.and_eq_true, decide_eq_true_eq] at h
    rcases List.mem_cons.1 hs with rfl | hs
    · exact ⟨by omega, h.1.2.1⟩
    · exact recs_kinds (by omega) h.2 s hs
theorem liveAll_snoc (live : List Int) (ss : List (List Int)) (s : List Int) : liveAll live (ss ++ [s]) = liveSet (liveAll live ss) ((readR s).2.getD 0 0).toNat ((readR s).2.drop 2) := by
  rw [live_map, live_map, List.map_append, List.map_cons, List.map_nil, liveRecs_snoc]
theorem take_slots_len {xs : List Int} {k : Nat} (hk : k ≤ xs.length / 16) : ((slotsL xs).take k).length = k := by rw [List.length_take, slotsL_len]; omega

set_option maxHeartbeats 8000000 in
theorem refScan_any (a : Option Addr) (n c : Nat) (xs : List Int) (w : World) (hi : IntsAt w a n xs) (hn : n ≤ c) (hcm : c ≤ maxLen) (h64 : ∀ x ∈ xs, I64 x) :
    Calls Tryd.prog 13 #[.slice a n c] w fun e w' => e = .returned (.agg (fndV (scanR xs))) ∧ Keeps [] w w' := by
  have hxl := hi.1
  have hl0 : fnd0.live.length = 44 := by decide
  have hnb : n ≤ 9223372036854775807 := by unfold maxLen at hcm; omega
  obtain ⟨N, hN⟩ : ∃ N, N = n / 16 := ⟨_, rfl⟩
  have hsN : slotsI (n : Int) = (N : Int) := by rw [hN]; exact slotsI_nat n
  have hNl : N = xs.length / 16 := by rw [hN, hxl]
  have hNb : N ≤ 576460752303423488 := by omega
  have HI := Lib.hid hi
  have HN := Lib.hid hn
  have HCM := Lib.hid hcm
  have H64 := Lib.hid h64
  have HS64 := Lib.hid (fun j (x : Int) (hx : x ∈ slotA xs j) => h64 x (List.mem_of_mem_drop (List.mem_of_mem_take hx)))
  have HNN := Lib.hid hN
  have HNL := Lib.hid hNl
  have HSN := Lib.hid hsN
  have HL0 := Lib.hid hl0
  have HI64 := Lib.hid (show I64 (n : Int) by unfold I64; omega)
  have HSL := Lib.hid (fun j (hj : j < N) W (hW : Keeps [] w W) => show ∃ b o, a = some ⟨b, o, none⟩ ∧ IntsAt W (some ⟨b, o + 16 * j, none⟩) 16 (slotA xs j) by
    obtain ⟨b, o, rfl⟩ := hi.addr (by omega)
    exact ⟨b, o, rfl, (hi.keep0 hW).slot (by omega)⟩)
  clear hi hn hcm h64 hxl hl0 hN hsN hNl
  go_enter Tryd.func13, Tryd.ntmps13
  go_upto_region 1 with fail
  simp only [zeros48]
  have h1 : FAt (w.alloc (.cells (fndV fnd0) 30)) w.heap.size 30 [] fnd0 := heap_alloc_new w _
  have k1 : Keeps [] w (w.alloc (.cells (fndV fnd0) 30)) := (Keeps.refl _ _).alloc _
  have s1 : (w.alloc (.cells (fndV fnd0) 30)).heap.size = w.heap.size + 1 := by simp
  generalize w.alloc (.cells (fndV fnd0) 30) = w1 at *
  have h2 : FAt (w1.alloc (.cells (fndV fnd0) 30)) (w.heap.size + 1) 30 [] fnd0 := by rw [← s1]; exact heap_alloc_new w1 _
  have H3 := Lib.hid (show FAt (w1.alloc (.cells (fndV fnd0) 30)) w.heap.size 30 [] fnd0 from heap_alloc_held h1 _)
  have K2 := Lib.hid (k1.alloc (.cells (fndV fnd0) 30))
  clear h1 k1
  go_wp2_with (first
    | (refine bd_zero2 rfl rfl ?_; simp only [Act.put])
    | (simp only [zeros48])
    | (refine st_fnd2 _ _ h2 HL0.out HL0.out rfl rfl rfl rfl ?_; intro u3 h4 k4 s4; simp only [Act.put]; have K4 := Lib.hid (K2.out.trans k4 (by simp)); have H4 := Lib.hid h4; have R4 := Lib.hid (H3.out.keep k4 (by simp)); clear h4 k4 h2))
  go_loopw [4] (fun vi wr => ∃ (k : Nat), k ≤ N ∧ vi = .int .i64 k ∧ FAt wr (w.heap.size + 1) 30 [] (foundL ((slotsL xs).take k)) ∧ FAt wr w.heap.size 30 [] fnd0 ∧ Keeps [] w wr) (fun vi _ => N - (intOf vi).toNat)
  case atStart => exact ⟨0, Nat.zero_le _, rfl, H4.out, R4.out, K4.out⟩
  case round =>
    obtain ⟨k, hk, rfl, hF, hR, hkk⟩ := hrel
    obtain ⟨f, hf⟩ : ∃ f, f = foundL ((slotsL xs).take k) := ⟨_, rfl⟩
    have hfit := fits_found ((slotsL xs).take k)
    rw [← hf] at hF hfit
    have hpl := take_slots_len (xs := xs) (k := k) (by rw [← HNL.out]; exact hk)
    rw [hpl] at hfit
    have HFIT := Lib.hid hfit
    have HFD := Lib.hid hf
    have HF := Lib.hid hF
    have HR := Lib.hid hR
    have HK := Lib.hid hkk
    have HPL := Lib.hid hpl
    clear hf hfit hpl hR hkk
    by_cases hlt : k < N
    · have hki : (k : Int) < (N : Int) := by omega
      have e1 : IntKind.i64.wrap ((k : Int) + 1) = ((k + 1 : Nat) : Int) := by rw [IntKind.wrap_i64]; omega
      obtain ⟨b, o, rfl, hsl⟩ := HSL.out k hlt wr HK.out
      obtain ⟨f1, hf1⟩ : ∃ f1, f1 = freeS ((slotsL xs).take k) f (slotA xs k) := ⟨_, rfl⟩
      have hst : foundL ((slotsL xs).take (k + 1)) = stepS ((slotsL xs).take k) f (slotA xs k) := by rw [take_slots (by rw [← HNL.out]; exact hlt), foundL_snoc, ← HFD.out]
      have HST := Lib.hid hst
      have HSL1 := Lib.hid hsl
      have c47 : wr.cell? ⟨w.heap.size + 1, 47, none⟩ = some (.int .i64 (f.free : Int)) := hF.free HFIT.out.live
      have f47 := hF.frozen 47
      have HF1 := Lib.hid hf1
      clear hst hsl hf1
      cases hbl : blankB (slotA xs k)
      · have hfe : f1 = { f with free := k + 1 } := by rw [HF1.out]; unfold freeS; rw [if_neg (by rw [hbl]; simp), HPL.out]
        have HFE := Lib.hid hfe
        have HBL := Lib.hid hbl
        clear hfe hbl
        go_upto_region 7 with (first
          | (go_at_call 15; refine (refSlots_any (n : Int) _ HI64.out).mono ?_; rw [HSN.out]; rintro e w' ⟨rfl, rfl⟩)
          | (go_at_call 28; refine (refAt_any b o n c k _ (by rw [← HNN.out]; exact hlt) HN.out HCM.out).mono ?_; rintro e w' ⟨rfl, rfl⟩)
          | (go_at_call 27; refine (refBlank_any _ _ _ _ _ HSL1.out (by unfold maxLen; omega)).mono ?_; rw [HBL.out]; rintro e w' ⟨rfl, rfl⟩))
        have hfx : FAt (wr.setCell ⟨w.heap.size + 1, 47, none⟩ (.int .i64 ((k : Int) + 1))) (w.heap.size + 1) 30 [] f1 := by
          rw [HFE.out]
          exact HF.out.setFree HFIT.out.live (k + 1)
        have hrx : FAt (wr.setCell ⟨w.heap.size + 1, 47, none⟩ (.int .i64 ((k : Int) + 1))) w.heap.size 30 [] fnd0 := HR.out.keep (F := [w.heap.size + 1]) ((Keeps.refl _ _).setCell (.inl (by simp)) _) (by simp)
        have hkx : Keeps [] w (wr.setCell ⟨w.heap.size + 1, 47, none⟩ (.int .i64 ((k : Int) + 1))) := HK.out.setCell (.inr (by simp)) _
        have HFX := Lib.hid hfx
        have HRX := Lib.hid hrx
        have HKX := Lib.hid hkx
        clear hfx hrx hkx c47 f47 hF HSL1
        generalize wr.setCell ⟨w.heap.size + 1, 47, none⟩ (.int .i64 ((k : Int) + 1)) = wx at *
        have hf1l : f1.live.length = 44 := by rw [HF1.out]; unfold freeS; split <;> exact HFIT.out.live
        have hf1c : f1.com = f.com := by rw [HF1.out]; unfold freeS; split <;> rfl
        obtain ⟨R, hRd⟩ : ∃ R, R = readR (slotA xs k) := ⟨_, rfl⟩
        have hR13 : R.2.length = 13 := by rw [hRd]; exact readR_len _
        obtain ⟨B, hB⟩ : ∃ B, B = countsB ((slotsL xs).take k) f1 (slotA xs k) := ⟨_, rfl⟩
        have HRD := Lib.hid hRd
        have HR13 := Lib.hid hR13
        have HF1L := Lib.hid hf1l
        have HF1C := Lib.hid hf1c
        have HB := Lib.hid hB
        have HKW := HKX.out.size
        have hgw : w.heap.size + 1 < wx.heap.size := HFX.out.lt
        clear hRd hR13 hf1l hf1c hB
        cases B
        · have HNX := Lib.hid (show foundL ((slotsL xs).take (k + 1)) = f1 by rw [HST.out]; unfold stepS; rw [← HF1.out, ← HB.out, if_neg (by simp)])
          go_wp2_with (first
            | (refine ld_fnd2 _ HFX.out HF1L.out rfl rfl rfl ?_; simp only [Act.put])
            | (go_at_call 29; refine (refCounts_any _ n c xs f1 k _ HF1L.out (HI.out.keep0 HKX.out) HN.out HCM.out H64.out (by rw [← HNN.out]; exact hlt)).mono ?_; rw [← HRD.out, ← HB.out]; rintro e v2 ⟨rfl, k2⟩; have hA : RecAt (v2.alloc (.cells (ints (zer 13)) 46)) v2.heap.size (zer 13) := heap_alloc_new v2 _; have KA := Lib.hid (k2.alloc (.cells (ints (zer 13)) 46)); have hv2 := k2.size; clear k2)
            | (simp only [zeros13])
            | (refine st_rec _ _ hA (zer_len _) HR13.out rfl rfl rfl rfl ?_; intro v3 t3 k3 s3; simp only [Act.put]; have K3 := Lib.hid (KA.out.trans k3 (by intro x hx; right; simp at hx; omega)); clear hA k3 t3))
          go_roundw
          case rel => exact ⟨k + 1, by omega, by go_num, by rw [HNX.out]; exact HFX.out.keep K3.out (by simp), HRX.out.keep K3.out (by simp), HKX.out.trans0 K3.out⟩
          case measure => simp [intOf]; omega
        · have hco := counts_out HB.out.symm
          rw [← HRD.out, HPL.out] at hco
          obtain ⟨m, hm⟩ := Int.eq_ofNat_of_zero_le (show 0 ≤ (isR R.2).1 by have := isR_many hco.2.1; omega)
          have hmb := isR_many hco.2.1
          have hm4 : 1 ≤ m ∧ m ≤ 4 := by omega
          have hmk : m ≤ k := by have := hco.2.2.1; omega
          have hpm : R.2.getD 2 0 = (m : Int) := by rw [← isR_first hco.2.1, hm]
          obtain ⟨q, hq⟩ : ∃ q, q = R.2.getD 1 0 := ⟨_, rfl⟩
          have hss := hco.2.2.2
          rw [← hq, hm] at hss
          simp only [Int.toNat_natCast] at hss
          have hkn := recs_kinds (by omega) hss
          have hK16 : k ≤ xs.length / 16 := by rw [← HNL.out]; omega
          have HGET := Lib.hid (fun j (hj : j < m) => ahead_get (xs := xs) hK16 hmk hj)
          have HALN := Lib.hid (ahead_len (xs := xs) hK16 hmk)
          obtain ⟨ss, hssd⟩ : ∃ ss, ss = aheadL xs k m := ⟨_, rfl⟩
          have HNX := Lib.hid (show foundL ((slotsL xs).take (k + 1)) = ⟨true, q, liveAll f1.live ss, f1.com + 1, f1.free⟩ by
            rw [HST.out]
            unfold stepS
            rw [← HF1.out, ← HB.out, if_pos rfl, ← HRD.out, ← hq, hm, hssd]
            unfold aheadL
            rw [HF1.out]
            unfold freeS
            split <;> rfl)
          rw [← hssd] at HGET HALN
          replace hkn : ∀ s ∈ ss, 0 ≤ (readR s).2.getD 0 0 ∧ (readR s).2.getD 0 0 < 4 := by rw [hssd]; exact hkn
          have HKND := Lib.hid hkn
          have HPM := Lib.hid hpm
          have HQ := Lib.hid hq
          have hcb := HFIT.out.com
          rw [← HF1C.out] at hcb
          have e2 : IntKind.i64.wrap (f1.com + 1) = f1.com + 1 := by rw [IntKind.wrap_i64]; omega
          have e3 : IntKind.i64.wrap ((k : Int) - (m : Int)) = ((k - m : Nat) : Int) := by rw [IntKind.wrap_i64]; omega
          obtain ⟨cm, hcm⟩ : ∃ cm, cm = f1.com := ⟨_, rfl⟩
          rw [← hcm] at e2
          have HCM1 := Lib.hid hcm
          clear hco hm hmb hpm hq hss hkn hK16 hssd hcb hcm
          go_upto_region 9 with (first
            | (refine ld_fnd2 _ HFX.out HF1L.out rfl rfl rfl ?_; simp only [Act.put])
            | (go_at_call 29; refine (refCounts_any _ n c xs f1 k _ HF1L.out (HI.out.keep0 HKX.out) HN.out HCM.out H64.out (by rw [← HNN.out]; exact hlt)).mono ?_; rw [← HRD.out, ← HB.out]; rintro e v2 ⟨rfl, k2⟩; have hA : RecAt (v2.alloc (.cells (ints (zer 13)) 46)) v2.heap.size (zer 13) := heap_alloc_new v2 _; have KA := Lib.hid (k2.alloc (.cells (ints (zer 13)) 46)); have hv2 := k2.size; clear k2)
            | (simp only [zeros13])
            | (refine st_rec _ _ hA (zer_len _) HR13.out rfl rfl rfl rfl ?_; intro v3 t3 k3 s3; simp only [Act.put]; have K3 := Lib.hid (KA.out.trans k3 (by intro x hx; right; simp at hx; omega)); have T3 := Lib.hid t3; clear hA k3 t3))
          have hF3 := HFX.out.keep K3.out (by simp)
          have hc1 := T3.out.cell 1 (by rw [HR13.out]; decide)
          rw [← HQ.out] at hc1
          have hc2 := T3.out.cell 2 (by rw [HR13.out]; decide)
          rw [HPM.out] at hc2
          have hh1 : v3.cell? ⟨w.heap.size + 1, 0, none⟩ = some (.bool f1.has) := hF3.has
          have hh2 : v3.cell? ⟨w.heap.size + 1, 1, none⟩ = some (.int .i64 f1.seq) := hF3.seq
          have hh3 : v3.cell? ⟨w.heap.size + 1, 46, none⟩ = some (.int .i64 f1.com) := hF3.com HF1L.out
          rw [← HCM1.out] at hh3
          have g1 := hF3.frozen 0
          have g2 := hF3.frozen 1
          have g3 := hF3.frozen 46
          go_region
          have hF5 : FAt ((v3.setCell ⟨w.heap.size + 1, 0, none⟩ (.bool true)).setCell ⟨w.heap.size + 1, 1, none⟩ (.int .i64 q)).drew (w.heap.size + 1) 30 [] ⟨true, q, f1.live, f1.com, f1.free⟩ := (hF3.setHas true).setSeq q
          have hK5 : Keeps [w.heap.size + 1] v3 ((v3.setCell ⟨w.heap.size + 1, 0, none⟩ (.bool true)).setCell ⟨w.heap.size + 1, 1, none⟩ (.int .i64 q)).drew := (((Keeps.refl _ _).setCell (.inl (by simp)) _).setCell (.inl (by simp)) _).drew
          have hgne : w.heap.size + 1 ≠ v2.heap.size := by omega
          have hT5 := T3.out.keep hK5 (by simp; omega)
          have hR5 := (HRX.out.keep K3.out (by simp)).keep hK5 (by simp)
          have K5 := Lib.hid ((HKX.out.trans0 K3.out).trans hK5 (by simp))
          clear hc1 hc2 hh1 hh2 hh3 g1 g2 g3 hF3 hK5 HFX
          generalize ((v3.setCell ⟨w.heap.size + 1, 0, none⟩ (.bool true)).setCell ⟨w.heap.size + 1, 1, none⟩ (.int .i64 q)).drew = w5 at *
          have hh3 : w5.cell? ⟨w.heap.size + 1, 46, none⟩ = some (.int .i64 f1.com) := hF5.com HF1L.out
          rw [← HCM1.out] at hh3
          have g3 := hF5.frozen 46
          go_upto_region 11 with fail
          have hF6 : FAt (w5.setCell ⟨w.heap.size + 1, 46, none⟩ (.int .i64 (cm + 1))) (w.heap.size + 1) 30 [] ⟨true, q, f1.live, cm + 1, f1.free⟩ := hF5.setCom HF1L.out (cm + 1)
          have hK6 : Keeps [w.heap.size + 1] w5 (w5.setCell ⟨w.heap.size + 1, 46, none⟩ (.int .i64 (cm + 1))) := (Keeps.refl _ _).setCell (.inl (by simp)) _
          have hT6 := hT5.keep hK6 (by simp; omega)
          have hR6 := hR5.keep hK6 (by simp)
          have K6 := Lib.hid (K5.out.trans hK6 (by simp))
          clear hh3 g3 hF5 hT5 hR5 hK6
          generalize w5.setCell ⟨w.heap.size + 1, 46, none⟩ (.int .i64 (cm + 1)) = w6 at *
          have hc2 := hT6.cell 2 (by rw [HR13.out]; decide)
          rw [HPM.out] at hc2
          have H6 := Lib.hid hF6
          have R6 := Lib.hid hR6
          clear hF6 hR6 hT6
          go_wp2_with fail
          go_loopw [7] (fun vi wr2 => ∃ (j : Nat), j ≤ m ∧ vi = .int .i64 ((k - m + j : Nat) : Int) ∧ FAt wr2 (w.heap.size + 1) 30 [] ⟨true, q, liveAll f1.live (ss.take j), cm + 1, f1.free⟩ ∧ FAt wr2 w.heap.size 30 [] fnd0 ∧ Keeps [] w wr2) (fun vi _ => k - (intOf vi).toNat)
          case atStart => exact ⟨0, Nat.zero_le _, by simp, H6.out, R6.out, K6.out⟩
          case round =>
            obtain ⟨j, hj, rfl, hFj, hRj, hKj⟩ := hrel
            have HFJ := Lib.hid hFj
            have HRJ := Lib.hid hRj
            have HKJ := Lib.hid hKj
            obtain ⟨i, hij⟩ : ∃ i, i = k - m + j := ⟨_, rfl⟩
            rw [← hij]
            have HIJ := Lib.hid hij
            have hws := hKj.size
            have hgj := hFj.lt
            clear hij hFj hRj hKj
            by_cases hlj : j < m
            · have hikn : i < k := by have := HIJ.out; omega
              have hik : (i : Int) < (k : Int) := by omega
              have e5 : IntKind.i64.wrap ((i : Int) + 1) = ((i + 1 : Nat) : Int) := by rw [IntKind.wrap_i64]; omega
              obtain ⟨b', o', hbo, hsl2⟩ := HSL.out i (by omega) wr HKJ.out
              injection hbo with hbo
              injection hbo with hb1 hb2 hb3
              subst hb1; subst hb2
              obtain ⟨T, hT⟩ : ∃ T, T = readR (slotA xs i) := ⟨_, rfl⟩
              have hT13 : T.2.length = 13 := by rw [hT]; exact readR_len _
              have hgs : ss.getD j [] = slotA xs i := by rw [HGET.out j hlj, HIJ.out]
              have hjl : j < ss.length := by rw [HALN.out]; exact hlj
              have hkdb := HKND.out (slotA xs i) (by rw [← hgs]; exact getD_mem hjl)
              rw [← hT] at hkdb
              obtain ⟨kd, hkd⟩ := Int.eq_ofNat_of_zero_le hkdb.1
              have hk4 : kd < 4 := by omega
              have hk4i : (kd : Int) < 4 := by omega
              have hlv : liveAll f1.live (ss.take (j + 1)) = liveSet (liveAll f1.live (ss.take j)) kd (T.2.drop 2) := by rw [take_snoc hjl, hgs, liveAll_snoc, ← hT, hkd]; simp
              have hll : (liveAll f1.live (ss.take j)).length = 44 := by
                rw [live_map]
                refine liveRecs_len HF1L.out fun r hr => ?_
                obtain ⟨s, hs, rfl⟩ := List.mem_map.1 hr
                have := HKND.out s (List.mem_of_mem_take hs)
                exact ⟨readR_len s, this.1, this.2⟩
              have HLV := Lib.hid hlv
              have HLL := Lib.hid hll
              have HT := Lib.hid hT
              have HT13 := Lib.hid hT13
              have HKD := Lib.hid hkd
              have HSL2 := Lib.hid hsl2
              clear hlv hll hT hT13 hkd hsl2 hgs hjl hkdb
              go_wp2_with (first
                | (go_at_call 28; refine (refAt_any b o n c i _ (by rw [← HNN.out]; omega) HN.out HCM.out).mono ?_; rintro e w' ⟨rfl, rfl⟩)
                | (go_at_call 30; refine (refRead_any _ _ _ (slotA xs i) _ HSL2.out (by unfold maxLen; omega) (HS64.out i)).mono ?_; rw [← HT.out]; rintro e y2 ⟨rfl, k2⟩; have hA : RecAt (y2.alloc (.cells (ints (zer 13)) 46)) y2.heap.size (zer 13) := heap_alloc_new y2 _; have KA := Lib.hid (k2.alloc (.cells (ints (zer 13)) 46)); have hy2 := k2.size; clear k2)
                | (simp only [zeros13])
                | (refine st_rec _ _ hA (zer_len _) HT13.out rfl rfl rfl rfl ?_; intro y3 t3 k3 s3; simp only [Act.put]; have K3 := Lib.hid (KA.out.trans k3 (by intro x hx; right; simp at hx; omega)); have ct0 := t3.cell 0 (by rw [HT13.out]; decide); rw [HKD.out] at ct0; have hFY := HFJ.out.keep K3.out (by simp); clear hA k3)
                | (refine ld_payR _ t3 HT13.out rfl rfl rfl ?_; simp only [Act.put])
                | (refine st_live _ _ hFY HLL.out hk4 (pay_list HT13.out) rfl rfl rfl rfl ?_; intro y4 hFZ k4 s4; simp only [Act.put]; have KZ := Lib.hid ((HKJ.out.trans0 K3.out).trans k4 (by simp)); have RZ := Lib.hid ((HRJ.out.keep K3.out (by simp)).keep k4 (by simp)); have FZ := Lib.hid hFZ; clear k4 hFZ hFY))
              go_roundw
              case rel => exact ⟨j + 1, by omega, by have := HIJ.out; rw [show k - m + (j + 1) = i + 1 by omega]; go_num, by rw [HLV.out]; exact FZ.out, RZ.out, KZ.out⟩
              case measure => simp [intOf]; omega
            · have hjm : j = m := by omega
              have hik : i = k := by have := HIJ.out; omega
              have hFin := HFJ.out
              rw [hjm, ← HALN.out, List.take_length, HCM1.out, ← HNX.out] at hFin
              have HFIN := Lib.hid hFin
              clear hjm hFin
              subst hik
              go_wp2_with fail
              go_roundw
              case rel => exact ⟨i + 1, by omega, by go_num, HFIN.out, HRJ.out, HKJ.out⟩
              case measure => simp [intOf]; omega
      · have hfe : f1 = f := by rw [HF1.out]; unfold freeS; rw [if_pos hbl]
        have HFE := Lib.hid hfe
        have HBL := Lib.hid hbl
        clear hfe hbl
        go_upto_region 7 with (first
          | (go_at_call 15; refine (refSlots_any (n : Int) _ HI64.out).mono ?_; rw [HSN.out]; rintro e w' ⟨rfl, rfl⟩)
          | (go_at_call 28; refine (refAt_any b o n c k _ (by rw [← HNN.out]; exact hlt) HN.out HCM.out).mono ?_; rintro e w' ⟨rfl, rfl⟩)
          | (go_at_call 27; refine (refBlank_any _ _ _ _ _ HSL1.out (by unfold maxLen; omega)).mono ?_; rw [HBL.out]; rintro e w' ⟨rfl, rfl⟩))
        have HFX := Lib.hid (show FAt wr (w.heap.size + 1) 30 [] f1 by rw [HFE.out]; exact HF.out)
        have HRX := Lib.hid HR.out
        have HKX := Lib.hid HK.out
        clear c47 f47 hF HSL1
        obtain ⟨wx, rfl⟩ : ∃ z, z = wr := ⟨_, rfl⟩
        have hf1l : f1.live.length = 44 := by rw [HF1.out]; unfold freeS; split <;> exact HFIT.out.live
        have hf1c : f1.com = f.com := by rw [HF1.out]; unfold freeS; split <;> rfl
        obtain ⟨R, hRd⟩ : ∃ R, R = readR (slotA xs k) := ⟨_, rfl⟩
        have hR13 : R.2.length = 13 := by rw [hRd]; exact readR_len _
        obtain ⟨B, hB⟩ : ∃ B, B = countsB ((slotsL xs).take k) f1 (slotA xs k) := ⟨_, rfl⟩
        have HRD := Lib.hid hRd
        have HR13 := Lib.hid hR13
        have HF1L := Lib.hid hf1l
        have HF1C := Lib.hid hf1c
        have HB := Lib.hid hB
        have HKW := HKX.out.size
        have hgw : w.heap.size + 1 < wx.heap.size := HFX.out.lt
        clear hRd hR13 hf1l hf1c hB
        cases B
        · have HNX := Lib.hid (show foundL ((slotsL xs).take (k + 1)) = f1 by rw [HST.out]; unfold stepS; rw [← HF1.out, ← HB.out, if_neg (by simp)])
          go_wp2_with (first
            | (refine ld_fnd2 _ HFX.out HF1L.out rfl rfl rfl ?_; simp only [Act.put])
            | (go_at_call 29; refine (refCounts_any _ n c xs f1 k _ HF1L.out (HI.out.keep0 HKX.out) HN.out HCM.out H64.out (by rw [← HNN.out]; exact hlt)).mono ?_; rw [← HRD.out, ← HB.out]; rintro e v2 ⟨rfl, k2⟩; have hA : RecAt (v2.alloc (.cells (ints (zer 13)) 46)) v2.heap.size (zer 13) := heap_alloc_new v2 _; have KA := Lib.hid (k2.alloc (.cells (ints (zer 13)) 46)); have hv2 := k2.size; clear k2)
            | (simp only [zeros13])
            | (refine st_rec _ _ hA (zer_len _) HR13.out rfl rfl rfl rfl ?_; intro v3 t3 k3 s3; simp only [Act.put]; have K3 := Lib.hid (KA.out.trans k3 (by intro x hx; right; simp at hx; omega)); clear hA k3 t3))
          go_roundw
          case rel => exact ⟨k + 1, by omega, by go_num, by rw [HNX.out]; exact HFX.out.keep K3.out (by simp), HRX.out.keep K3.out (by simp), HKX.out.trans0 K3.out⟩
          case measure => simp [intOf]; omega
        · have hco := counts_out HB.out.symm
          rw [← HRD.out, HPL.out] at hco
          obtain ⟨m, hm⟩ := Int.eq_ofNat_of_zero_le (show 0 ≤ (isR R.2).1 by have := isR_many hco.2.1; omega)
          have hmb := isR_many hco.2.1
          have hm4 : 1 ≤ m ∧ m ≤ 4 := by omega
          have hmk : m ≤ k := by have := hco.2.2.1; omega
          have hpm : R.2.getD 2 0 = (m : Int) := by rw [← isR_first hco.2.1, hm]
          obtain ⟨q, hq⟩ : ∃ q, q = R.2.getD 1 0 := ⟨_, rfl⟩
          have hss := hco.2.2.2
          rw [← hq, hm] at hss
          simp only [Int.toNat_natCast] at hss
          have hkn := recs_kinds (by omega) hss
          have hK16 : k ≤ xs.length / 16 := by rw [← HNL.out]; omega
          have HGET := Lib.hid (fun j (hj : j < m) => ahead_get (xs := xs) hK16 hmk hj)
          have HALN := Lib.hid (ahead_len (xs := xs) hK16 hmk)
          obtain ⟨ss, hssd⟩ : ∃ ss, ss = aheadL xs k m := ⟨_, rfl⟩
          have HNX := Lib.hid (show foundL ((slotsL xs).take (k + 1)) = ⟨true, q, liveAll f1.live ss, f1.com + 1, f1.free⟩ by
            rw [HST.out]
            unfold stepS
            rw [← HF1.out, ← HB.out, if_pos rfl, ← HRD.out, ← hq, hm, hssd]
            unfold aheadL
            rw [HF1.out]
            unfold freeS
            split <;> rfl)
          rw [← hssd] at HGET HALN
          replace hkn : ∀ s ∈ ss, 0 ≤ (readR s).2.getD 0 0 ∧ (readR s).2.getD 0 0 < 4 := by rw [hssd]; exact hkn
          have HKND := Lib.hid hkn
          have HPM := Lib.hid hpm
          have HQ := Lib.hid hq
          have hcb := HFIT.out.com
          rw [← HF1C.out] at hcb
          have e2 : IntKind.i64.wrap (f1.com + 1) = f1.com + 1 := by rw [IntKind.wrap_i64]; omega
          have e3 : IntKind.i64.wrap ((k : Int) - (m : Int)) = ((k - m : Nat) : Int) := by rw [IntKind.wrap_i64]; omega
          obtain ⟨cm, hcm⟩ : ∃ cm, cm = f1.com := ⟨_, rfl⟩
          rw [← hcm] at e2
          have HCM1 := Lib.hid hcm
          clear hco hm hmb hpm hq hss hkn hK16 hssd hcb hcm
          go_upto_region 9 with (first
            | (refine ld_fnd2 _ HFX.out HF1L.out rfl rfl rfl ?_; simp only [Act.put])
            | (go_at_call 29; refine (refCounts_any _ n c xs f1 k _ HF1L.out (HI.out.keep0 HKX.out) HN.out HCM.out H64.out (by rw [← HNN.out]; exact hlt)).mono ?_; rw [← HRD.out, ← HB.out]; rintro e v2 ⟨rfl, k2⟩; have hA : RecAt (v2.alloc (.cells (ints (zer 13)) 46)) v2.heap.size (zer 13) := heap_alloc_new v2 _; have KA := Lib.hid (k2.alloc (.cells (ints (zer 13)) 46)); have hv2 := k2.size; clear k2)
            | (simp only [zeros13])
            | (refine st_rec _ _ hA (zer_len _) HR13.out rfl rfl rfl rfl ?_; intro v3 t3 k3 s3; simp only [Act.put]; have K3 := Lib.hid (KA.out.trans k3 (by intro x hx; right; simp at hx; omega)); have T3 := Lib.hid t3; clear hA k3 t3))
          have hF3 := HFX.out.keep K3.out (by simp)
          have hc1 := T3.out.cell 1 (by rw [HR13.out]; decide)
          rw [← HQ.out] at hc1
          have hc2 := T3.out.cell 2 (by rw [HR13.out]; decide)
          rw [HPM.out] at hc2
          have hh1 : v3.cell? ⟨w.heap.size + 1, 0, none⟩ = some (.bool f1.has) := hF3.has
          have hh2 : v3.cell? ⟨w.heap.size + 1, 1, none⟩ = some (.int .i64 f1.seq) := hF3.seq
          have hh3 : v3.cell? ⟨w.heap.size + 1, 46, none⟩ = some (.int .i64 f1.com) := hF3.com HF1L.out
          rw [← HCM1.out] at hh3
          have g1 := hF3.frozen 0
          have g2 := hF3.frozen 1
          have g3 := hF3.frozen 46
          go_region
          have hF5 : FAt ((v3.setCell ⟨w.heap.size + 1, 0, none⟩ (.bool true)).setCell ⟨w.heap.size + 1, 1, none⟩ (.int .i64 q)).drew (w.heap.size + 1) 30 [] ⟨true, q, f1.live, f1.com, f1.free⟩ := (hF3.setHas true).setSeq q
          have hK5 : Keeps [w.heap.size + 1] v3 ((v3.setCell ⟨w.heap.size + 1, 0, none⟩ (.bool true)).setCell ⟨w.heap.size + 1, 1, none⟩ (.int .i64 q)).drew := (((Keeps.refl _ _).setCell (.inl (by simp)) _).setCell (.inl (by simp)) _).drew
          have hgne : w.heap.size + 1 ≠ v2.heap.size := by omega
          have hT5 := T3.out.keep hK5 (by simp; omega)
          have hR5 := (HRX.out.keep K3.out (by simp)).keep hK5 (by simp)
          have K5 := Lib.hid ((HKX.out.trans0 K3.out).trans hK5 (by simp))
          clear hc1 hc2 hh1 hh2 hh3 g1 g2 g3 hF3 hK5 HFX
          generalize ((v3.setCell ⟨w.heap.size + 1, 0, none⟩ (.bool true)).setCell ⟨w.heap.size + 1, 1, none⟩ (.int .i64 q)).drew = w5 at *
          have hh3 : w5.cell? ⟨w.heap.size + 1, 46, none⟩ = some (.int .i64 f1.com) := hF5.com HF1L.out
          rw [← HCM1.out] at hh3
          have g3 := hF5.frozen 46
          go_upto_region 11 with fail
          have hF6 : FAt (w5.setCell ⟨w.heap.size + 1, 46, none⟩ (.int .i64 (cm + 1))) (w.heap.size + 1) 30 [] ⟨true, q, f1.live, cm + 1, f1.free⟩ := hF5.setCom HF1L.out (cm + 1)
          have hK6 : Keeps [w.heap.size + 1] w5 (w5.setCell ⟨w.heap.size + 1, 46, none⟩ (.int .i64 (cm + 1))) := (Keeps.refl _ _).setCell (.inl (by simp)) _
          have hT6 := hT5.keep hK6 (by simp; omega)
          have hR6 := hR5.keep hK6 (by simp)
          have K6 := Lib.hid (K5.out.trans hK6 (by simp))
          clear hh3 g3 hF5 hT5 hR5 hK6
          generalize w5.setCell ⟨w.heap.size + 1, 46, none⟩ (.int .i64 (cm + 1)) = w6 at *
          have hc2 := hT6.cell 2 (by rw [HR13.out]; decide)
          rw [HPM.out] at hc2
          have H6 := Lib.hid hF6
          have R6 := Lib.hid hR6
          clear hF6 hR6 hT6
          go_wp2_with fail
          go_loopw [7] (fun vi wr2 => ∃ (j : Nat), j ≤ m ∧ vi = .int .i64 ((k - m + j : Nat) : Int) ∧ FAt wr2 (w.heap.size + 1) 30 [] ⟨true, q, liveAll f1.live (ss.take j), cm + 1, f1.free⟩ ∧ FAt wr2 w.heap.size 30 [] fnd0 ∧ Keeps [] w wr2) (fun vi _ => k - (intOf vi).toNat)
          case atStart => exact ⟨0, Nat.zero_le _, by simp, H6.out, R6.out, K6.out⟩
          case round =>
            obtain ⟨j, hj, rfl, hFj, hRj, hKj⟩ := hrel
            have HFJ := Lib.hid hFj
            have HRJ := Lib.hid hRj
            have HKJ := Lib.hid hKj
            obtain ⟨i, hij⟩ : ∃ i, i = k - m + j := ⟨_, rfl⟩
            rw [← hij]
            have HIJ := Lib.hid hij
            have hws := hKj.size
            have hgj := hFj.lt
            clear hij hFj hRj hKj
            by_cases hlj : j < m
            · have hikn : i < k := by have := HIJ.out; omega
              have hik : (i : Int) < (k : Int) := by omega
              have e5 : IntKind.i64.wrap ((i : Int) + 1) = ((i + 1 : Nat) : Int) := by rw [IntKind.wrap_i64]; omega
              obtain ⟨b', o', hbo, hsl2⟩ := HSL.out i (by omega) wr HKJ.out
              injection hbo with hbo
              injection hbo with hb1 hb2 hb3
              subst hb1; subst hb2
              obtain ⟨T, hT⟩ : ∃ T, T = readR (slotA xs i) := ⟨_, rfl⟩
              have hT13 : T.2.length = 13 := by rw [hT]; exact readR_len _
              have hgs : ss.getD j [] = slotA xs i := by rw [HGET.out j hlj, HIJ.out]
              have hjl : j < ss.length := by rw [HALN.out]; exact hlj
              have hkdb := HKND.out (slotA xs i) (by rw [← hgs]; exact getD_mem hjl)
              rw [← hT] at hkdb
              obtain ⟨kd, hkd⟩ := Int.eq_ofNat_of_zero_le hkdb.1
              have hk4 : kd < 4 := by omega
              have hk4i : (kd : Int) < 4 := by omega
              have hlv : liveAll f1.live (ss.take (j + 1)) = liveSet (liveAll f1.live (ss.take j)) kd (T.2.drop 2) := by rw [take_snoc hjl, hgs, liveAll_snoc, ← hT, hkd]; simp
              have hll : (liveAll f1.live (ss.take j)).length = 44 := by
                rw [live_map]
                refine liveRecs_len HF1L.out fun r hr => ?_
                obtain ⟨s, hs, rfl⟩ := List.mem_map.1 hr
                have := HKND.out s (List.mem_of_mem_take hs)
                exact ⟨readR_len s, this.1, this.2⟩
              have HLV := Lib.hid hlv
              have HLL := Lib.hid hll
              have HT := Lib.hid hT
              have HT13 := Lib.hid hT13
              have HKD := Lib.hid hkd
              have HSL2 := Lib.hid hsl2
              clear hlv hll hT hT13 hkd hsl2 hgs hjl hkdb
              go_wp2_with (first
                | (go_at_call 28; refine (refAt_any b o n c i _ (by rw [← HNN.out]; omega) HN.out HCM.out).mono ?_; rintro e w' ⟨rfl, rfl⟩)
                | (go_at_call 30; refine (refRead_any _ _ _ (slotA xs i) _ HSL2.out (by unfold maxLen; omega) (HS64.out i)).mono ?_; rw [← HT.out]; rintro e y2 ⟨rfl, k2⟩; have hA : RecAt (y2.alloc (.cells (ints (zer 13)) 46)) y2.heap.size (zer 13) := heap_alloc_new y2 _; have KA := Lib.hid (k2.alloc (.cells (ints (zer 13)) 46)); have hy2 := k2.size; clear k2)
                | (simp only [zeros13])
                | (refine st_rec _ _ hA (zer_len _) HT13.out rfl rfl rfl rfl ?_; intro y3 t3 k3 s3; simp only [Act.put]; have K3 := Lib.hid (KA.out.trans k3 (by intro x hx; right; simp at hx; omega)); have ct0 := t3.cell 0 (by rw [HT13.out]; decide); rw [HKD.out] at ct0; have hFY := HFJ.out.keep K3.out (by simp); clear hA k3)
                | (refine ld_payR _ t3 HT13.out rfl rfl rfl ?_; simp only [Act.put])
                | (refine st_live _ _ hFY HLL.out hk4 (pay_list HT13.out) rfl rfl rfl rfl ?_; intro y4 hFZ k4 s4; simp only [Act.put]; have KZ := Lib.hid ((HKJ.out.trans0 K3.out).trans k4 (by simp)); have RZ := Lib.hid ((HRJ.out.keep K3.out (by simp)).keep k4 (by simp)); have FZ := Lib.hid hFZ; clear k4 hFZ hFY))
              go_roundw
              case rel => exact ⟨j + 1, by omega, by have := HIJ.out; rw [show k - m + (j + 1) = i + 1 by omega]; go_num, by rw [HLV.out]; exact FZ.out, RZ.out, KZ.out⟩
              case measure => simp [intOf]; omega
            · have hjm : j = m := by omega
              have hik : i = k := by have := HIJ.out; omega
              have hFin := HFJ.out
              rw [hjm, ← HALN.out, List.take_length, HCM1.out, ← HNX.out] at hFin
              have HFIN := Lib.hid hFin
              clear hjm hFin
              subst hik
              go_wp2_with fail
              go_roundw
              case rel => exact ⟨i + 1, by omega, by go_num, HFIN.out, HRJ.out, HKJ.out⟩
              case measure => simp [intOf]; omega
    · have hkN : k = N := by omega
      have hff : f = scanR xs := by rw [HFD.out, hkN, List.take_of_length_le (by rw [slotsL_len, HNL.out]; exact Nat.le_refl _)]; rfl
      have hki : (N : Int) ≤ (k : Int) := by omega
      have HFF := Lib.hid hff
      have hll := HFIT.out.live
      have HLL := Lib.hid hll
      clear hkN hff hll
      go_wp2_with (first
        | (go_at_call 15; refine (refSlots_any (n : Int) _ HI64.out).mono ?_; rw [HSN.out]; rintro e w' ⟨rfl, rfl⟩)
        | (refine ld_fnd2 _ hF HLL.out rfl rfl rfl ?_; simp only [Act.put])
        | (refine st_fnd2 _ _ HR.out HL0.out HLL.out rfl rfl rfl rfl ?_; intro u9 h9 k9 s9; simp only [Act.put]))
      rw [← HFF.out]
      exact bodyPost_ret (ret_fnd2 rfl h9 HLL.out rfl) rfl ⟨rfl, HK.out.trans k9 (by simp)⟩

end Go.Proofs.YtnmblemplkdmaaaDoor
