
/- group: Scan: the contract. No condition but lengths, that all are numbers of 64 bits, and the table of the sums. -/
import Derived.Test.YtihpmnnbiabggaaDoorRi
namespace Go.Proofs.YtihpmnnbiabggaaDoor
open Go.RowKit Go.Shelf
set_option linter.unusedVariables false
set_option linter.unusedSimpArgs false
set_option maxRecDepth 100000
attribute [local go_sem] Oper.semAt_some

def lookAll (xs : List Int) (f : Fnd) (ks : List Nat) : Fnd := ks.foldl (lookF xs) f
theorem lookAll_snoc (xs : List Int) (f : Fnd) (ks : List Nat) (k : Nat) : lookAll xs f (ks ++ [k]) = lookF xs (lookAll xs f ks) k := by simp [lookAll]
theorem counts_free (prev : List (List Int)) (f : Fnd) (F : Nat) (s : List Int) : countsB prev { f with free := F } s = countsB prev f s := rfl
theorem look_step (xs : List Int) (f : Fnd) (F k : Nat) : lookF xs { f with free := F } k = { stepS ((slotsL xs).take k) f (slotA xs k) with free := F } := by
  have e : countsB ((slotsL xs).take k) (freeS ((slotsL xs).take k) f (slotA xs k)) (slotA xs k) = countsB ((slotsL xs).take k) f (slotA xs k) := by
    unfold freeS
    split <;> rfl
  unfold lookF stepS
  rw [counts_free, e]
  split
  · rfl
  · unfold freeS
    split <;> rfl
theorem look_upto (xs : List Int) (F : Nat) : ∀ k, k ≤ xs.length / 16 → lookAll xs { fnd0 with free := F } (List.range k) = { foundL ((slotsL xs).take k) with free := F }
  | 0, _ => rfl
  | k + 1, h => by
    rw [List.range_succ, lookAll_snoc, look_upto xs F k (by omega), look_step, take_slots h, foundL_snoc]
theorem look_scan (xs : List Int) : lookAll xs { fnd0 with free := (scanR xs).free } (List.range (xs.length / 16)) = scanR xs := by
  rw [look_upto xs _ _ (Nat.le_refl _), List.take_of_length_le (by rw [slotsL_len]; exact Nat.le_refl _)]
  rfl
theorem lookF_fit {xs : List Int} {f : Fnd} {k : Nat} (hl : f.live.length = 44) : (lookF xs f k).live.length = 44 ∧ f.com ≤ (lookF xs f k).com ∧ (lookF xs f k).com ≤ f.com + 1 := by
  unfold lookF
  split
  · rename_i hc
    unfold countsB at hc
    simp only [Bool.and_eq_true, decide_eq_true_eq] at hc
    exact ⟨liveAll_len (seq := (readR (slotA xs k)).2.getD 1 0) (last := -1) hl (by omega) hc.2.2.2.1, by show f.com ≤ f.com + 1; omega, by show f.com + 1 ≤ f.com + 1; omega⟩
  · exact ⟨hl, Int.le_refl _, by omega⟩
theorem lookAll_fit {xs : List Int} : ∀ (ks : List Nat) {f : Fnd}, f.live.length = 44 → (lookAll xs f ks).live.length = 44 ∧ f.com ≤ (lookAll xs f ks).com ∧ (lookAll xs f ks).com ≤ f.com + ks.length
  | [], f, h => ⟨h, Int.le_refl _, by simp [lookAll]⟩
  | k :: ks, f, h => by
    have h1 := lookF_fit (xs := xs) (k := k) h
    have h2 := lookAll_fit (xs := xs) ks h1.1
    have e : lookAll xs f (k :: ks) = lookAll xs (lookF xs f k) ks := rfl
    rw [e]
    refine ⟨h2.1, by omega, ?_⟩
    have := h2.2.2
    simp only [List.length_cons]
    omega

theorem zeros49 : (#[.slice none 0 0, .bool false, .int .i64 0, .int .i64 0, .int .i64 0, .int .i64 0, .int .i64 0, .int .i64 0, .int .i64 0, .int .i64 0, .int .i64 0, .int .i64 0, .int .i64 0, .int .i64 0, .int .i64 0, .int .i64 0, .int .i64 0, .int .i64 0, .int .i64 0, .int .i64 0, .int .i64 0, .int .i64 0, .int .i64 0, .int .i64 0, .int .i64 0, .int .i64 0, .int .i64 0, .int .i64 0, .int .i64 0, .int .i64 0, .int .i64 0, .int .i64 0, .int .i64 0, .int .i64 0, .int .i64 0, .int .i64 0, .int .i64 0, .int .i64 0, .int .i64 0, .int .i64 0, .int .i64 0, .int .i64 0, .int .i64 0, .int .i64 0, .int .i64 0, .int .i64 0, .int .i64 0, .int .i64 0, .int .i64 0] : Array Value) = ([Value.slice none 0 0] ++ fndC fnd0).toArray := by kernel_rfl
theorem built49 (a : Option Addr) (n c : Nat) : Tryd.prog.built 42 [(0, .slice a n c)] = some (([Value.slice a n c] ++ fndC fnd0).toArray) := by kernel_rfl
section
variable {F : Fence} {n : Nat} {ops : Array Oper} {rest : List Oper} {o : Oper} {a : Act} {w : World} {Q : Exit → Act → World → Prop}
theorem bd_find (x : Operand) {b : Option Addr} {m c : Nat} (hgd : o.guard = none) (ho : o.op = .build 42 #[(0, x)]) (hx : a.eval x = .slice b m c)
    (h : wpList Tryd.prog ops Q rest (a.put o.dst (.agg ([Value.slice b m c] ++ fndC fnd0).toArray)) w) : wpList Tryd.prog ops Q (o :: rest) a w := by
  have e : ((#[(0, x)] : Array (Nat × Operand)).map fun (i, x) => (i, a.eval x)).toList = [(0, .slice b m c)] := by simp [hx]
  refine wpList_plain hgd fun K hK => ?_
  refine wp_build 42 _ ho (by rw [e, built49]; rfl) ?_
  rw [e, built49]
  exact hK _ _ h
theorem head_one {v : Value} (hv : v.oneCell' = true) (f : Fnd) : ([v] ++ fndC f).toArray.all (·.oneCell') = true := all_oneCell_toArray (by
  intro u hu
  rcases List.mem_append.1 hu with hu | hu
  · rw [List.mem_singleton] at hu; rw [hu]; exact hv
  · exact fndC_one f u hu)
theorem st_find (x y : Operand) {g : Nat} {sv sv' : Value} {f f' : Fnd} (hg : FAt w g 42 [sv] f) (hl : f.live.length = 44) (hl' : f'.live.length = 44) (hs : sv'.oneCell' = true) (hgd : o.guard = none) (ho : o.op = .store 42 x y) (hx : a.eval x = .pointer (some ⟨g, 0, none⟩)) (hy : a.eval y = .agg ([sv'] ++ fndC f').toArray)
    (h : ∀ w', FAt w' g 42 [sv'] f' → Keeps [g] w w' → w'.heap.size = w.heap.size → wpList Tryd.prog ops Q rest (a.put o.dst undef) w') : wpList Tryd.prog ops Q (o :: rest) a w :=
  wpList_store_row hgd 42 x y ho g _ hx hy 42 _ hg (by rw [List.size_toArray, List.length_append, fndC_len hl']; exact infoFi) (by simp [fndC_len hl, fndC_len hl']) (head_one hs f')
    (h _ (setRow_heap w g _ _ _ _ hg) ((Keeps.refl _ _).setRowR (.inl (by simp)) _) (by simp))
/-- A whole one is read behind the words' slice; one is read, or written, whole. -/
theorem ld_fnd1 (x : Operand) {g : Nat} {t : TypeId} {sv : Value} {f : Fnd} (hg : FAt w g t [sv] f) (hl : f.live.length = 44) (hgd : Region.wanted o (yielded ops a.tmps) = true) (ho : o.op = .load 28 x) (hx : a.eval x = .pointer (some ⟨g, 1, none⟩))
    (h : wpList Tryd.prog ops Q rest (a.put o.dst (.agg (fndV f))) w) : wpList Tryd.prog ops Q (o :: rest) a w := by
  refine wpList_step fun K hK => ?_
  rw [if_pos hgd]
  exact wp_load_mid 28 x ho g 1 hx (fndC f) _ (fun j v hv => hg.cellAt (by rw [show 1 + j = [sv].length + j by simp, at_behind]; exact hv)) Tryd.underlying28 rfl (by rw [fndC_len hl]; exact infoF1) (hK _ _ h)
theorem ld_fnd (x : Operand) {g : Nat} {f : Fnd} (hg : FAt w g 28 [] f) (hl : f.live.length = 44) (hgd : Region.wanted o (yielded ops a.tmps) = true) (ho : o.op = .load 28 x) (hx : a.eval x = .pointer (some ⟨g, 0, none⟩))
    (h : wpList Tryd.prog ops Q rest (a.put o.dst (.agg (fndV f))) w) : wpList Tryd.prog ops Q (o :: rest) a w := by
  refine wpList_step fun K hK => ?_
  rw [if_pos hgd]
  exact wp_load_row 28 x ho g hx 28 (fndV f) (0, 0) _ hg Tryd.underlying28 rfl (by rw [fndV_size hl]; exact infoF1) (hK _ _ h)
theorem st_fnd (x y : Operand) {g : Nat} {f f' : Fnd} (hg : FAt w g 28 [] f) (hl : f.live.length = 44) (hl' : f'.live.length = 44) (hgd : o.guard = none) (ho : o.op = .store 28 x y) (hx : a.eval x = .pointer (some ⟨g, 0, none⟩)) (hy : a.eval y = .agg (fndV f'))
    (h : ∀ w', FAt w' g 28 [] f' → Keeps [g] w w' → w'.heap.size = w.heap.size → wpList Tryd.prog ops Q rest (a.put o.dst undef) w') : wpList Tryd.prog ops Q (o :: rest) a w :=
  wpList_store_row hgd 28 x y ho g (fndV f') hx hy 28 (fndV f) hg (by rw [fndV_size hl']; exact infoF1) (by rw [fndV_size hl, fndV_size hl']) (fndV_one f')
    (h _ (setRow_heap w g _ _ _ _ hg) ((Keeps.refl _ _).setRowR (.inl (by simp)) _) (by simp))
end
theorem ret_fnd {fn : Func} {p : Tmp} (h : fn.results = #[.cell p 28]) {tmps : Array Value} {w : World} {g : Nat} {f : Fnd} (hg : FAt w g 28 [] f) (hl : f.live.length = 44) (hp : tmps.getD p undef = .pointer (some ⟨g, 0, none⟩)) :
    (results fn tmps).run Tryd.prog w = .ok (.agg (fndV f)) w :=
  results_cell_row h tmps w g 28 (fndV f) (0, 0) _ hp hg Tryd.underlying28 rfl (by rw [fndV_size hl]; exact infoF1)

set_option maxHeartbeats 4000000 in
theorem scan_any (a : Option Addr) (n c : Nat) (xs : List Int) (w : World) (ht : Turns w) (hi : IntsAt w a n xs) (hn : n ≤ c) (hcm : c ≤ maxLen) (h64 : ∀ x ∈ xs, I64 x) :
    Calls Tryd.prog 6 #[.slice a n c] w fun e w' => e = .returned (.agg (fndV (scanR xs))) ∧ Keeps [] w w' := by
  obtain ⟨b, o, hab⟩ : ∃ b o, n < 16 ∨ a = some ⟨b, o, none⟩ := by
    by_cases h : n < 16
    · exact ⟨0, 0, .inl h⟩
    · obtain ⟨b, o, rfl⟩ := hi.addr (by omega)
      exact ⟨b, o, .inr rfl⟩
  have hlen := hi.1
  have hsc := look_scan xs
  rw [← hlen] at hsc
  have hl0 : fnd0.live.length = 44 := by decide
  obtain ⟨F, hF⟩ : ∃ F, F = (scanR xs).free := ⟨_, rfl⟩
  have hFn : F ≤ n / 16 := by rw [hF, hlen]; exact scan_free xs
  rw [← hF] at hsc
  have HI := Lib.hid hi
  have HN := Lib.hid hn
  have HCM := Lib.hid hcm
  have H64 := Lib.hid h64
  have HT := Lib.hid ht
  have HSC := Lib.hid hsc
  have HL0 := Lib.hid hl0
  have HF := Lib.hid hF
  have HLEN := Lib.hid hlen
  clear hi h64 ht hsc hl0 hF hlen
  have h1 : FAt (w.alloc (.cells (fndV fnd0) 28)) w.heap.size 28 [] fnd0 := heap_alloc_new w _
  have k1 : Keeps [] w (w.alloc (.cells (fndV fnd0) 28)) := (Keeps.refl _ _).alloc _
  have s1 : (w.alloc (.cells (fndV fnd0) 28)).heap.size = w.heap.size + 1 := by simp
  refine (callsIn_wide (n := 3)).1 ?_
  refine callsIn_of_wp_marks Tryd.func6 rfl trivial ?_ rfl
  simp only [Tryd.ntmps6, List.size_toArray, List.length_cons, List.length_nil, Nat.reduceAdd, Nat.reduceSub, Array.replicate_succ, Array.replicate_zero, List.push_toArray, List.append_toArray, List.nil_append, List.cons_append]
  refine wpIn_wide.2 ?_
  go_upto_region 1 with fail
  simp only [zeros48]
  generalize w.alloc (.cells (fndV fnd0) 28) = w1 at *
  have h2 : FAt (w1.alloc (.cells ([Value.slice none 0 0] ++ fndC fnd0).toArray 42)) (w.heap.size + 1) 42 [.slice none 0 0] fnd0 := by rw [← s1]; exact heap_alloc_new w1 _
  have h3 : FAt (w1.alloc (.cells ([Value.slice none 0 0] ++ fndC fnd0).toArray 42)) w.heap.size 28 [] fnd0 := heap_alloc_held h1 _
  have k2 := k1.alloc (.cells ([Value.slice none 0 0] ++ fndC fnd0).toArray 42)
  have s2 : (w1.alloc (.cells ([Value.slice none 0 0] ++ fndC fnd0).toArray 42)).heap.size = w.heap.size + 1 + 1 := by simp [s1]
  have H3 := Lib.hid h3
  have K2 := Lib.hid k2
  clear h1 k1 h3 k2
  go_wp2_with (first
    | (refine bd_find _ rfl rfl rfl ?_; simp only [Act.put])
    | (simp only [zeros49])
    | (refine st_find _ _ h2 HL0.out HL0.out rfl rfl rfl rfl rfl ?_; intro u3 h4 k4 s4; simp only [Act.put]; have cv3 := h4.cellAt (i := 0) rfl; have K4 := Lib.hid (K2.out.trans k4 (by simp)); have H4 := Lib.hid h4; have R4 := Lib.hid (H3.out.keep k4 (by simp)); clear h4 k4 h2)
    | (go_at_call 14; refine (free_any _ _ _ xs _ (HI.out.keep0 K4.out) HN.out HCM.out).mono ?_; rw [← HF.out]; rintro e u5 ⟨rfl, k5⟩; have h5 := H4.out.keep k5 (by simp); have cv5 := h5.cellAt (i := 0) rfl; have cf5 : u5.cell? ⟨w.heap.size + 1, 48, none⟩ = some (.int .i64 (fnd0.free : Int)) := h5.free HL0.out; have ff5 := h5.frozen 48; have K5 := Lib.hid (K4.out.trans0 k5); have R5 := Lib.hid (R4.out.keep k5 (by simp)); have H5 := Lib.hid h5; have s5 := k5.size; clear h5 k5 cv3)
    | (go_at_call 15; refine (slots_any _ _ _ _).mono ?_; rintro e u7 ⟨rfl, rfl⟩))
  obtain ⟨bv, hbv⟩ : ∃ bv, bv = Value.agg (Value.slice a n c :: fndC fnd0).toArray := ⟨_, rfl⟩
  rw [← hbv]
  clear hbv cv5 cf5 ff5
  have h6 : FAt (u5.setCell ⟨w.heap.size + 1, 48, none⟩ (.int .i64 (F : Int))) (w.heap.size + 1) 42 [.slice a n c] { fnd0 with free := F } := H5.out.setFree HL0.out F
  have k6 : Keeps [] w (u5.setCell ⟨w.heap.size + 1, 48, none⟩ (.int .i64 (F : Int))) := K5.out.setCell (.inr (by simp)) _
  have r6 : FAt (u5.setCell ⟨w.heap.size + 1, 48, none⟩ (.int .i64 (F : Int))) w.heap.size 28 [] fnd0 := R5.out.keep (F := [w.heap.size + 1]) ((Keeps.refl _ _).setCell (.inl (by simp)) _) (by simp)
  have s6 : (u5.setCell ⟨w.heap.size + 1, 48, none⟩ (.int .i64 (F : Int))).heap.size = u5.heap.size := by simp
  generalize u5.setCell ⟨w.heap.size + 1, 48, none⟩ (.int .i64 (F : Int)) = u6 at *
  have h7 : FAt (u6.alloc (.cells #[.slice a n c] 40)) (w.heap.size + 1) 42 [.slice a n c] { fnd0 with free := F } := heap_alloc_held h6 _
  have r7 : FAt (u6.alloc (.cells #[.slice a n c] 40)) w.heap.size 28 [] fnd0 := heap_alloc_held r6 _
  have k7 := k6.alloc (.cells #[.slice a n c] 40)
  have b7 := Boxed.new u6 40 (.slice a n c)
  have s7 : (u6.alloc (.cells #[.slice a n c] 40)).heap.size = u5.heap.size + 1 := by simp [s6]
  rw [s6] at b7
  have hB : w.heap.size + 1 < u5.heap.size := H5.out.lt
  clear h6 k6 r6 s6 s5
  obtain ⟨B, hBd⟩ : ∃ B, B = u5.heap.size := ⟨_, rfl⟩
  rw [← hBd] at b7 s7 hB ⊢
  clear hBd
  generalize u6.alloc (.cells #[.slice a n c] 40) = u7 at *
  have hfit := fun ks => lookAll_fit (xs := xs) (f := { fnd0 with free := F }) ks HL0.out
  obtain ⟨f0, hf0⟩ : ∃ f0, f0 = ({ fnd0 with free := F } : Fnd) := ⟨_, rfl⟩
  have hcom0 : f0.com = 0 := by rw [hf0]; rfl
  rw [← hf0] at h7 hfit
  have hsc2 := HSC.out
  rw [← hf0] at hsc2
  have HSC2 := Lib.hid hsc2
  have HFIT := Lib.hid hfit
  have HC0 := Lib.hid hcom0
  have hlt : ∀ x : Pl (n / 16), ∀ W, Keeps [] w W → IntsAt W (some ⟨b, o + 16 * x.1, none⟩) 16 (slotA xs x.1) := fun x W hB => by
    have hx := x.2
    obtain rfl := hab.resolve_left (by omega)
    exact (HI.out.keep0 hB).slot hx
  have HLT := Lib.hid hlt
  have hn2 : n ≤ 9223372036854775807 := by unfold maxLen at hcm; omega
  clear hf0 hfit hsc2 hcom0 hlt s1 s2
  refine (wpIn_wide (n := 3)).1 ?_
  refine wpIn_rangeFunc_ownG rfl (by omega) (gf := 22) (lb := #[.pointer (some ⟨B, 0, none⟩)]) rfl trivial (enters_of Tryd.func22 (by kernel_rfl) rfl)
    (slots_stops _ (by omega) B a b o n c hab hn hcm _ b7) box_t (box_b (by omega)) (Below.refl _ _) (fun _ => rfl)
    (fun pre W => ((FAt W (w.heap.size + 1) 42 [.slice a n c] (lookAll xs f0 (pls pre)) ∧ FAt W w.heap.size 28 [] fnd0) ∧ Boxed W B 40 (.slice a n c)) ∧ Keeps [] w W)
    (fun _ _ _ => False)
    (OwnFrom.and (OwnFrom.and (OwnFrom.and (Own.from (block_own _ _ _) _) (Own.from (block_own _ _ _) _)) (Own.from (boxed_own _ _ _) _)) (keeps_own (by omega)))
    (fun _ _ _ _ _ hs _ _ => hs)
    ⟨⟨⟨h7, r7⟩, b7⟩, k7⟩
    (fun x => { tmps := #[.slice a n c, undef, .pointer (some ⟨w.heap.size, 0, none⟩), .pointer (some ⟨w.heap.size + 1, 0, none⟩), .int .i64 (x.1 : Int), .slice (some ⟨b, o + 16 * x.1, none⟩) 16 (c - 16 * x.1), .slice a n c, bv, .pointer (some ⟨w.heap.size + 1, 0, none⟩), .slice a n c, .int .i64 (F : Int), .pointer (some ⟨w.heap.size + 1, 1, none⟩), .pointer (some ⟨w.heap.size + 1, 48, none⟩), .pointer (some ⟨w.heap.size + 1, 0, none⟩), .slice a n c, .func (.func 22) #[] #[.pointer (some ⟨B, 0, none⟩)], .int .i64 (x.1 : Int), .slice (some ⟨b, o + 16 * x.1, none⟩) 16 (c - 16 * x.1), undef, undef, undef, undef, undef], defers := [] }) ?assign ?body ?done ?stop
  case assign =>
    intro l x W K hK
    dsimp only [slotV]
    gi_wp2
    exact hK
  case body =>
    rintro l pre x W ⟨⟨⟨hf, hr⟩, hbx⟩, hkw⟩ hpl
    have hx := x.2
    have hsl := HLT.out x W hkw
    have hfit := HFIT.out (pls pre)
    have hplen : (pls pre).length = pre.length := by simp [pls]
    have hlk := glook_any (w.heap.size + 1) a n c xs (lookAll xs f0 (pls pre)) x.1 _ (c - 16 * x.1) W (HT.out.keep hkw) hf hfit.1 (by rw [hplen, HC0.out] at hfit; omega) (HI.out.keep0 hkw) HN.out HCM.out H64.out hx hsl (by omega)
    rw [← lookAll_snoc, ← pls_snoc] at hlk
    have HLK := Lib.hid hlk
    have HF := Lib.hid hf
    have HR := Lib.hid hr
    have HBX := Lib.hid hbx
    have HKW := Lib.hid hkw
    clear hlk hf hr hbx hkw hfit hsl hplen
    gi_wp2_with (refine ⟨trivial, ?_⟩; gi_at_call 16; refine (CallsIn.inRound l (callsIn_wide.2 HLK.out)).mono ?_; rintro e u8 ⟨⟨v8, rfl⟩, f8, k8⟩)
    have hlB := Boxed.lt HBX.out
    refine ⟨from_keeps1 k8 HF.out, box_keeps k8 hlB (by simp; omega), ⟨⟨f8, HR.out.keep k8 (by simp)⟩, Boxed.keep HBX.out k8 (by simp; omega)⟩, HKW.out.trans k8 (by simp)⟩
  case done =>
    rintro D zs W hD hS ⟨⟨⟨hf, hr⟩, hbx⟩, hkw⟩ hK
    replace hS : pls zs = List.range (n / 16) := hS
    rw [hS, HSC2.out] at hf
    have hl := (HFIT.out (List.range (n / 16))).1
    rw [HSC2.out] at hl
    go_wp2_with (first
      | (refine ld_fnd1 _ hf hl rfl rfl rfl ?_; simp only [Act.put])
      | (refine st_fnd _ _ hr HL0.out hl rfl rfl rfl rfl ?_; intro u9 h9 k9 s9; simp only [Act.put]))
    have hK' := k9.held hK (by simp; omega)
    refine ⟨by simp, .inl ⟨_, _, rfl, run_takeDeferred hK', ?_⟩⟩
    refine ⟨_, ret_fnd rfl (f := scanR xs) (g := w.heap.size) ?_ hl rfl, rfl, keeps_put (hkw.trans k9 (by simp)) (by omega) _ _ hK'⟩
    exact (World.putObj_heap_other (by omega)).trans h9
  case stop =>
    rintro D c pre W _ _ h _
    exact h.elim

end Go.Proofs.YtihpmnnbiabggaaDoor
