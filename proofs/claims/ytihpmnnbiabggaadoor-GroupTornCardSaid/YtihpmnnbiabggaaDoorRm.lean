
/- group: Put: the contract. No condition but lengths, that all are numbers of 64 bits, and the table of the sums. -/
import Derived.Test.YtihpmnnbiabggaaDoorRl
namespace Go.Proofs.YtihpmnnbiabggaaDoor
open Go.RowKit Go.Shelf
set_option linter.unusedVariables false
set_option linter.unusedSimpArgs false
set_option maxRecDepth 100000

/-- What a put hands back. -/
def POut (w w' : World) (r : Int × List Int × Int) (e : Ending) : Prop :=
  ∃ a cc, e = .returned (.tuple #[.slice a r.2.1.length cc, .int .i64 r.2.2, .int .i64 r.1]) ∧ IntsAt w' a r.2.1.length r.2.1 ∧ Keeps [] w w' ∧ r.2.1.length ≤ cc ∧ cc ≤ maxLen
theorem POut.of_nil {w w' : World} {c : Int} (hk : Keeps [] w w') : POut w w' (c, [], 0) (.returned (.tuple #[.slice none 0 0, .int .i64 0, .int .i64 c])) :=
  ⟨none, 0, rfl, IntsAt.nil _, hk, Nat.le_refl _, by unfold maxLen; omega⟩
theorem puts_split {q : Int} : ∀ (rs : List (List Int)) (last : Int), putsOk q last rs = (risingB (last + 1) rs && rightAll q rs)
  | [], _ => rfl
  | r :: rs, last => by
    simp only [putsOk, risingB, rightAll, List.all_cons, puts_split rs]
    rw [show decide (last + 1 ≤ r.getD 0 0) = decide (last < r.getD 0 0) by apply decide_eq_decide.2; omega]
    cases rightB (setSeq q r) <;> cases decide (r.getD 0 0 < 4) <;> cases decide (last < r.getD 0 0) <;> simp [rightAll]
theorem setSeq_commit (q m : Int) (f : Bool) : setSeq q (commitL q m f) = commitL q m f := rfl
theorem laid_commit {q : Int} {first : Bool} {rs : List (List Int)} (hq : 0 ≤ q ∧ q ≤ 4294967295) (hn : 1 ≤ rs.length ∧ rs.length ≤ 4) :
    laidR q (rs ++ [commitL q rs.length first]) = if rightAll q rs = true then (0, (putSlots q first rs).flatten) else (2, []) := by
  have h1 : rightB (commitL q rs.length first) = true := by rw [right_commit q _ first (by omega)]; simpa using hq
  have e1 : rightAll q (rs ++ [commitL q rs.length first]) = rightAll q rs := by
    unfold rightAll
    rw [List.all_append]
    simp [setSeq_commit, h1]
  have e2 : laidW q (rs ++ [commitL q rs.length first]) = (putSlots q first rs).flatten := by
    unfold laidW putSlots
    rw [List.map_append]
    rfl
  unfold laidR
  rw [e1, e2]
theorem gput_not {xs : List Int} {q : Int} {first : Bool} {rs : List (List Int)} (h : ¬ (1 ≤ rs.length ∧ rs.length ≤ 4 ∧ putsOk q (-1) rs = true)) : gputR xs q first rs = (2, [], 0) := if_neg h
theorem putSlots_flat {q : Int} {first : Bool} {rs : List (List Int)} (h : ∀ r ∈ rs, r.length = 13) : (putSlots q first rs).flatten.length = 16 * (rs.length + 1) := by
  rw [flat16 (putSlots_16 h), putSlots_len]
/-- A row of one record. -/
theorem recs_one {w : World} {g : Nat} {l : List Int} (h : RecAt w g l) (hl : l.length = 13) : RecsAt w (some ⟨g, 0, none⟩) 1 [l] := by
  refine ⟨rfl, by simpa using hl, ?_⟩
  have e : [l].flatten = l := by simp
  rw [e]
  refine ⟨by omega, by simp, ?_⟩
  rintro b o s hb hne
  injection hb with hb
  injection hb with e1 e2 e3
  subst e1; subst e2; subst e3
  exact ⟨rfl, fun i hi => by rw [Nat.zero_add]; exact h.cell i hi⟩

theorem parts_two {w : World} {ad : Addr} {n c g : Nat} {rs : List (List Int)} {l : List Int} (h1 : RecsAt w (some ad) n rs) (h2 : RecAt w g l) (hl : l.length = 13) {B : Nat} (hB : w.heap.size = B) :
    PartsR (w.alloc (.cells #[.slice (some ad) n c, .slice (some ⟨g, 0, none⟩) 1 1] 36)) B [rs, [l]] := by
  subst hB
  have hk : Keeps [] w (w.alloc (.cells #[.slice (some ad) n c, .slice (some ⟨g, 0, none⟩) 1 1] 36)) := (Keeps.refl _ _).alloc _
  have hb := heap_alloc_new w (.cells #[.slice (some ad) n c, .slice (some ⟨g, 0, none⟩) 1 1] 36)
  have hn := h1.1
  intro i hi
  obtain rfl | rfl : i = 0 ∨ i = 1 := by simp at hi; omega
  · subst hn
    exact ⟨ad, c, cell_of_block hb rfl, h1.keep0 hk⟩
  · exact ⟨⟨g, 0, none⟩, 1, cell_of_block hb rfl, (recs_one (h2.keep hk (by simp)) hl)⟩

set_option maxHeartbeats 4000000 in
theorem put_any (aw : Option Addr) (nw cw : Nat) (xs : List Int) (q : Int) (first : Bool) (a : Option Addr) (n c : Nat) (rs : List (List Int)) (w : World) (ht : Turns w) (hi : IntsAt w aw nw xs) (hnw : nw ≤ cw) (hcw : cw ≤ maxLen)
    (hr : RecsAt w a n rs) (hn : n ≤ 1000) (hq : I64 q) (h64 : ∀ r ∈ rs, ∀ x ∈ r, I64 x) :
    Calls Tryd.prog 11 #[.slice aw nw cw, .int .i64 q, .bool first, .slice a n c] w fun e w' => POut w w' (gputR xs q first rs) e := by
  have hln := hr.1
  have h13 := hr.2.1
  have hxl := hi.1
  obtain ⟨G, hG⟩ : ∃ G, G = gputR xs q first rs := ⟨_, rfl⟩
  rw [← hG]
  have hcl := commitR_len q (n : Int) first
  obtain ⟨C, hC⟩ : ∃ C, C = commitR q (n : Int) first := ⟨_, rfl⟩
  rw [← hC] at hcl
  have HT := Lib.hid ht
  have HI := Lib.hid hi
  have HR := Lib.hid hr
  have HL := Lib.hid hln
  have H13 := Lib.hid h13
  have HQ := Lib.hid hq
  have H64 := Lib.hid h64
  have HNW := Lib.hid hnw
  have HCW := Lib.hid hcw
  have HG := Lib.hid hG
  have HC := Lib.hid hC
  have HCL := Lib.hid hcl
  have HXL := Lib.hid hxl
  have hN1 := Lib.hid (show n ≤ maxLen by unfold maxLen; omega)
  clear ht hi hr hln h13 hq h64 hnw hcw hG hC hcl hxl
  by_cases h0 : C.1 = 0
  · have hb : (C.1 != 0) = false := by simp [h0]
    have hcond : (0 ≤ q ∧ q ≤ 4294967295) ∧ 1 ≤ (n : Int) ∧ (n : Int) ≤ 4 := by
      rw [HC.out] at h0
      unfold commitR at h0
      split at h0
      · rename_i h; exact h
      · simp at h0
    have hC2 : C.2 = commitL q rs.length first := by
      rw [HC.out]
      unfold commitR
      rw [if_pos hcond, HL.out]
    have hn4 : 1 ≤ n ∧ n ≤ 4 := by omega
    have HQ2 := Lib.hid hcond.1
    have HC2 := Lib.hid hC2
    have HN4 := Lib.hid hn4
    clear h0 hcond hC2 hn4
    cases hri : risingB 0 rs
    · have HRI := Lib.hid hri
      have HF := Lib.hid (show G = (2, [], 0) by rw [HG.out]; exact gput_not (by rw [puts_split, show (-1 : Int) + 1 = 0 from rfl, hri]; simp))
      clear hri
      go_enter Tryd.func11, Tryd.ntmps11
      go_wp2_with (first
        | (go_at_call 17; refine (commit_any q (n : Int) first _ HQ.out).mono ?_; rw [← HC.out]; rintro e u2 ⟨rfl, k2⟩; have hA : RecAt (u2.alloc (.cells (ints (zer 13)) 50)) u2.heap.size (zer 13) := heap_alloc_new u2 _; have KA := Lib.hid (k2.alloc (.cells (ints (zer 13)) 50)); have hu2 := k2.size; clear k2)
        | (simp only [zeros13])
        | (refine st_rec _ _ hA (zer_len _) HCL.out rfl rfl rfl rfl ?_; intro u3 h3 k3 s3; simp only [Act.put]; have K3 := Lib.hid (KA.out.trans k3 (by intro x hx; right; simp at hx; omega)); clear hA k3)
        | (go_at_call 18; refine (rising_any _ _ _ rs _ (HR.out.keep0 K3.out) hN1.out).mono ?_; rw [HRI.out]; rintro e u4 ⟨rfl, k4⟩; have h4 := h3.keep k4 (by simp); have K4 := Lib.hid (K3.out.trans0 k4); clear k4 h3)
        | (refine ld_rec _ h4 HCL.out rfl rfl rfl ?_; simp only [Act.put])
        | (refine bs_rec _ HCL.out rfl rfl rfl ?_; simp only [Act.put]; have K5 := Lib.hid (K4.out.alloc (.cells (ints C.2) 50)); have hR5 : RecAt (u4.alloc (.cells (ints C.2) 50)) u4.heap.size C.2 := heap_alloc_new u4 _; have s5 : (u4.alloc (.cells (ints C.2) 50)).heap.size = u4.heap.size + 1 := World.size_alloc _ _; generalize hu5 : u4.alloc (.cells (ints C.2) 50) = u5 at *; have R5 := Lib.hid hR5; clear hR5 hu5)
        | (go_at_call 20; (refine (concatR_any _ 2 2 [rs, [C.2]] _ (parts_two (HR.out.keep0 K5.out) R5.out HCL.out s5) rfl ys (by rw [HYS.out]; simp) H13C.out (by rw [HYL.out]; omega) (by rw [HYL.out]; have := HN4.out; omega) (by omega)).mono ?_); rw [HYL.out]; rintro e u6 ⟨A6, c6, rfl, r6, -, -, k6⟩; have K6 := Lib.hid ((K5.out.alloc _).trans0 k6); have R6 := Lib.hid r6; clear r6 k6)
        | (go_at_call 19; refine (laid_any q A6 (n + 1) c6 ys _ (HT.out.keep K6.out) R6.out (by have := HN4.out; omega) HQ.out H64C.out).mono ?_; rw [HLC.out]; rintro e u7 ⟨A7, c7, rfl, i7, k7, l7, m7⟩; have K7 := Lib.hid (K6.out.trans0 k7); have I7 := Lib.hid i7; have L7 := Lib.hid (And.intro l7 m7); (try rw [HMM.out]); clear i7 k7 l7 m7)
        | (go_at_call 14; refine (free_any _ _ _ xs _ (HI.out.keep0 K7.out) HNW.out HCW.out).mono ?_; rw [← HFR.out]; rintro e u8 ⟨rfl, k8⟩; have K8 := Lib.hid (K7.out.trans0 k8); have I8 := Lib.hid (I7.out.keep0 k8); clear k8)
        | (go_at_call 7; refine (Slots_any (nw : Int) _ HI64.out).mono ?_; rw [HS1.out]; rintro e u9 ⟨rfl, rfl⟩)
        | (go_at_call 7; refine (Slots_any (M : Int) _ HI65.out).mono ?_; rw [HS2.out]; rintro e u9 ⟨rfl, rfl⟩))
      go_ret3
      rw [HF.out]
      exact POut.of_nil K4.out
    · have HRI := Lib.hid hri
      obtain ⟨⟨b, o, s⟩, rfl⟩ : ∃ ad, a = some ad := by
        rcases a with _ | ad
        · have h1 := HR.out.2.2.2.1 rfl
          have h2 := flat13 H13.out
          rw [h1, ← HL.out] at h2
          have := HN4.out
          simp at h2; omega
        · exact ⟨ad, rfl⟩
      have hlc := laid_commit (first := first) HQ2.out (by rw [← HL.out]; exact HN4.out)
      rw [← HC2.out] at hlc
      have h13c : ∀ r ∈ rs ++ [C.2], r.length = 13 := by
        intro r hr
        rcases List.mem_append.1 hr with hr | hr
        · exact H13.out r hr
        · rw [List.mem_singleton] at hr; rw [hr]; exact HCL.out
      have h64c : ∀ r ∈ rs ++ [C.2], ∀ x ∈ r, I64 x := by
        intro r hr
        rcases List.mem_append.1 hr with hr | hr
        · exact H64.out r hr
        · rw [List.mem_singleton] at hr; rw [hr, HC2.out]; exact commit_64 q _ first HQ.out (by rw [← HL.out]; unfold I64; omega)
      obtain ⟨ys, hys⟩ : ∃ ys, ys = rs ++ [C.2] := ⟨_, rfl⟩
      have hysl : ys.length = n + 1 := by rw [hys, HL.out]; simp
      rw [← hys] at hlc h13c h64c
      have HYS := Lib.hid hys
      have HYL := Lib.hid hysl
      have H13C := Lib.hid h13c
      have H64C := Lib.hid h64c
      clear hri hys hysl h13c h64c
      cases hra : rightAll q rs
      · have HRA := Lib.hid hra
        have HLC := Lib.hid (show laidR q ys = (2, []) by rw [hlc, if_neg (by simp [hra])])
        have HF := Lib.hid (show G = (2, [], 0) by rw [HG.out]; exact gput_not (by rw [puts_split, hra]; simp))
        clear hra hlc
        go_enter Tryd.func11, Tryd.ntmps11
        go_wp2_with (first
        | (go_at_call 17; refine (commit_any q (n : Int) first _ HQ.out).mono ?_; rw [← HC.out]; rintro e u2 ⟨rfl, k2⟩; have hA : RecAt (u2.alloc (.cells (ints (zer 13)) 50)) u2.heap.size (zer 13) := heap_alloc_new u2 _; have KA := Lib.hid (k2.alloc (.cells (ints (zer 13)) 50)); have hu2 := k2.size; clear k2)
        | (simp only [zeros13])
        | (refine st_rec _ _ hA (zer_len _) HCL.out rfl rfl rfl rfl ?_; intro u3 h3 k3 s3; simp only [Act.put]; have K3 := Lib.hid (KA.out.trans k3 (by intro x hx; right; simp at hx; omega)); clear hA k3)
        | (go_at_call 18; refine (rising_any _ _ _ rs _ (HR.out.keep0 K3.out) hN1.out).mono ?_; rw [HRI.out]; rintro e u4 ⟨rfl, k4⟩; have h4 := h3.keep k4 (by simp); have K4 := Lib.hid (K3.out.trans0 k4); clear k4 h3)
        | (refine ld_rec _ h4 HCL.out rfl rfl rfl ?_; simp only [Act.put])
        | (refine bs_rec _ HCL.out rfl rfl rfl ?_; simp only [Act.put]; have K5 := Lib.hid (K4.out.alloc (.cells (ints C.2) 50)); have hR5 : RecAt (u4.alloc (.cells (ints C.2) 50)) u4.heap.size C.2 := heap_alloc_new u4 _; have s5 : (u4.alloc (.cells (ints C.2) 50)).heap.size = u4.heap.size + 1 := World.size_alloc _ _; generalize hu5 : u4.alloc (.cells (ints C.2) 50) = u5 at *; have R5 := Lib.hid hR5; clear hR5 hu5)
        | (go_at_call 20; refine (concatR_any _ 2 2 [rs, [C.2]] _ (parts_two (HR.out.keep0 K5.out) R5.out HCL.out s5) rfl ys (by rw [HYS.out]; simp) H13C.out (by rw [HYL.out]; omega) (by rw [HYL.out]; have := HN4.out; omega) (by omega)).mono ?_; rw [HYL.out]; rintro e u6 ⟨A6, c6, rfl, r6, -, -, k6⟩; have K6 := Lib.hid ((K5.out.alloc _).trans0 k6); have R6 := Lib.hid r6; clear r6 k6)
        | (go_at_call 19; refine (laid_any q A6 (n + 1) c6 ys _ (HT.out.keep K6.out) R6.out (by have := HN4.out; omega) HQ.out H64C.out).mono ?_; rw [HLC.out]; rintro e u7 ⟨A7, c7, rfl, i7, k7, l7, m7⟩; have K7 := Lib.hid (K6.out.trans0 k7); have I7 := Lib.hid i7; have L7 := Lib.hid (And.intro l7 m7); (try rw [HMM.out]); clear i7 k7 l7 m7)
        | (go_at_call 14; refine (free_any _ _ _ xs _ (HI.out.keep0 K7.out) HNW.out HCW.out).mono ?_; rw [← HFR.out]; rintro e u8 ⟨rfl, k8⟩; have K8 := Lib.hid (K7.out.trans0 k8); have I8 := Lib.hid (I7.out.keep0 k8); clear k8)
        | (go_at_call 7; refine (Slots_any (nw : Int) _ HI64.out).mono ?_; rw [HS1.out]; rintro e u9 ⟨rfl, rfl⟩)
        | (go_at_call 7; refine (Slots_any (M : Int) _ HI65.out).mono ?_; rw [HS2.out]; rintro e u9 ⟨rfl, rfl⟩))
        go_ret3
        rw [HF.out]
        exact POut.of_nil K7.out
      · have HRA := Lib.hid hra
        have HLC := Lib.hid (show laidR q ys = (0, (putSlots q first rs).flatten) by rw [hlc, if_pos hra])
        have hfl := putSlots_flat (q := q) (first := first) H13.out
        rw [← HL.out] at hfl
        obtain ⟨P, hP⟩ : ∃ P, P = (putSlots q first rs).flatten := ⟨_, rfl⟩
        rw [← hP] at HLC hfl
        have hG2 : G = if (scanR xs).free + n + 1 ≤ nw / 16 then (0, P, 16 * ((scanR xs).free : Int)) else (4, [], 0) := by
          rw [HG.out, hP, HL.out, HXL.out]
          unfold gputR
          rw [if_pos ⟨by rw [← HL.out]; exact HN4.out.1, by rw [← HL.out]; exact HN4.out.2, by rw [puts_split, show (-1 : Int) + 1 = 0 from rfl, HRI.out, HRA.out]; rfl⟩]
        have hfr := scan_free xs
        rw [← HXL.out] at hfr
        obtain ⟨F, hF⟩ : ∃ F, F = (scanR xs).free := ⟨_, rfl⟩
        rw [← hF] at hG2 hfr
        have HFR := Lib.hid hF
        have HFL := Lib.hid hfl
        have HCWx := HCW.out
        have HNWx := HNW.out
        unfold maxLen at HCWx
        have hs1 := slotsI_nat nw
        obtain ⟨M, hM⟩ : ∃ M, M = P.length := ⟨_, rfl⟩
        obtain ⟨M2, hM2⟩ : ∃ M2, M2 = n + 1 := ⟨_, rfl⟩
        have hs2 := slotsI_nat M
        rw [hM, hfl, show 16 * (n + 1) / 16 = n + 1 by omega, ← hfl, ← hM, ← hM2] at hs2
        obtain ⟨N, hN⟩ : ∃ N, N = nw / 16 := ⟨_, rfl⟩
        rw [← hN] at hG2 hfr hs1
        have hNb : N ≤ 576460752303423488 := by omega
        have e1 : IntKind.i64.wrap ((N : Int) - (F : Int)) = (N : Int) - F := by rw [IntKind.wrap_i64]; omega
        have e2 : IntKind.i64.wrap ((F : Int) * 16) = 16 * (F : Int) := by rw [IntKind.wrap_i64]; omega
        have HS1 := Lib.hid hs1
        have HS2 := Lib.hid hs2
        have HI64 := Lib.hid (show I64 (nw : Int) by unfold I64; omega)
        have HI65 := Lib.hid (show I64 (M : Int) by rw [hM, hfl]; unfold I64; omega)
        have HMM := Lib.hid hM.symm
        clear hra hlc hP hF hfl hs1 hs2 HCWx HNWx hN hM
        by_cases hroom : F + n + 1 ≤ N
        · have d1 : decide ((N : Int) - (F : Int) < (M2 : Int)) = false := by rw [decide_eq_false_iff_not]; omega
          have HF := Lib.hid (show G = (0, P, 16 * (F : Int)) by rw [hG2, if_pos hroom])
          clear hG2 hroom hM2
          go_enter Tryd.func11, Tryd.ntmps11
          go_wp2_with (first
        | (go_at_call 17; refine (commit_any q (n : Int) first _ HQ.out).mono ?_; rw [← HC.out]; rintro e u2 ⟨rfl, k2⟩; have hA : RecAt (u2.alloc (.cells (ints (zer 13)) 50)) u2.heap.size (zer 13) := heap_alloc_new u2 _; have KA := Lib.hid (k2.alloc (.cells (ints (zer 13)) 50)); have hu2 := k2.size; clear k2)
        | (simp only [zeros13])
        | (refine st_rec _ _ hA (zer_len _) HCL.out rfl rfl rfl rfl ?_; intro u3 h3 k3 s3; simp only [Act.put]; have K3 := Lib.hid (KA.out.trans k3 (by intro x hx; right; simp at hx; omega)); clear hA k3)
        | (go_at_call 18; refine (rising_any _ _ _ rs _ (HR.out.keep0 K3.out) hN1.out).mono ?_; rw [HRI.out]; rintro e u4 ⟨rfl, k4⟩; have h4 := h3.keep k4 (by simp); have K4 := Lib.hid (K3.out.trans0 k4); clear k4 h3)
        | (refine ld_rec _ h4 HCL.out rfl rfl rfl ?_; simp only [Act.put])
        | (refine bs_rec _ HCL.out rfl rfl rfl ?_; simp only [Act.put]; have K5 := Lib.hid (K4.out.alloc (.cells (ints C.2) 50)); have hR5 : RecAt (u4.alloc (.cells (ints C.2) 50)) u4.heap.size C.2 := heap_alloc_new u4 _; have s5 : (u4.alloc (.cells (ints C.2) 50)).heap.size = u4.heap.size + 1 := World.size_alloc _ _; generalize hu5 : u4.alloc (.cells (ints C.2) 50) = u5 at *; have R5 := Lib.hid hR5; clear hR5 hu5)
        | (go_at_call 20; refine (concatR_any _ 2 2 [rs, [C.2]] _ (parts_two (HR.out.keep0 K5.out) R5.out HCL.out s5) rfl ys (by rw [HYS.out]; simp) H13C.out (by rw [HYL.out]; omega) (by rw [HYL.out]; have := HN4.out; omega) (by omega)).mono ?_; rw [HYL.out]; rintro e u6 ⟨A6, c6, rfl, r6, -, -, k6⟩; have K6 := Lib.hid ((K5.out.alloc _).trans0 k6); have R6 := Lib.hid r6; clear r6 k6)
        | (go_at_call 19; refine (laid_any q A6 (n + 1) c6 ys _ (HT.out.keep K6.out) R6.out (by have := HN4.out; omega) HQ.out H64C.out).mono ?_; rw [HLC.out]; rintro e u7 ⟨A7, c7, rfl, i7, k7, l7, m7⟩; have K7 := Lib.hid (K6.out.trans0 k7); have I7 := Lib.hid i7; have L7 := Lib.hid (And.intro l7 m7); (try rw [HMM.out]); clear i7 k7 l7 m7)
        | (go_at_call 14; refine (free_any _ _ _ xs _ (HI.out.keep0 K7.out) HNW.out HCW.out).mono ?_; rw [← HFR.out]; rintro e u8 ⟨rfl, k8⟩; have K8 := Lib.hid (K7.out.trans0 k8); have I8 := Lib.hid (I7.out.keep0 k8); clear k8)
        | (go_at_call 7; refine (Slots_any (nw : Int) _ HI64.out).mono ?_; rw [HS1.out]; rintro e u9 ⟨rfl, rfl⟩)
        | (go_at_call 7; refine (Slots_any (M : Int) _ HI65.out).mono ?_; rw [HS2.out]; rintro e u9 ⟨rfl, rfl⟩))
          go_ret3
          rw [HF.out]
          exact ⟨A7, c7, by show _ = Ending.returned (.tuple #[.slice A7 P.length c7, _, _]); rw [HMM.out]; rfl, by show IntsAt _ A7 P.length P; exact I8.out, K8.out, L7.out.1, L7.out.2⟩
        · have d1 : decide ((N : Int) - (F : Int) < (M2 : Int)) = true := by rw [decide_eq_true_iff]; omega
          have HF := Lib.hid (show G = (4, [], 0) by rw [hG2, if_neg hroom])
          clear hG2 hroom hM2
          go_enter Tryd.func11, Tryd.ntmps11
          go_wp2_with (first
        | (go_at_call 17; refine (commit_any q (n : Int) first _ HQ.out).mono ?_; rw [← HC.out]; rintro e u2 ⟨rfl, k2⟩; have hA : RecAt (u2.alloc (.cells (ints (zer 13)) 50)) u2.heap.size (zer 13) := heap_alloc_new u2 _; have KA := Lib.hid (k2.alloc (.cells (ints (zer 13)) 50)); have hu2 := k2.size; clear k2)
        | (simp only [zeros13])
        | (refine st_rec _ _ hA (zer_len _) HCL.out rfl rfl rfl rfl ?_; intro u3 h3 k3 s3; simp only [Act.put]; have K3 := Lib.hid (KA.out.trans k3 (by intro x hx; right; simp at hx; omega)); clear hA k3)
        | (go_at_call 18; refine (rising_any _ _ _ rs _ (HR.out.keep0 K3.out) hN1.out).mono ?_; rw [HRI.out]; rintro e u4 ⟨rfl, k4⟩; have h4 := h3.keep k4 (by simp); have K4 := Lib.hid (K3.out.trans0 k4); clear k4 h3)
        | (refine ld_rec _ h4 HCL.out rfl rfl rfl ?_; simp only [Act.put])
        | (refine bs_rec _ HCL.out rfl rfl rfl ?_; simp only [Act.put]; have K5 := Lib.hid (K4.out.alloc (.cells (ints C.2) 50)); have hR5 : RecAt (u4.alloc (.cells (ints C.2) 50)) u4.heap.size C.2 := heap_alloc_new u4 _; have s5 : (u4.alloc (.cells (ints C.2) 50)).heap.size = u4.heap.size + 1 := World.size_alloc _ _; generalize hu5 : u4.alloc (.cells (ints C.2) 50) = u5 at *; have R5 := Lib.hid hR5; clear hR5 hu5)
        | (go_at_call 20; refine (concatR_any _ 2 2 [rs, [C.2]] _ (parts_two (HR.out.keep0 K5.out) R5.out HCL.out s5) rfl ys (by rw [HYS.out]; simp) H13C.out (by rw [HYL.out]; omega) (by rw [HYL.out]; have := HN4.out; omega) (by omega)).mono ?_; rw [HYL.out]; rintro e u6 ⟨A6, c6, rfl, r6, -, -, k6⟩; have K6 := Lib.hid ((K5.out.alloc _).trans0 k6); have R6 := Lib.hid r6; clear r6 k6)
        | (go_at_call 19; refine (laid_any q A6 (n + 1) c6 ys _ (HT.out.keep K6.out) R6.out (by have := HN4.out; omega) HQ.out H64C.out).mono ?_; rw [HLC.out]; rintro e u7 ⟨A7, c7, rfl, i7, k7, l7, m7⟩; have K7 := Lib.hid (K6.out.trans0 k7); have I7 := Lib.hid i7; have L7 := Lib.hid (And.intro l7 m7); (try rw [HMM.out]); clear i7 k7 l7 m7)
        | (go_at_call 14; refine (free_any _ _ _ xs _ (HI.out.keep0 K7.out) HNW.out HCW.out).mono ?_; rw [← HFR.out]; rintro e u8 ⟨rfl, k8⟩; have K8 := Lib.hid (K7.out.trans0 k8); have I8 := Lib.hid (I7.out.keep0 k8); clear k8)
        | (go_at_call 7; refine (Slots_any (nw : Int) _ HI64.out).mono ?_; rw [HS1.out]; rintro e u9 ⟨rfl, rfl⟩)
        | (go_at_call 7; refine (Slots_any (M : Int) _ HI65.out).mono ?_; rw [HS2.out]; rintro e u9 ⟨rfl, rfl⟩))
          go_ret3
          rw [HF.out]
          exact POut.of_nil K8.out
  · have hb : (C.1 != 0) = true := by simp [h0]
    have hF : G = (2, [], 0) := by
      rw [HG.out]
      refine gput_not ?_
      rintro ⟨h1, h2, h3⟩
      refine h0 ?_
      have hq := puts_seq H13.out h1 h3
      have := HL.out
      rw [HC.out]
      unfold commitR
      rw [if_pos ⟨hq, by omega⟩]
    have HF := Lib.hid hF
    clear h0 hF
    go_enter Tryd.func11, Tryd.ntmps11
    go_wp2_with (first
        | (go_at_call 17; refine (commit_any q (n : Int) first _ HQ.out).mono ?_; rw [← HC.out]; rintro e u2 ⟨rfl, k2⟩; have hA : RecAt (u2.alloc (.cells (ints (zer 13)) 50)) u2.heap.size (zer 13) := heap_alloc_new u2 _; have KA := Lib.hid (k2.alloc (.cells (ints (zer 13)) 50)); have hu2 := k2.size; clear k2)
        | (simp only [zeros13])
        | (refine st_rec _ _ hA (zer_len _) HCL.out rfl rfl rfl rfl ?_; intro u3 h3 k3 s3; simp only [Act.put]; have K3 := Lib.hid (KA.out.trans k3 (by intro x hx; right; simp at hx; omega)); clear hA k3)
        | (go_at_call 18; refine (rising_any _ _ _ rs _ (HR.out.keep0 K3.out) hN1.out).mono ?_; rw [HRI.out]; rintro e u4 ⟨rfl, k4⟩; have h4 := h3.keep k4 (by simp); have K4 := Lib.hid (K3.out.trans0 k4); clear k4 h3)
        | (refine ld_rec _ h4 HCL.out rfl rfl rfl ?_; simp only [Act.put])
        | (refine bs_rec _ HCL.out rfl rfl rfl ?_; simp only [Act.put]; have K5 := Lib.hid (K4.out.alloc (.cells (ints C.2) 50)); have hR5 : RecAt (u4.alloc (.cells (ints C.2) 50)) u4.heap.size C.2 := heap_alloc_new u4 _; have s5 : (u4.alloc (.cells (ints C.2) 50)).heap.size = u4.heap.size + 1 := World.size_alloc _ _; generalize hu5 : u4.alloc (.cells (ints C.2) 50) = u5 at *; have R5 := Lib.hid hR5; clear hR5 hu5)
        | (go_at_call 20; refine (concatR_any _ 2 2 [rs, [C.2]] _ (parts_two (HR.out.keep0 K5.out) R5.out HCL.out s5) rfl ys (by rw [HYS.out]; simp) H13C.out (by rw [HYL.out]; omega) (by rw [HYL.out]; have := HN4.out; omega) (by omega)).mono ?_; rw [HYL.out]; rintro e u6 ⟨A6, c6, rfl, r6, -, -, k6⟩; have K6 := Lib.hid ((K5.out.alloc _).trans0 k6); have R6 := Lib.hid r6; clear r6 k6)
        | (go_at_call 19; refine (laid_any q A6 (n + 1) c6 ys _ (HT.out.keep K6.out) R6.out (by have := HN4.out; omega) HQ.out H64C.out).mono ?_; rw [HLC.out]; rintro e u7 ⟨A7, c7, rfl, i7, k7, l7, m7⟩; have K7 := Lib.hid (K6.out.trans0 k7); have I7 := Lib.hid i7; have L7 := Lib.hid (And.intro l7 m7); (try rw [HMM.out]); clear i7 k7 l7 m7)
        | (go_at_call 14; refine (free_any _ _ _ xs _ (HI.out.keep0 K7.out) HNW.out HCW.out).mono ?_; rw [← HFR.out]; rintro e u8 ⟨rfl, k8⟩; have K8 := Lib.hid (K7.out.trans0 k8); have I8 := Lib.hid (I7.out.keep0 k8); clear k8)
        | (go_at_call 7; refine (Slots_any (nw : Int) _ HI64.out).mono ?_; rw [HS1.out]; rintro e u9 ⟨rfl, rfl⟩)
        | (go_at_call 7; refine (Slots_any (M : Int) _ HI65.out).mono ?_; rw [HS2.out]; rintro e u9 ⟨rfl, rfl⟩))
    go_ret3
    rw [HF.out]
    exact POut.of_nil K3.out

end Go.Proofs.YtihpmnnbiabggaaDoor
