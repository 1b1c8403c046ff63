
/- slot: Commit, IsCommit, the program's and the document's: contracts. No condition but that all are numbers of 64 bits. -/
import Derived.Test.YtihpmnnbiabggaaDoorSr
namespace Go.Proofs.YtihpmnnbiabggaaDoor
open Go.RowKit
set_option maxRecDepth 100000
set_option linter.unusedVariables false

/-- A commit as a record. -/
def commitL (s m : Int) (f : Bool) : List Int := [4, s, m, if f = true then 1 else 0, 0, 0, 0, 0, 0, 0, 0, 0, 0]
def commitR (s m : Int) (f : Bool) : Int × List Int := if (0 ≤ s ∧ s ≤ 4294967295) ∧ 1 ≤ m ∧ m ≤ 4 then (0, commitL s m f) else (2, zer 13)
theorem commitL_len (s m : Int) (f : Bool) : (commitL s m f).length = 13 := rfl
theorem commitR_len (s m : Int) (f : Bool) : (commitR s m f).2.length = 13 := by
  unfold commitR; split <;> rfl
theorem pay_one (m : Int) : payL [m] = [m, 0, 0, 0, 0, 0, 0, 0, 0, 0, 0] := rfl
theorem commit_true (s m : Int) : (4 :: s :: payL [m]).set 3 1 = commitL s m true := rfl
theorem commit_false (s m : Int) : 4 :: s :: payL [m] = commitL s m false := rfl
theorem build0 : (#[.int .i64 0, .int .i64 0, .int .i64 0, .int .i64 0, .int .i64 0, .int .i64 0, .int .i64 0, .int .i64 0, .int .i64 0, .int .i64 0, .int .i64 0, .int .i64 0, .int .i64 0] : Array Value) = ints (zer 13) := rfl

set_option maxHeartbeats 2000000 in
theorem commit_any (s m : Int) (f : Bool) (w : World) (h64 : I64 s) :
    Calls Tryd.prog 17 #[.int .i64 s, .int .i64 m, .bool f] w fun e w' => e = .returned (.tuple #[.agg (ints (commitR s m f).2), .int .i64 (commitR s m f).1]) ∧ Keeps [] w w' := by
  go_enter Tryd.func17, Tryd.ntmps17
  go_upto_region 1 with fail
  simp only [zeros13]
  have h0 : RecAt (w.alloc (.cells (ints (zer 13)) 50)) w.heap.size (zer 13) := heap_alloc_new w _
  have k0 : Keeps [] w (w.alloc (.cells (ints (zer 13)) 50)) := (Keeps.refl _ _).alloc _
  generalize w.alloc (.cells (ints (zer 13)) 50) = w0 at *
  have H0 := Lib.hid h0
  have K0 := Lib.hid k0
  clear h0 k0
  have hp2 := put_two s
  by_cases hs : 0 ≤ s ∧ s ≤ 4294967295
  · rw [if_pos hs] at hp2
    have HP2 := Lib.hid hp2
    clear hp2
    by_cases hm : 1 ≤ m ∧ m ≤ 4
    · have HD := Lib.hid (show decide (1 ≤ m ∧ m ≤ 4) = true by simpa using hm)
      have hfin : commitR s m f = (0, commitL s m f) := if_pos ⟨hs, hm⟩
      have HF := Lib.hid hfin
      clear hfin
      go_wp2_with fail
      refine (halves_any s _ h64).mono ?_
      rw [HP2.out]
      rintro e w1 ⟨a2, c2, rfl, h2, k2, l2, m2⟩
      have H1 := Lib.hid (H0.out.keep k2 (by simp))
      have K1 := Lib.hid (K0.out.trans0 k2)
      clear h2 k2 l2 m2
      go_wp2_with fail
      refine (swithin_any _ _ _ _).mono ?_
      rintro e w' ⟨he, rfl⟩
      rw [HD.out] at he
      subst he
      go_wp2_with fail
      refine (payload_any _ 1 1 [m] _ (ints_new1 _ _ _)).mono ?_
      rintro e w2 ⟨rfl, k2⟩
      have H2 := Lib.hid (H1.out.keep (((Keeps.refl [] w1).alloc _).trans0 k2) (by simp))
      have K2 := Lib.hid (K1.out.trans0 (((Keeps.refl [] w1).alloc _).trans0 k2))
      have hA : RecAt (w2.alloc (.cells (ints (zer 13)) 50)) w2.heap.size (zer 13) := heap_alloc_new w2 _
      have hlt := lt_of_block H2.out
      have hB : RecAt (w2.alloc (.cells (ints (zer 13)) 50)) w.heap.size (zer 13) := heap_alloc_held H2.out _
      have hks := K2.out.size
      have kA : Keeps [] w (w2.alloc (.cells (ints (zer 13)) 50)) := K2.out.alloc _
      have hpl : (4 :: s :: payL [m]).length = 13 := rfl
      have KA := Lib.hid kA
      have HB := Lib.hid hB
      have HPL := Lib.hid hpl
      clear k2 hB kA hpl
      cases f
      · go_wp2_with (first
          | (simp only [zeros13])
          | (refine bd_rec _ _ _ (payL_len _) rfl rfl rfl rfl rfl ?_; simp only [Act.put])
          | (refine st_rec _ _ hA (zer_len _) HPL.out rfl rfl rfl rfl ?_; intro w3 h3 k3 s3; simp only [Act.put]; have bT : RecAt w3 w.heap.size (zer 13) := HB.out.keep k3 (by simp; omega); have K3 := Lib.hid (KA.out.trans k3 (by intro x hx; right; simp at hx; omega)); have hT : RecAt w3 w2.heap.size (commitL s m false) := h3; clear hA k3 s3 h3)
          | (refine ld_rec _ hT (commitL_len _ _ _) rfl rfl rfl ?_; simp only [Act.put])
          | (refine st_rec _ _ bT (zer_len _) (commitL_len _ _ _) rfl rfl rfl rfl ?_; intro w5 h5 k5 s5; simp only [Act.put]))
        rw [HF.out]
        refine bodyPost_ret (ret_rec2 rfl h5 (commitL_len _ _ _) rfl) rfl ⟨rfl, K3.out.trans k5 (by simp)⟩
      · go_wp2_with (first
          | (simp only [zeros13])
          | (refine bd_rec _ _ _ (payL_len _) rfl rfl rfl rfl rfl ?_; simp only [Act.put])
          | (refine st_rec _ _ hA (zer_len _) HPL.out rfl rfl rfl rfl ?_; intro w3 h3 k3 s3; simp only [Act.put]; have b3 : RecAt w3 w.heap.size (zer 13) := HB.out.keep k3 (by simp; omega); have K3 := KA.out.trans k3 (by intro x hx; right; simp at hx; omega); have c3 := h3.cell 3 (by rw [HPL.out]; decide); have f3 := h3.frozen 3; have hT : RecAt (w3.setCell ⟨w2.heap.size, 3, none⟩ (.int .i64 1)) w2.heap.size (commitL s m true) := h3.set 3 1; have kT : Keeps [w2.heap.size] w3 (w3.setCell ⟨w2.heap.size, 3, none⟩ (.int .i64 1)) := (Keeps.refl _ _).setCell (.inl (by simp)) _; have bT := b3.keep kT (by simp; omega); have KT := Lib.hid (K3.trans kT (by intro x hx; right; simp at hx; omega)); clear hA k3 s3 h3 b3 kT K3)
          | (refine ld_rec _ hT (commitL_len _ _ _) rfl rfl rfl ?_; simp only [Act.put])
          | (refine st_rec _ _ bT (zer_len _) (commitL_len _ _ _) rfl rfl rfl rfl ?_; intro w5 h5 k5 s5; simp only [Act.put]))
        rw [HF.out]
        refine bodyPost_ret (ret_rec2 rfl h5 (commitL_len _ _ _) rfl) rfl ⟨rfl, KT.out.trans k5 (by simp)⟩
    · have HD := Lib.hid (show decide (1 ≤ m ∧ m ≤ 4) = false by simpa using hm)
      have hfin : commitR s m f = (2, zer 13) := if_neg (fun h => hm h.2)
      have HF := Lib.hid hfin
      clear hfin
      go_wp2_with fail
      refine (halves_any s _ h64).mono ?_
      rw [HP2.out]
      rintro e w1 ⟨a2, c2, rfl, h2, k2, l2, m2⟩
      have H1 := H0.out.keep k2 (by simp)
      have K1 := Lib.hid (K0.out.trans0 k2)
      clear h2 k2 l2 m2
      go_wp2_with fail
      refine (swithin_any _ _ _ _).mono ?_
      rintro e w' ⟨he, rfl⟩
      rw [HD.out] at he
      subst he
      go_wp2_with (first
        | (simp only [build0])
        | (refine st_rec _ _ H1 (zer_len _) (zer_len 13) rfl rfl rfl rfl ?_; intro w5 h5 k5 s5; simp only [Act.put]))
      rw [HF.out]
      refine bodyPost_ret (ret_rec2 rfl h5 (zer_len _) rfl) rfl ⟨rfl, K1.out.trans k5 (by simp)⟩
  · rw [if_neg hs] at hp2
    have HP2 := Lib.hid hp2
    clear hp2
    have hfin : commitR s m f = (2, zer 13) := if_neg (fun h => hs h.1)
    have HF := Lib.hid hfin
    clear hfin
    go_wp2_with fail
    refine (halves_any s _ h64).mono ?_
    rw [HP2.out]
    rintro e w1 ⟨a2, c2, rfl, h2, k2, l2, m2⟩
    have H1 := H0.out.keep k2 (by simp)
    have K1 := Lib.hid (K0.out.trans0 k2)
    clear h2 k2 l2 m2
    go_wp2_with (first
      | (simp only [build0])
      | (refine st_rec _ _ H1 (zer_len _) (zer_len 13) rfl rfl rfl rfl ?_; intro w5 h5 k5 s5; simp only [Act.put]))
    rw [HF.out]
    refine bodyPost_ret (ret_rec2 rfl h5 (zer_len _) rfl) rfl ⟨rfl, K1.out.trans k5 (by simp)⟩


theorem lit4 (s : Int) : (#[.int .i64 4, .int .i64 s, .int .i64 0, .int .i64 0, .int .i64 0, .int .i64 0, .int .i64 0, .int .i64 0, .int .i64 0, .int .i64 0, .int .i64 0, .int .i64 0, .int .i64 0] : Array Value) = ints (4 :: s :: zer 11) := rfl
theorem right_commit (s m : Int) (f : Bool) (h : 1 ≤ m ∧ m ≤ 4) : rightB (commitL s m f) = decide (0 ≤ s ∧ s ≤ 4294967295) := by
  have h0 : wordB 0 = true := by decide
  have h1 : wordB 1 = true := by decide
  have hm : wordB m = true := by unfold wordB; simp; omega
  unfold rightB commitL
  cases f <;> simp [h0, h1, hm]
theorem commit_64 (s m : Int) (f : Bool) (hs : I64 s) (hm : I64 m) : ∀ x ∈ commitL s m f, I64 x := by
  intro x hx
  have h0 : I64 0 := by unfold I64; omega
  have h1 : I64 1 := by unfold I64; omega
  have h4 : I64 4 := by unfold I64; omega
  simp only [commitL, List.mem_cons, List.not_mem_nil, or_false] at hx
  rcases hx with rfl | rfl | rfl | hx | hx
  · exact h4
  · exact hs
  · exact hm
  · rw [hx]; split <;> assumption
  · have : x = 0 := by
      rcases hx with h | h | h | h | h | h | h | h | h <;> exact h
    rw [this]; exact h0

/-- Is a record a commit, of how many records, and the first one? -/
def isR (l : List Int) : Int × Bool × Bool := if decide (commitR (l.getD 1 0) (l.getD 2 0) (l.getD 3 0 == 1) = (0, l)) = true then (l.getD 2 0, l.getD 3 0 == 1, true) else (0, false, false)
theorem commitR_cases (s m : Int) (f : Bool) : commitR s m f = (2, zer 13) ∨ commitR s m f = (0, commitL s m f) := by
  unfold commitR; split
  · exact .inr rfl
  · exact .inl rfl
theorem results_tmp3' {fn : Func} {t u v : Tmp} (h : fn.results = #[.tmp t, .tmp u, .tmp v]) (tmps : Array Value) (P : Program) (w : World) :
    (results fn tmps).run P w = .ok (.tuple #[tmps.getD t undef, tmps.getD u undef, tmps.getD v undef]) w := by
  simp [results, h]

set_option maxHeartbeats 2000000 in
theorem isCommit_any (l : List Int) (w : World) (hl : l.length = 13) (h64 : ∀ x ∈ l, I64 x) :
    Calls Tryd.prog 25 #[.agg (ints l)] w fun e w' => e = .returned (.tuple #[.int .i64 (isR l).1, .bool (isR l).2.1, .bool (isR l).2.2]) ∧ Keeps [] w w' := by
  have h0 : RecAt (w.alloc (.cells (ints l) 50)) w.heap.size l := heap_alloc_new w _
  have k0 : Keeps [] w (w.alloc (.cells (ints l) 50)) := (Keeps.refl _ _).alloc _
  have c1 := h0.cell 1 (by omega)
  have c2 := h0.cell 2 (by omega)
  have c3 := h0.cell 3 (by omega)
  have hx64 : I64 (l.getD 1 0) := h64 _ (by simp [List.getD, hl])
  obtain ⟨R, hR⟩ : ∃ R, R = isR l := ⟨_, rfl⟩
  rw [← hR]
  unfold isR at hR
  obtain ⟨s, hs⟩ : ∃ s, s = l.getD 1 0 := ⟨_, rfl⟩
  obtain ⟨m, hm⟩ : ∃ m, m = l.getD 2 0 := ⟨_, rfl⟩
  obtain ⟨x, hx⟩ : ∃ x, x = l.getD 3 0 := ⟨_, rfl⟩
  rw [← hs] at c1 hR hx64
  rw [← hm] at c2 hR
  rw [← hx] at c3 hR
  obtain ⟨f, hf⟩ : ∃ f, f = (x == 1) := ⟨_, rfl⟩
  rw [← hf] at hR
  have hf' : (x == 1) = f := hf.symm
  have HR := Lib.hid hR
  have HL := Lib.hid hl
  clear hs hm hx hf hR hl h64
  go_enter Tryd.func25, Tryd.ntmps25
  go_upto_region 1 with fail
  generalize w.alloc (.cells (ints l) 50) = w0 at *
  have H0 := Lib.hid h0
  have K0 := Lib.hid k0
  clear h0 k0
  go_quiet (fail)
  rcases commitR_cases s m f with hc | hc
  · have hfin : R = (0, false, false) := by
      rw [HR.out, if_neg (by rw [hc]; simp)]
    have HF := Lib.hid hfin
    have HC := Lib.hid hc
    clear hfin hc
    go_wp2_with fail
    refine (commit_any s m f _ hx64).mono ?_
    rw [HC.out]
    rintro e w2 ⟨rfl, k2⟩
    have K2 := Lib.hid ((K0.out.drewN _).trans0 k2)
    clear k2
    have hA : RecAt (w2.alloc (.cells (ints (zer 13)) 50)) w2.heap.size (zer 13) := heap_alloc_new w2 _
    have KA := Lib.hid (show Keeps [] w (w2.alloc (.cells (ints (zer 13)) 50)) from K2.out.alloc _)
    have hks := K2.out.size
    go_wp2_with (first
      | (simp only [zeros13])
      | (refine st_rec _ _ hA (zer_len _) (zer_len 13) rfl rfl rfl rfl ?_; intro w3 h3 k3 s3; simp only [Act.put]; have K3 := Lib.hid (KA.out.trans k3 (by intro x hx; right; simp at hx; omega)); clear hA h3 k3 s3))
    go_ret3
    rw [HF.out]
    exact ⟨rfl, K3.out⟩
  · have HC := Lib.hid hc
    clear hc
    go_wp2_with fail
    refine (commit_any s m f _ hx64).mono ?_
    rw [HC.out]
    rintro e w2 ⟨rfl, k2⟩
    have K2 := Lib.hid ((K0.out.drewN _).trans0 k2)
    have H2 := Lib.hid (H0.out.keep (((Keeps.refl [] _).drewN _).trans0 k2) (by simp))
    clear k2
    have hA : RecAt (w2.alloc (.cells (ints (zer 13)) 50)) w2.heap.size (zer 13) := heap_alloc_new w2 _
    have hB := Lib.hid (show RecAt (w2.alloc (.cells (ints (zer 13)) 50)) w.heap.size l from heap_alloc_held H2.out _)
    have KA := Lib.hid (show Keeps [] w (w2.alloc (.cells (ints (zer 13)) 50)) from K2.out.alloc _)
    have hks := K2.out.size
    have hlt := lt_of_block H2.out
    by_cases he : commitL s m f = l
    · have hfin : R = (m, f, true) := by
        rw [HR.out, if_pos (by rw [HC.out, he]; simp)]
      have HF := Lib.hid hfin
      have hd : decide (commitL s m f = l) = true := by simpa using he
      have HD := Lib.hid hd
      clear hfin hd he
      go_wp2_with (first
        | (simp only [zeros13])
        | (refine st_rec _ _ hA (zer_len _) (commitL_len s m f) rfl rfl rfl rfl ?_; intro w3 h3 k3 s3; simp only [Act.put]; have b3 : RecAt w3 w.heap.size l := hB.out.keep k3 (by simp; omega); have K3 := Lib.hid (KA.out.trans k3 (by intro x hx; right; simp at hx; omega)); clear hA k3 s3)
        | (refine ld_rec _ h3 (commitL_len _ _ _) rfl rfl rfl ?_; simp only [Act.put])
        | (refine ld_rec _ b3 HL.out rfl rfl rfl ?_; simp only [Act.put])
        | (refine ne_rec _ _ _ (commitL_len _ _ _) HL.out rfl rfl rfl rfl ?_; simp only [Act.put]; rw [HD.out]))
      go_ret3
      rw [HF.out]
      exact ⟨rfl, K3.out⟩
    · have hfin : R = (0, false, false) := by
        rw [HR.out, if_neg (by rw [HC.out]; simpa using he)]
      have HF := Lib.hid hfin
      have hd : decide (commitL s m f = l) = false := by simpa using he
      have HD := Lib.hid hd
      clear hfin hd he
      go_wp2_with (first
        | (simp only [zeros13])
        | (refine st_rec _ _ hA (zer_len _) (commitL_len s m f) rfl rfl rfl rfl ?_; intro w3 h3 k3 s3; simp only [Act.put]; have b3 : RecAt w3 w.heap.size l := hB.out.keep k3 (by simp; omega); have K3 := Lib.hid (KA.out.trans k3 (by intro x hx; right; simp at hx; omega)); clear hA k3 s3)
        | (refine ld_rec _ h3 (commitL_len _ _ _) rfl rfl rfl ?_; simp only [Act.put])
        | (refine ld_rec _ b3 HL.out rfl rfl rfl ?_; simp only [Act.put])
        | (refine ne_rec _ _ _ (commitL_len _ _ _) HL.out rfl rfl rfl rfl ?_; simp only [Act.put]; rw [HD.out]))
      go_ret3
      rw [HF.out]
      exact ⟨rfl, K3.out⟩

end Go.Proofs.YtihpmnnbiabggaaDoor
