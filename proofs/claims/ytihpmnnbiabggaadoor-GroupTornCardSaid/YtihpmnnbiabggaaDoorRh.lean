
/- group: the records of a commit that counts are taken: the contract. No condition but that all are as many numbers, Kinds below four, and that no count wraps. -/
import Derived.Test.YtihpmnnbiabggaaDoorRg
import Derived.Deep.CutRange
namespace Go.Proofs.YtihpmnnbiabggaaDoor
open Go.RowKit Go.Shelf
set_option linter.unusedVariables false
set_option maxRecDepth 100000

theorem liveRecs_snoc (live : List Int) (rs : List (List Int)) (r : List Int) : liveRecs live (rs ++ [r]) = liveSet (liveRecs live rs) (r.getD 0 0).toNat (r.drop 2) := by
  induction rs generalizing live with
  | nil => rfl
  | cons s rs ih => exact ih _
theorem take_snoc {rs : List (List Int)} {i : Nat} (h : i < rs.length) : rs.take (i + 1) = rs.take i ++ [rs.getD i []] := by
  rw [List.take_add_one, List.getElem?_eq_getElem h]
  simp [List.getD, h]
theorem liveRecs_len {live : List Int} (hl : live.length = 44) : ∀ {rs : List (List Int)}, (∀ r ∈ rs, r.length = 13 ∧ 0 ≤ r.getD 0 0 ∧ r.getD 0 0 < 4) → (liveRecs live rs).length = 44
  | [], _ => hl
  | r :: rs, h => by
    have hr := h r (by simp)
    exact liveRecs_len (liveSet_len hl (by omega) (by simp [hr.1])) (fun t ht => h t (List.mem_cons_of_mem _ ht))
theorem pay_list {r : List Int} (h : r.length = 13) : (r.drop 2).length = 11 := by simp [h]
theorem RecAt.payRange {w : World} {g : Nat} {l : List Int} (h : RecAt w g l) (hl : l.length = 13) : w.rangeAt g 2 ((l.drop 2).map (.int .i64)) := fun j v hv => by
  have hj := (List.getElem?_eq_some_iff.1 hv).1
  simp [hl] at hj
  rw [map_get (by simp [hl]; omega)] at hv
  injection hv with hv
  rw [← hv, h.cell (2 + j) (by omega)]
  simp [List.getD]

set_option maxHeartbeats 4000000 in
theorem count_any (g : Nat) (sv : Value) (f : Fnd) (q : Int) (a : Option Addr) (n c : Nat) (rs : List (List Int)) (w : World) (hf : FAt w g 42 [sv] f) (hl : f.live.length = 44) (hr : RecsAt w a n rs) (hag : ∀ b o s, a = some ⟨b, o, s⟩ → b ≠ g) (hn : n ≤ maxLen)
    (hk : ∀ r ∈ rs, 0 ≤ r.getD 0 0 ∧ r.getD 0 0 < 4) (hc : 0 ≤ f.com ∧ f.com < 9223372036854775807) :
    Calls Tryd.prog 29 #[.pointer (some ⟨g, 0, none⟩), .int .i64 q, .slice a n c] w fun e w' => (∃ v, e = .returned v) ∧ FAt w' g 42 [sv] ⟨true, q, liveRecs f.live rs, f.com + 1, f.free⟩ ∧ Keeps [g] w w' := by
  have hln := hr.1
  have h13 := hr.2.1
  unfold maxLen at hn
  have c1 : w.cell? ⟨g, 1, none⟩ = some (.bool f.has) := hf.has
  have c2 : w.cell? ⟨g, 2, none⟩ = some (.int .i64 f.seq) := hf.seq
  have c3 : w.cell? ⟨g, 47, none⟩ = some (.int .i64 f.com) := hf.com hl
  have f1 := hf.frozen 1
  have f2 := hf.frozen 2
  have f3 := hf.frozen 47
  have hF3 : FAt (((w.setCell ⟨g, 1, none⟩ (.bool true)).setCell ⟨g, 2, none⟩ (.int .i64 q)).setCell ⟨g, 47, none⟩ (.int .i64 (f.com + 1))) g 42 [sv] ⟨true, q, f.live, f.com + 1, f.free⟩ := ((hf.setHas true).setSeq q).setCom hl (f.com + 1)
  have hK3 : Keeps [g] w (((w.setCell ⟨g, 1, none⟩ (.bool true)).setCell ⟨g, 2, none⟩ (.int .i64 q)).setCell ⟨g, 47, none⟩ (.int .i64 (f.com + 1))) := (((Keeps.refl _ _).setCell (.inl (by simp)) _).setCell (.inl (by simp)) _).setCell (.inl (by simp)) _
  obtain ⟨cm, hcm⟩ : ∃ cm, cm = f.com := ⟨_, rfl⟩
  obtain ⟨fh, hfh⟩ : ∃ fh, fh = f.has := ⟨_, rfl⟩
  obtain ⟨fq, hfq⟩ : ∃ fq, fq = f.seq := ⟨_, rfl⟩
  rw [← hcm] at c3 hF3 hK3 hc
  rw [← hfh] at c1
  rw [← hfq] at c2
  have HCM := Lib.hid hcm
  have e1 : IntKind.i64.wrap (cm + 1) = cm + 1 := by rw [IntKind.wrap_i64]; omega
  have HR := Lib.hid hr
  have HL := Lib.hid hln
  have H13 := Lib.hid h13
  have HLV := Lib.hid hl
  have HK := Lib.hid hk
  have HF := Lib.hid hF3
  have HK3 := Lib.hid hK3
  have HAG := Lib.hid hag
  have hgw := hf.lt
  rw [← HCM.out]
  clear hr hln h13 hl hk hF3 hK3 hf hcm hag hfh hfq
  go_enter Tryd.func29, Tryd.ntmps29
  go_upto_region 2 with fail
  have hs3 : w.heap.size = (((w.setCell ⟨g, 1, none⟩ (.bool true)).setCell ⟨g, 2, none⟩ (.int .i64 q)).setCell ⟨g, 47, none⟩ (.int .i64 (cm + 1))).heap.size := by simp
  generalize ((w.setCell ⟨g, 1, none⟩ (.bool true)).setCell ⟨g, 2, none⟩ (.int .i64 q)).setCell ⟨g, 47, none⟩ (.int .i64 (cm + 1)) = w3 at *
  have hR3 := HR.out.keep HK3.out (by intro b o s e hb; rw [List.mem_singleton] at hb; exact HAG.out b o s e hb)
  have HR3 := Lib.hid hR3
  clear c1 c2 c3 f1 f2 f3 hR3 e1 hs3
  go_wp2_with fail
  go_loopw [28] (fun vi wr => ∃ (i : Nat), i ≤ n ∧ vi = .int .i64 i ∧ FAt wr g 42 [sv] ⟨true, q, liveRecs f.live (rs.take i), cm + 1, f.free⟩ ∧ Keeps [g] w3 wr) (fun vi _ => n - (intOf vi).toNat)
  case atStart => exact ⟨0, Nat.zero_le _, rfl, HF.out, Keeps.refl _ _⟩
  case round =>
    obtain ⟨i, hi, rfl, hfi, hkk⟩ := hrel
    have HKK := Lib.hid hkk
    have HFI := Lib.hid hfi
    have hgr := hfi.lt
    have hsz := hkk.size
    clear hkk hfi
    by_cases hlt : i < n
    · obtain ⟨r, hrd⟩ : ∃ r, r = rs.getD i [] := ⟨_, rfl⟩
      have hmem : r ∈ rs := by rw [hrd]; exact getD_mem (by rw [← HL.out]; exact hlt)
      have hr13 : r.length = 13 := H13.out _ hmem
      obtain ⟨⟨b, o, s⟩, rfl⟩ : ∃ ad, a = some ad := by
        rcases a with _ | ad
        · have h1 := HR.out.2.2.2.1 rfl
          have h2 := flat13 H13.out
          rw [h1, ← HL.out] at h2
          simp at h2; omega
        · exact ⟨ad, rfl⟩
      obtain ⟨rfl, hrg⟩ := (HR3.out.keep HKK.out (by intro b o s e hb; rw [List.mem_singleton] at hb; exact HAG.out b o s e hb)).range hlt
      rw [← hrd] at hrg
      have e13 : o + i * 13 = o + 13 * i := by omega
      rw [← e13] at hrg
      have hkr := HK.out r hmem
      obtain ⟨k, hkd⟩ := Int.eq_ofNat_of_zero_le hkr.1
      have hk4 : k < 4 := by omega
      have hst : liveRecs f.live (rs.take (i + 1)) = liveSet (liveRecs f.live (rs.take i)) k (r.drop 2) := by rw [take_snoc (by rw [← HL.out]; exact hlt), ← hrd, liveRecs_snoc, hkd]; simp
      have hll : (liveRecs f.live (rs.take i)).length = 44 := liveRecs_len HLV.out (fun t ht => ⟨H13.out t (List.mem_of_mem_take ht), HK.out t (List.mem_of_mem_take ht)⟩)
      have hA : RecAt (wr.alloc (.cells (ints (zer 13)) 50)) wr.heap.size (zer 13) := heap_alloc_new wr _
      have kA : Keeps [g] w3 (wr.alloc (.cells (ints (zer 13)) 50)) := HKK.out.alloc _
      have KA := Lib.hid kA
      have hFA : FAt (wr.alloc (.cells (ints (zer 13)) 50)) g 42 [sv] ⟨true, q, liveRecs f.live (rs.take i), cm + 1, f.free⟩ := heap_alloc_held HFI.out _
      have HFA := Lib.hid hFA
      have HS := Lib.hid hst
      have HR13 := Lib.hid hr13
      have HKD := Lib.hid hkd
      have HLL := Lib.hid hll
      clear hrd hr13 hkd hst e13 kA hFA hkr hmem hll
      go_upto_region 5 with (first
        | (refine ld_elem _ hrg HR13.out rfl rfl rfl ?_; simp only [Act.put])
        | (simp only [zeros13])
        | (refine st_rec _ _ hA (zer_len _) HR13.out rfl rfl rfl rfl ?_; intro w5 h5 k5 s5; simp only [Act.put]; have K5 := Lib.hid (KA.out.trans k5 (by intro x hx; right; simp at hx; omega)); have hF5 := HFA.out.keep k5 (by simp; omega); clear hA k5))
      have hk4i : (k : Int) < 4 := by omega
      refine wp_region_held_drew (S := fun wz => RecAt wz wr.heap.size r) (by kernel_rfl) h5 (fun hHeld => ?_)
      refine wpAnyH_take (i := 0) (oi := ⟨some 32, _, _, _, _, _⟩) (v := .pointer (some ⟨g, 0, none⟩)) rfl (by kernel_rfl) (by kernel_rfl) (by kernel_rfl) (fun _ _ _ h => h) (Or.inl ⟨by rfl, fun wz hz => by go_simp⟩) hHeld ?_
      simp only [Act.put, List.setIfInBounds_toArray, List.set_cons_zero, List.set_cons_succ]
      refine wpAnyH_take (i := 1) (oi := ⟨some 33, _, _, _, _, _⟩) (v := .pointer (some ⟨wr.heap.size, 0, none⟩)) rfl (by kernel_rfl) (by kernel_rfl) (by kernel_rfl) (fun _ _ _ h => h) (Or.inl ⟨by rfl, fun wz hz => by go_simp⟩) hHeld ?_
      simp only [Act.put, List.setIfInBounds_toArray, List.set_cons_zero, List.set_cons_succ]
      refine wpAnyH_take (i := 2) (oi := ⟨some 34, _, _, _, _, _⟩) (v := .int .i64 (k : Int)) rfl (by kernel_rfl) (by kernel_rfl) (by kernel_rfl) (fun _ _ _ h => h) (Or.inl ⟨by rfl, fun wz hz => by have hs := RecAt.cell hz 0 (by rw [HR13.out]; decide); rw [HKD.out] at hs; go_simp⟩) hHeld ?_
      simp only [Act.put, List.setIfInBounds_toArray, List.set_cons_zero, List.set_cons_succ]
      refine wpAnyH_take (i := 3) (oi := ⟨some 35, _, _, _, _, _⟩) (v := .pointer (some ⟨wr.heap.size, 2, none⟩)) rfl (by kernel_rfl) (by kernel_rfl) (by kernel_rfl) (fun _ _ _ h => h) (Or.inl ⟨by rfl, fun wz hz => by go_simp⟩) hHeld ?_
      simp only [Act.put, List.setIfInBounds_toArray, List.set_cons_zero, List.set_cons_succ]
      refine wpAnyH_take (i := 4) (oi := ⟨some 36, _, _, _, _, _⟩) rfl (by kernel_rfl) (by kernel_rfl) (by kernel_rfl) (fun _ _ _ h => h) (yieldsIf_load_mid (by rfl) _ _ rfl _ _ rfl ((r.drop 2).map (.int .i64)) _ (fun _ h => RecAt.payRange h HR13.out) Tryd.underlying25 rfl (by rw [List.length_map, pay_list HR13.out]; exact infoPay)) hHeld ?_
      simp only [Act.put, List.setIfInBounds_toArray, List.set_cons_zero, List.set_cons_succ]
      refine wpAnyH_take (i := 5) (oi := ⟨some 37, _, _, _, _, _⟩) (v := .pointer (some ⟨g, 0, none⟩)) rfl (by kernel_rfl) (by kernel_rfl) (by kernel_rfl) (fun _ _ _ h => h) (Or.inl ⟨by rfl, fun wz hz => by go_simp⟩) hHeld ?_
      simp only [Act.put, List.setIfInBounds_toArray, List.set_cons_zero, List.set_cons_succ]
      refine wpAnyH_take (i := 6) (oi := ⟨some 38, _, _, _, _, _⟩) (v := .pointer (some ⟨g, 1, none⟩)) rfl (by kernel_rfl) (by kernel_rfl) (by kernel_rfl) (fun _ _ _ h => h) (Or.inl ⟨by rfl, fun wz hz => by go_simp⟩) hHeld ?_
      simp only [Act.put, List.setIfInBounds_toArray, List.set_cons_zero, List.set_cons_succ]
      refine wpAnyH_take (i := 7) (oi := ⟨some 39, _, _, _, _, _⟩) (v := .pointer (some ⟨g, 3, none⟩)) rfl (by kernel_rfl) (by kernel_rfl) (by kernel_rfl) (fun _ _ _ h => h) (Or.inl ⟨by rfl, fun wz hz => by go_simp⟩) hHeld ?_
      simp only [Act.put, List.setIfInBounds_toArray, List.set_cons_zero, List.set_cons_succ]
      refine wpAnyH_take (i := 8) (oi := ⟨some 40, _, _, _, _, _⟩) (v := .pointer (some ⟨g, 3 + k * 11, none⟩)) rfl (by kernel_rfl) (by kernel_rfl) (by kernel_rfl) (fun _ _ _ h => h) (Or.inl ⟨by rfl, fun wz hz => by go_simp⟩) hHeld ?_
      simp only [Act.put, List.setIfInBounds_toArray, List.set_cons_zero, List.set_cons_succ]
      refine wpAnyH_ready (rs := [9]) (by kernel_rfl) (by simp) ?_
      refine AllReadyH.cons (o := ⟨none, _, _, _, _, _⟩) rfl (fun K hK => ?_) AllReadyH.nil
      rw [if_pos (by rfl)]
      have hF6 : FAt w5.drew g 42 [sv] ⟨true, q, liveRecs f.live (rs.take i), cm + 1, f.free⟩ := hF5
      refine wp_store_mid _ _ _ rfl g (3 + k * 11) (ints (r.drop 2)) rfl rfl (hF6.there HLL.out (by rw [ints_size, pay_list HR13.out]; simp; omega)) (by rw [ints_size, pay_list HR13.out]; exact infoPay) (ints_one _) ?_
      have g1 : Keeps [g] w5 (w5.drew.setCells g (3 + k * 11) (ints (r.drop 2)).toList) := Keeps.setCellsR (Keeps.drew (Keeps.refl _ _)) (.inl (by simp)) _ _
      have a1 : FAt (w5.drew.setCells g (3 + k * 11) (ints (r.drop 2)).toList) g 42 [sv] ⟨true, q, liveRecs f.live (rs.take (i + 1)), cm + 1, f.free⟩ := by
        have h := hF6.setLive HLL.out hk4 (pay_list HR13.out)
        rw [HS.out]
        rw [show 3 + k * 11 = [sv].length + 2 + 11 * k by simp; omega]
        exact h
      refine hK.out _ _ (g1.held h5 (by simp; omega)) (fun hHeld => ?_)
      have K6 := Lib.hid (K5.out.trans g1 (by simp))
      have A1 := Lib.hid a1
      clear hK K g1 a1 hF6 hF5
      generalize w5.drew.setCells g (3 + k * 11) (ints (r.drop 2)).toList = w6 at *
      refine wpAnyH_done (by kernel_rfl) ?_ _
      clear hHeld h5
      go_wp2_with fail
      go_roundw
      case rel => exact ⟨i + 1, by omega, by go_num, A1.out, K6.out⟩
      case measure => simp [intOf]; omega
    · have hfin : rs.take i = rs := List.take_of_length_le (by rw [← HL.out]; omega)
      have hres := HFI.out
      rw [hfin] at hres
      have HRES := Lib.hid hres
      clear hfin hres
      go_wp2_with fail
      go_end0
      exact ⟨⟨_, rfl⟩, HRES.out, HK3.out.trans HKK.out (by simp)⟩

end Go.Proofs.YtihpmnnbiabggaaDoor
