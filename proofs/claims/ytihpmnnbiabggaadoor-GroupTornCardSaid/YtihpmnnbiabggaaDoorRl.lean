
/- group: records laid as words, and Put: contracts. No condition but lengths, that all are numbers of 64 bits, and the table of the sums. -/
import Derived.Test.YtihpmnnbiabggaaDoorRj
import Derived.Test.YtihpmnnbiabggaaDoorRk
namespace Go.Proofs.YtihpmnnbiabggaaDoor
open Go.RowKit Go.Shelf
set_option linter.unusedVariables false
set_option linter.unusedSimpArgs false
set_option maxRecDepth 100000

def rightAll (q : Int) (rs : List (List Int)) : Bool := rs.all fun r => rightB (setSeq q r)
def laidW (q : Int) (rs : List (List Int)) : List Int := (rs.map fun r => wordsL (setSeq q r)).flatten
def laidR (q : Int) (rs : List (List Int)) : Int × List Int := if rightAll q rs = true then (0, laidW q rs) else (2, [])
theorem setSeq_64 {q : Int} {r : List Int} (hq : I64 q) (h : ∀ x ∈ r, I64 x) : ∀ x ∈ setSeq q r, I64 x := by
  intro x hx
  rcases List.mem_or_eq_of_mem_set hx with h1 | rfl
  · exact h x h1
  · exact hq
theorem laidW_snoc {q : Int} {rs : List (List Int)} {i : Nat} (h : i < rs.length) : laidW q (rs.take (i + 1)) = laidW q (rs.take i) ++ wordsL (setSeq q (rs.getD i [])) := by
  unfold laidW
  rw [take_snoc h]
  simp
theorem rightAll_snoc {q : Int} {rs : List (List Int)} {i : Nat} (h : i < rs.length) : rightAll q (rs.take (i + 1)) = (rightAll q (rs.take i) && rightB (setSeq q (rs.getD i []))) := by
  unfold rightAll
  rw [take_snoc h]
  simp
theorem laidW_len {q : Int} : ∀ {rs : List (List Int)}, (∀ r ∈ rs, r.length = 13) → (laidW q rs).length = 16 * rs.length
  | [], _ => rfl
  | r :: rs, h => by
    have e : laidW q (r :: rs) = wordsL (setSeq q r) ++ laidW q rs := rfl
    rw [e, List.length_append, wordsL_len (setSeq_len (h r (by simp))), laidW_len (fun t ht => h t (List.mem_cons_of_mem _ ht)), List.length_cons]
    omega
theorem rightAll_not {q : Int} {rs : List (List Int)} {r : List Int} (hm : r ∈ rs) (h : rightB (setSeq q r) = false) : rightAll q rs = false := by
  unfold rightAll
  rw [List.all_eq_false]
  exact ⟨r, hm, by simp [h]⟩
theorem take_13 {rs : List (List Int)} {i : Nat} (h : ∀ r ∈ rs, r.length = 13) : ∀ r ∈ rs.take i, r.length = 13 := fun r hr => h r (List.mem_of_mem_take hr)

set_option maxHeartbeats 4000000 in
theorem laid_any (q : Int) (a : Option Addr) (n c : Nat) (rs : List (List Int)) (w : World) (ht : Turns w) (hr : RecsAt w a n rs) (hn : n ≤ 1000) (hq : I64 q) (h64 : ∀ r ∈ rs, ∀ x ∈ r, I64 x) :
    Calls Tryd.prog 19 #[.int .i64 q, .slice a n c] w fun e w' => Out w w' (laidR q rs) e := by
  obtain ⟨i0, hi0, hz0, hz1, hz2⟩ := info_parts Tryd.info3
  have hln := hr.1
  have h13 := hr.2.1
  have HT := Lib.hid ht
  have HR := Lib.hid hr
  have HL := Lib.hid hln
  have H13 := Lib.hid h13
  have HQ := Lib.hid hq
  have H64 := Lib.hid h64
  clear ht hr hln h13 hq h64
  go_enter Tryd.func19, Tryd.ntmps19
  go_wp2_with fail
  go_loopw [6, 13] (fun vs vi wr => ∃ (i vn vc : Nat) (va : Option Addr), i ≤ n ∧ vi = .int .i64 i ∧ vs = .slice va vn vc ∧ vn = 16 * i ∧ wr.ownsRow w.heap.size 3 1 (.slice va vn vc) vn ((laidW q (rs.take i)).map (.int .i64)) ∧ rightAll q (rs.take i) = true ∧ Keeps [] w wr) (fun _ vi _ => n - (intOf vi).toNat)
  case atStart => exact ⟨0, 0, 0, none, Nat.zero_le _, rfl, rfl, rfl, World.ownsRow_nil _ _ _ _, rfl, Keeps.refl _ _⟩
  case round =>
    obtain ⟨i, vn, vc, va, hi, rfl, rfl, hvn, hown, hra, hk⟩ := hrel
    have HK := Lib.hid hk
    have HO := Lib.hid hown
    have HRA := Lib.hid hra
    have HVN := Lib.hid hvn
    have hws := hk.size
    have hvb : vn ≤ 16000 := by omega
    clear hown hra hk hvn
    by_cases hlt : i < n
    · have hlt2 : i < rs.length := by rw [← HL.out]; exact hlt
      have hs1 := laidW_snoc (q := q) hlt2
      have hs2 := rightAll_snoc (q := q) hlt2
      obtain ⟨r, hrd⟩ : ∃ r, r = rs.getD i [] := ⟨_, rfl⟩
      have hmem : r ∈ rs := by rw [hrd]; exact getD_mem hlt2
      have hr13 : r.length = 13 := H13.out _ hmem
      have hs13 := setSeq_len (q := q) hr13
      have hs64 := setSeq_64 HQ.out (H64.out r hmem)
      obtain ⟨⟨b, o, s⟩, rfl⟩ : ∃ ad, a = some ad := by
        rcases a with _ | ad
        · have h1 := HR.out.2.2.2.1 rfl
          have h2 := flat13 H13.out
          rw [h1, ← HL.out] at h2
          simp at h2; omega
        · exact ⟨ad, rfl⟩
      obtain ⟨rfl, hrg⟩ := (HR.out.keep0 HK.out).range hlt
      rw [← hrd] at hrg hs1 hs2
      have e13 : o + i * 13 = o + 13 * i := by omega
      rw [← e13] at hrg
      have hA : RecAt (wr.alloc (.cells (ints (zer 13)) 50)) wr.heap.size (zer 13) := heap_alloc_new wr _
      have KA := Lib.hid (HK.out.alloc (.cells (ints (zer 13)) 50))
      have hs2' := hs2
      rw [HRA.out, Bool.true_and] at hs2'
      obtain ⟨sr, hsr⟩ : ∃ sr, sr = setSeq q r := ⟨_, rfl⟩
      have hset : r.set 1 q = sr := by rw [hsr]; rfl
      rw [← hsr] at hs1 hs2' hs13 hs64
      have HSET := Lib.hid hset
      have HS1 := Lib.hid hs1
      have HS2 := Lib.hid hs2'
      have HS13 := Lib.hid hs13
      have HS64 := Lib.hid hs64
      have HR13 := Lib.hid hr13
      have HMEM := Lib.hid hmem
      have HSR := Lib.hid hsr
      clear hrd hr13 e13 hs1 hs2 hs2' hs13 hs64 hset hmem hsr
      cases hrb : rightB sr
      · have HRB := Lib.hid hrb
        have HF := Lib.hid (show laidR q rs = (2, []) by unfold laidR; rw [if_neg]; rw [rightAll_not HMEM.out (by rw [← HSR.out]; exact HRB.out)]; simp)
        clear hrb
        go_wp2_with (first
          | (refine ld_elem _ hrg HR13.out rfl rfl rfl ?_; simp only [Act.put])
          | (simp only [zeros13])
          | (refine st_rec _ _ hA (zer_len _) HR13.out rfl rfl rfl rfl ?_; intro u3 h3 k3 s3; simp only [Act.put]; have c3 := h3.cell 1 (by rw [HR13.out]; decide); have f3 := h3.frozen 1; have K3 := Lib.hid (KA.out.trans k3 (by intro x hx; right; simp at hx; omega)); have hT : RecAt (u3.setCell ⟨wr.heap.size, 1, none⟩ (.int .i64 q)) wr.heap.size sr := (by rw [← HSET.out]; exact h3.set 1 q); have KT := Lib.hid (K3.out.setCell (p := ⟨wr.heap.size, 1, none⟩) (.inr hws) (.int .i64 q)); clear hA k3 h3)
          | (refine ld_rec _ hT HS13.out rfl rfl rfl ?_; simp only [Act.put])
          | (go_at_call 33; refine (words_no sr _ (HT.out.keep KT.out) HS13.out HS64.out HRB.out).mono ?_; rintro e u4 ⟨rfl, k4⟩; have K4 := Lib.hid (KT.out.trans0 k4); clear k4))
        go_ret2
        rw [HF.out]
        exact Out.of_nil K4.out
      · have HRB := Lib.hid hrb
        have hra2 : rightAll q (rs.take (i + 1)) = true := by rw [HS2.out]; exact hrb
        have HRA2 := Lib.hid hra2
        have hwl := wordsL_len HS13.out
        have HWL := Lib.hid hwl
        clear hrb hra2 hwl
        go_wp2_with (first
          | (refine ld_elem _ hrg HR13.out rfl rfl rfl ?_; simp only [Act.put])
          | (simp only [zeros13])
          | (refine st_rec _ _ hA (zer_len _) HR13.out rfl rfl rfl rfl ?_; intro u3 h3 k3 s3; simp only [Act.put]; have c3 := h3.cell 1 (by rw [HR13.out]; decide); have f3 := h3.frozen 1; have kk3 : Keeps [] wr u3 := (((Keeps.refl [] wr).alloc (.cells (ints (zer 13)) 50)).trans k3 (by intro x hx; right; simp at hx; omega)); have K3 := Lib.hid kk3; have hT : RecAt (u3.setCell ⟨wr.heap.size, 1, none⟩ (.int .i64 q)) wr.heap.size sr := (by rw [← HSET.out]; exact h3.set 1 q); have KT := Lib.hid (K3.out.setCell (p := ⟨wr.heap.size, 1, none⟩) (.inr (Nat.le_refl _)) (.int .i64 q)); clear hA k3 h3 kk3)
          | (refine ld_rec _ hT HS13.out rfl rfl rfl ?_; simp only [Act.put])
          | (go_at_call 33; refine (words_yes sr _ (HT.out.keep (HK.out.trans0 KT.out)) HS13.out HS64.out HRB.out).mono ?_; rintro e u4 ⟨g4, cc4, rfl, hg4, hA4, k4⟩; have kk4 := KT.out.trans0 k4; have K4 := Lib.hid (HK.out.trans0 kk4); have O4 := Lib.hid (ownsRow_keep HO.out kk4 (by simp)); have I4 := Lib.hid hA4.ints.news; have hu4 := K4.out.size; clear k4 kk4 hA4)
          | (at_builtin; refine wpList_append_new _ rfl (.tmp 27) (.tmp 28) 22 rfl w.heap.size 3 i0 (.int .i64 0) 1 8 Tryd.underlying22 hi0 hz0 hz1 hz2 rfl (by decide) (.slice va vn vc) vn _ rfl O4.out ⟨g4, 0, none⟩ 16 cc4 ((wordsL sr).map (.int .i64)) rfl (by rw [List.length_map, HWL.out]) I4.out (map_one _) (by unfold maxLen; omega) (by omega) hu4 ?_; intro v' u5 q1 q2 q3 q4))
        have q1' : u5.ownsRow w.heap.size 3 1 v' (vn + 16) ((laidW q (rs.take (i + 1))).map (.int .i64)) := by
          rw [HS1.out, List.map_append]
          exact q1
        obtain ⟨g', c'', rfl⟩ : ∃ g' c'', v' = .slice (some ⟨g', 0, none⟩) (vn + 16) c'' := by
          rcases q1'.2 with ⟨e, -⟩ | ⟨g', cap, cur, e, -⟩
          · have := (q3.1 e).2
            omega
          · exact ⟨g', cap, e⟩
        have HKU := Lib.hid (K4.out.grown q2 (fun j e => .inr (own_block O4.out j e)))
        have HA' := Lib.hid q1'
        clear q1 q1' q2 q3 q4
        go_wp2_with fail
        go_roundw
        case rel => exact ⟨i + 1, vn + 16, c'', _, by omega, by go_num, rfl, by have := HVN.out; omega, HA'.out, HRA2.out, HKU.out⟩
        case measure => simp [intOf]; omega
    · have hin : rs.take i = rs := List.take_of_length_le (by rw [← HL.out]; omega)
      have hra := HRA.out
      have hown := HO.out
      rw [hin] at hra hown
      have hres : laidR q rs = (0, laidW q rs) := by unfold laidR; rw [if_pos hra]
      have hlen := laidW_len (q := q) H13.out
      have hvn2 : vn = (laidW q rs).length := by rw [hlen, ← HL.out]; have := HVN.out; omega
      have hia : IntsAt wr va vn (laidW q rs) ∧ vn ≤ vc ∧ vc ≤ maxLen := by
        rcases hown.2 with ⟨e, h0⟩ | ⟨g, cap, cur, e, hb, hg, hle, hcm, hcs, htk⟩
        · injection e with e1 e2 e3
          subst e1; subst e2; subst e3
          have h9 : laidW q rs = [] := List.length_eq_zero_iff.1 hvn2.symm
          rw [h9]
          exact ⟨IntsAt.nil _, Nat.le_refl _, by unfold maxLen; omega⟩
        · have hne : (Value.slice va vn vc) ≠ .slice none 0 0 := by rw [e]; simp
          obtain ⟨g2, c2, e2, hg2, hA2⟩ := Arr.of_own hown hne
          injection e2 with f1 f2 f3
          subst f1; subst f3
          rw [f2]
          exact ⟨hA2.ints, hA2.le, hA2.cm⟩
      have HRES := Lib.hid hres
      have HIA := Lib.hid hia
      have HV2 := Lib.hid hvn2
      clear hin hra hown hres hlen hvn2 hia
      go_wp2_with fail
      go_ret2
      rw [HRES.out]
      exact ⟨va, vc, by rw [← HV2.out]; rfl, by show IntsAt _ _ (laidW q rs).length _; rw [← HV2.out]; exact HIA.out.1, HK.out, by show (laidW q rs).length ≤ _; rw [← HV2.out]; exact HIA.out.2.1, HIA.out.2.2⟩

end Go.Proofs.YtihpmnnbiabggaaDoor
