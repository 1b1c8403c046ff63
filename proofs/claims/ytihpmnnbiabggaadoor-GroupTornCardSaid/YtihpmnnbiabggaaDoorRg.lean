
/- group: does a commit follow, do Kinds rise, are Sequences alike: contracts. No condition but that the records are as many numbers. -/
import Derived.Test.YtihpmnnbiabggaaDoorRf
namespace Go.Proofs.YtihpmnnbiabggaaDoor
open Go.RowKit Go.Shelf
set_option linter.unusedVariables false
set_option maxRecDepth 100000

def followsB (f : Fnd) (s m : Int) (first : Bool) : Bool := if f.has = true then !first && decide (f.seq < s) else first && decide (m = 4)
theorem follows_any (g : Nat) (sv : Value) (f : Fnd) (s m : Int) (first : Bool) (w : World) (hf : FAt w g 42 [sv] f) :
    Calls Tryd.prog 26 #[.pointer (some ⟨g, 0, none⟩), .int .i64 s, .int .i64 m, .bool first] w fun e w' => e = .returned (.bool (followsB f s m first)) ∧ w = w' := by
  have c1 : w.cell? ⟨g, 1, none⟩ = some (.bool f.has) := hf.has
  have c2 : w.cell? ⟨g, 2, none⟩ = some (.int .i64 f.seq) := hf.seq
  obtain ⟨B, hB⟩ : ∃ B, B = followsB f s m first := ⟨_, rfl⟩
  rw [← hB]
  obtain ⟨q, hq⟩ : ∃ q, q = f.seq := ⟨_, rfl⟩
  rw [← hq] at c2
  unfold followsB at hB
  rw [← hq] at hB
  cases hh : f.has
  · rw [hh] at c1 hB
    simp only [Bool.false_eq_true, if_false] at hB
    cases first
    · have HB := Lib.hid (show B = false by rw [hB]; rfl)
      clear hB hf hq hh
      go_enter Tryd.func26, Tryd.ntmps26
      go_wp2
      go_ret
      exact ⟨by rw [HB.out]; rfl, rfl⟩
    · by_cases h4 : m = 4
      · have h4b : (m == 4) = true := by simp [h4]
        have HB := Lib.hid (show B = true by rw [hB, decide_eq_true h4]; rfl)
        clear hB hf hq hh h4
        go_enter Tryd.func26, Tryd.ntmps26
        go_wp2
        go_ret
        exact ⟨by rw [HB.out]; rfl, rfl⟩
      · have h4b : (m == 4) = false := by simp [h4]
        have HB := Lib.hid (show B = false by rw [hB, decide_eq_false h4]; rfl)
        clear hB hf hq hh h4
        go_enter Tryd.func26, Tryd.ntmps26
        go_wp2
        go_ret
        exact ⟨by rw [HB.out]; rfl, rfl⟩
  · rw [hh] at c1 hB
    simp only [if_true] at hB
    cases first
    · by_cases h4 : q < s
      · have HB := Lib.hid (show B = true by rw [hB, decide_eq_true h4]; rfl)
        clear hB hf hq hh
        go_enter Tryd.func26, Tryd.ntmps26
        go_wp2
        go_ret
        exact ⟨by rw [HB.out]; rfl, rfl⟩
      · have h4b : decide (q < s) = false := by simpa using h4
        have HB := Lib.hid (show B = false by rw [hB, h4b]; rfl)
        clear hB hf hq hh h4
        go_enter Tryd.func26, Tryd.ntmps26
        go_wp2
        go_ret
        exact ⟨by rw [HB.out]; rfl, rfl⟩
    · have HB := Lib.hid (show B = false by rw [hB]; rfl)
      clear hB hf hq hh
      go_enter Tryd.func26, Tryd.ntmps26
      go_wp2
      go_ret
      exact ⟨by rw [HB.out]; rfl, rfl⟩

/-- Do the Kinds rise, from a least one on, below four? -/
def risingB : Int → List (List Int) → Bool
  | _, [] => true
  | least, r :: rs => (decide (least ≤ r.getD 0 0) && decide (r.getD 0 0 < 4)) && risingB (r.getD 0 0 + 1) rs
theorem drop_get {rs : List (List Int)} {i : Nat} (h : i < rs.length) : rs.drop i = rs.getD i [] :: rs.drop (i + 1) := by
  rw [List.drop_eq_getElem_cons h]
  simp [List.getD, h]

set_option maxHeartbeats 2000000 in
theorem rising_any (a : Option Addr) (n c : Nat) (rs : List (List Int)) (w : World) (hr : RecsAt w a n rs) (hn : n ≤ maxLen) :
    Calls Tryd.prog 18 #[.slice a n c] w fun e w' => e = .returned (.bool (risingB 0 rs)) ∧ Keeps [] w w' := by
  have hln := hr.1
  have h13 := hr.2.1
  unfold maxLen at hn
  have HR := Lib.hid hr
  have HL := Lib.hid hln
  have H13 := Lib.hid h13
  clear hr hln h13
  go_enter Tryd.func18, Tryd.ntmps18
  go_wp2_with fail
  go_loopw [3, 8] (fun vl vi wr => ∃ (i : Nat) (le : Int), i ≤ n ∧ vi = .int .i64 i ∧ vl = .int .i64 le ∧ 0 ≤ le ∧ le ≤ 4 ∧ risingB 0 rs = risingB le (rs.drop i) ∧ Keeps [] w wr) (fun _ vi _ => n - (intOf vi).toNat)
  case atStart => exact ⟨0, 0, Nat.zero_le _, rfl, rfl, by omega, by omega, by rw [List.drop_zero], Keeps.refl _ _⟩
  case round =>
    obtain ⟨i, le, hi, rfl, rfl, hle0, hle4, heq, hk⟩ := hrel
    have HK := Lib.hid hk
    have HEQ := Lib.hid heq
    clear heq hk
    by_cases hlt : i < n
    · have hst := drop_get (rs := rs) (i := i) (by rw [← HL.out]; exact hlt)
      obtain ⟨r, hrd⟩ : ∃ r, r = rs.getD i [] := ⟨_, rfl⟩
      have hr13 : r.length = 13 := by rw [hrd]; exact H13.out _ (getD_mem (by rw [← HL.out]; exact hlt))
      obtain ⟨⟨b, o, s⟩, rfl⟩ : ∃ ad, a = some ad := by
        rcases a with _ | ad
        · have h1 := HR.out.2.2.2.1 rfl
          have h2 := flat13 H13.out
          rw [h1, ← HL.out] at h2
          simp at h2; omega
        · exact ⟨ad, rfl⟩
      obtain ⟨rfl, hrg⟩ := (HR.out.keep0 HK.out).range hlt
      rw [← hrd] at hst hrg
      have e13 : o + i * 13 = o + 13 * i := by omega
      rw [← e13] at hrg
      obtain ⟨kd, hkd⟩ : ∃ kd, kd = r.getD 0 0 := ⟨_, rfl⟩
      have hstep : risingB 0 rs = ((decide (le ≤ kd) && decide (kd < 4)) && risingB (kd + 1) (rs.drop (i + 1))) := by rw [HEQ.out, hst, hkd]; rfl
      have hA : RecAt (wr.alloc (.cells (ints (zer 13)) 50)) wr.heap.size (zer 13) := heap_alloc_new wr _
      have kA : Keeps [] w (wr.alloc (.cells (ints (zer 13)) 50)) := HK.out.alloc _
      have KA := Lib.hid kA
      have HS := Lib.hid hstep
      have HR13 := Lib.hid hr13
      have HKD := Lib.hid hkd
      have hws := HK.out.size
      clear hst hrd hr13 hkd hstep e13 kA
      by_cases hlo : le ≤ kd
      · by_cases hhi : kd < 4
        · have e1 : IntKind.i64.wrap (kd + 1) = kd + 1 := by rw [IntKind.wrap_i64]; omega
          have d2 : decide (4 ≤ kd) = false := by simpa using hhi
          have d1 : decide (kd < le) = false := by simpa using hlo
          go_wp2_with (first
            | (refine ld_elem _ hrg HR13.out rfl rfl rfl ?_; simp only [Act.put])
            | (simp only [zeros13])
            | (refine st_rec _ _ hA (zer_len _) HR13.out rfl rfl rfl rfl ?_; intro w3 h3 k3 s3; simp only [Act.put]; have c3 := h3.cell 0 (by rw [HR13.out]; decide); rw [← HKD.out] at c3; have K3 := Lib.hid (KA.out.trans k3 (by intro x hx; right; simp at hx; omega)); clear hA k3 h3))
          go_roundw
          case rel => exact ⟨i + 1, kd + 1, by omega, by go_num, rfl, by omega, by omega, by rw [HS.out, decide_eq_true hlo, decide_eq_true hhi]; rfl, K3.out⟩
          case measure => simp [intOf]; omega
        · have d2 : decide (4 ≤ kd) = true := by simp; omega
          have d1 : decide (kd < le) = false := by simpa using hlo
          have HF := Lib.hid (show risingB 0 rs = false by rw [HS.out, decide_eq_false hhi]; simp)
          clear hhi
          go_wp2_with (first
            | (refine ld_elem _ hrg HR13.out rfl rfl rfl ?_; simp only [Act.put])
            | (simp only [zeros13])
            | (refine st_rec _ _ hA (zer_len _) HR13.out rfl rfl rfl rfl ?_; intro w3 h3 k3 s3; simp only [Act.put]; have c3 := h3.cell 0 (by rw [HR13.out]; decide); rw [← HKD.out] at c3; have K3 := Lib.hid (KA.out.trans k3 (by intro x hx; right; simp at hx; omega)); clear hA k3 h3))
          go_ret
          exact ⟨by rw [HF.out]; rfl, K3.out⟩
      · have d1 : decide (kd < le) = true := by simp; omega
        have HF := Lib.hid (show risingB 0 rs = false by rw [HS.out, decide_eq_false hlo]; simp)
        clear hlo
        go_wp2_with (first
          | (refine ld_elem _ hrg HR13.out rfl rfl rfl ?_; simp only [Act.put])
          | (simp only [zeros13])
          | (refine st_rec _ _ hA (zer_len _) HR13.out rfl rfl rfl rfl ?_; intro w3 h3 k3 s3; simp only [Act.put]; have c3 := h3.cell 0 (by rw [HR13.out]; decide); rw [← HKD.out] at c3; have K3 := Lib.hid (KA.out.trans k3 (by intro x hx; right; simp at hx; omega)); clear hA k3 h3))
        go_ret
        exact ⟨by rw [HF.out]; rfl, K3.out⟩
    · have hfin : risingB 0 rs = true := by rw [HEQ.out, List.drop_eq_nil_of_le (by rw [← HL.out]; omega)]; rfl
      have HF := Lib.hid hfin
      clear hfin
      go_wp2_with fail
      go_ret
      exact ⟨by rw [HF.out]; rfl, HK.out⟩

def alikeB (s : Int) (rs : List (List Int)) : Bool := rs.all fun r => r.getD 1 0 == s

set_option maxHeartbeats 2000000 in
theorem alike_any (q : Int) (a : Option Addr) (n c : Nat) (rs : List (List Int)) (w : World) (hr : RecsAt w a n rs) (hn : n ≤ maxLen) :
    Calls Tryd.prog 28 #[.int .i64 q, .slice a n c] w fun e w' => e = .returned (.bool (alikeB q rs)) ∧ Keeps [] w w' := by
  have hln := hr.1
  have h13 := hr.2.1
  unfold maxLen at hn
  have HR := Lib.hid hr
  have HL := Lib.hid hln
  have H13 := Lib.hid h13
  clear hr hln h13
  go_enter Tryd.func28, Tryd.ntmps28
  go_wp2_with fail
  go_loopw [9] (fun vi wr => ∃ (i : Nat), i ≤ n ∧ vi = .int .i64 i ∧ alikeB q rs = alikeB q (rs.drop i) ∧ Keeps [] w wr) (fun vi _ => n - (intOf vi).toNat)
  case atStart => exact ⟨0, Nat.zero_le _, rfl, by rw [List.drop_zero], Keeps.refl _ _⟩
  case round =>
    obtain ⟨i, hi, rfl, heq, hk⟩ := hrel
    have HK := Lib.hid hk
    have HEQ := Lib.hid heq
    clear heq hk
    by_cases hlt : i < n
    · have hst := drop_get (rs := rs) (i := i) (by rw [← HL.out]; exact hlt)
      obtain ⟨r, hrd⟩ : ∃ r, r = rs.getD i [] := ⟨_, rfl⟩
      have hr13 : r.length = 13 := by rw [hrd]; exact H13.out _ (getD_mem (by rw [← HL.out]; exact hlt))
      obtain ⟨⟨b, o, s⟩, rfl⟩ : ∃ ad, a = some ad := by
        rcases a with _ | ad
        · have h1 := HR.out.2.2.2.1 rfl
          have h2 := flat13 H13.out
          rw [h1, ← HL.out] at h2
          simp at h2; omega
        · exact ⟨ad, rfl⟩
      obtain ⟨rfl, hrg⟩ := (HR.out.keep0 HK.out).range hlt
      rw [← hrd] at hst hrg
      have e13 : o + i * 13 = o + 13 * i := by omega
      rw [← e13] at hrg
      obtain ⟨kd, hkd⟩ : ∃ kd, kd = r.getD 1 0 := ⟨_, rfl⟩
      have hstep : alikeB q rs = ((kd == q) && alikeB q (rs.drop (i + 1))) := by rw [HEQ.out, hst, hkd]; simp only [alikeB, List.all_cons]
      have hA : RecAt (wr.alloc (.cells (ints (zer 13)) 50)) wr.heap.size (zer 13) := heap_alloc_new wr _
      have kA : Keeps [] w (wr.alloc (.cells (ints (zer 13)) 50)) := HK.out.alloc _
      have KA := Lib.hid kA
      have HS := Lib.hid hstep
      have HR13 := Lib.hid hr13
      have HKD := Lib.hid hkd
      have hws := HK.out.size
      clear hst hrd hr13 hkd hstep e13 kA
      by_cases hlo : kd = q
      · have d1 : (kd != q) = false := by simp [hlo]
        have HLO := Lib.hid hlo
        clear hlo
        go_wp2_with (first
          | (refine ld_elem _ hrg HR13.out rfl rfl rfl ?_; simp only [Act.put])
          | (simp only [zeros13])
          | (refine st_rec _ _ hA (zer_len _) HR13.out rfl rfl rfl rfl ?_; intro w3 h3 k3 s3; simp only [Act.put]; have c3 := h3.cell 1 (by rw [HR13.out]; decide); rw [← HKD.out] at c3; have K3 := Lib.hid (KA.out.trans k3 (by intro x hx; right; simp at hx; omega)); clear hA k3 h3))
        go_roundw
        case rel => exact ⟨i + 1, by omega, by go_num, by rw [HS.out, HLO.out]; simp, K3.out⟩
        case measure => simp [intOf]; omega
      · have d1 : (kd != q) = true := by simp [hlo]
        have HF := Lib.hid (show alikeB q rs = false by rw [HS.out]; simp [hlo])
        clear hlo
        go_wp2_with (first
          | (refine ld_elem _ hrg HR13.out rfl rfl rfl ?_; simp only [Act.put])
          | (simp only [zeros13])
          | (refine st_rec _ _ hA (zer_len _) HR13.out rfl rfl rfl rfl ?_; intro w3 h3 k3 s3; simp only [Act.put]; have c3 := h3.cell 1 (by rw [HR13.out]; decide); rw [← HKD.out] at c3; have K3 := Lib.hid (KA.out.trans k3 (by intro x hx; right; simp at hx; omega)); clear hA k3 h3))
        go_ret
        exact ⟨by rw [HF.out]; rfl, K3.out⟩
    · have hfin : alikeB q rs = true := by rw [HEQ.out, List.drop_eq_nil_of_le (by rw [← HL.out]; omega)]; rfl
      have HF := Lib.hid hfin
      clear hfin
      go_wp2_with fail
      go_ret
      exact ⟨by rw [HF.out]; rfl, HK.out⟩

end Go.Proofs.YtihpmnnbiabggaaDoor
