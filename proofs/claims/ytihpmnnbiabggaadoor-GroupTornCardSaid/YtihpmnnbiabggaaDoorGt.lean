
/- Plain facts for GroupTorn: torn slots laid down one by one; the blank slots behind; what is found then. No program. -/
import Derived.Test.YtihpmnnbiabggaaDoorGo
namespace Go.Proofs.YtihpmnnbiabggaaDoor
open Go.RowKit
set_option linter.unusedVariables false
set_option maxRecDepth 100000

/-- A torn slot more. -/
theorem torn_set {zs : List Int} {F : Nat} {T : List (List Int)} {p : Nat} {v : Int} (hT : ∀ s ∈ T, s.length = 16) (hp : p < 16) (hr : 16 * (F + T.length + 1) ≤ zs.length)
    (hb : ∀ j, j < 16 → zs.getD (16 * (F + T.length) + j) 0 = 65535) :
    (withB zs (16 * F) T.flatten).set (16 * (F + T.length) + p) v = withB zs (16 * F) (T ++ [tornS p v]).flatten := by
  have hl := flat16 hT
  have h1 : (zs.take (16 * F)).length = 16 * F := by rw [List.length_take]; omega
  have hd : zs.drop (16 * F + T.flatten.length) = List.replicate 16 65535 ++ zs.drop (16 * F + T.flatten.length + 16) := by
    refine List.ext_getElem? fun j => ?_
    by_cases hj : j < 16
    · rw [List.getElem?_append_left (by simpa using hj), List.getElem?_drop, List.getElem?_replicate, if_pos hj]
      have h2 := hb j hj
      have h3 : 16 * (F + T.length) + j < zs.length := by omega
      rw [show 16 * F + T.flatten.length + j = 16 * (F + T.length) + j by omega, List.getElem?_eq_getElem h3]
      rw [List.getD, List.getElem?_eq_getElem h3] at h2
      simpa using h2
    · rw [List.getElem?_append_right (by simp; omega), List.getElem?_drop, List.getElem?_drop, List.length_replicate]
      congr 1
      omega
  unfold withB
  rw [hd, List.set_append_right _ _ (by omega), h1, List.set_append_right _ _ (by omega), List.set_append_left _ _ (by rw [List.length_replicate]; omega)]
  rw [show 16 * (F + T.length) + p - 16 * F - T.flatten.length = p by omega]
  rw [List.flatten_append, List.flatten_cons, List.flatten_nil, List.append_nil, List.append_assoc, List.length_append, tornS_len]
  rw [show 16 * F + (T.flatten.length + 16) = 16 * F + T.flatten.length + 16 by omega]
  rfl

/-- The words with twelve blank slots behind. -/
def padW (ys : List Int) : List Int := ys.take (16 * (ys.length / 16)) ++ List.replicate 192 65535
theorem padW_len (ys : List Int) : (padW ys).length = 16 * (ys.length / 16 + 12) := by
  unfold padW
  rw [List.length_append, List.length_take, List.length_replicate]
  omega
theorem padW_scan (ys : List Int) : scanR (padW ys) = scanR ys := scan_pad ys 12
theorem padW_64 {ys : List Int} (h : ∀ x ∈ ys, I64 x) : ∀ x ∈ padW ys, I64 x := by
  intro x hx
  rcases List.mem_append.1 hx with hx | hx
  · exact h x (List.mem_of_mem_take hx)
  · rw [(List.mem_replicate.1 hx).2]
    unfold I64
    omega
theorem padW_blank (ys : List Int) {j : Nat} (h1 : 16 * (scanR ys).free ≤ j) (h2 : j < 16 * (ys.length / 16 + 12)) : (padW ys).getD j 0 = 65535 := by
  refine free_words (padW ys) (by rw [padW_scan]; exact h1) ?_
  rw [padW_len]
  omega
/-- The torn slots that are laid down: at most three. -/
def tornsL (torn : List Int) : List (List Int) := (torn.take 3).map fun x => tornS (amongI x 16).toNat (amongI x 65535)
theorem tornsL_len (torn : List Int) : (tornsL torn).length = min 3 torn.length := by unfold tornsL; rw [List.length_map, List.length_take]
/-- With them what is found is as it was, but for what is free. -/
theorem torns_scan (ys torn : List Int) (hb : ∀ x : Int, (0 ≤ amongI x 16 ∧ amongI x 16 < 16) ∧ (0 ≤ amongI x 65535 ∧ amongI x 65535 < 65535)) :
    scanR (withB (padW ys) (16 * (scanR ys).free) (tornsL torn).flatten) = { scanR ys with free := (scanR ys).free + min 3 torn.length } := by
  have hf := scan_free ys
  have h := scan_torn (xs := padW ys) (T := tornsL torn) (by
    intro s hs
    obtain ⟨x, -, rfl⟩ := List.mem_map.1 hs
    have h1 := hb x
    exact ⟨(amongI x 16).toNat, amongI x 65535, by omega, by omega, rfl⟩) (by rw [padW_scan, padW_len, tornsL_len]; omega)
  rw [padW_scan, tornsL_len] at h
  exact h

/-- The words with the torn slots in them. -/
def tornW (ys torn : List Int) : List Int := withB (padW ys) (16 * (scanR ys).free) (tornsL torn).flatten
theorem tornsL_16 (torn : List Int) : ∀ s ∈ tornsL torn, s.length = 16 := by
  intro s hs
  obtain ⟨x, -, rfl⟩ := List.mem_map.1 hs
  exact tornS_len _ _
theorem tornW_len (ys torn : List Int) : (tornW ys torn).length = 16 * (ys.length / 16 + 12) := by
  have hf := scan_free ys
  unfold tornW
  rw [withB_len (by rw [flat16 (tornsL_16 torn), tornsL_len, padW_len]; omega), padW_len]
/-- A commit of all kinds is put behind them, and counts. -/
theorem torn_put (ys torn : List Int) (more : Int) (hb : ∀ x : Int, (0 ≤ amongI x 16 ∧ amongI x 16 < 16) ∧ (0 ≤ amongI x 65535 ∧ amongI x 65535 < 65535)) (hs : (scanR ys).seq < 4294967295) :
    gputR (tornW ys torn) ((scanR ys).seq + 1) (!(scanR ys).has) (allL more) = (0, (putSlots ((scanR ys).seq + 1) (!(scanR ys).has) (allL more)).flatten, 16 * (((scanR ys).free + min 3 torn.length : Nat) : Int)) ∧
    scanR (withB (tornW ys torn) (16 * ((scanR ys).free + min 3 torn.length)) (putSlots ((scanR ys).seq + 1) (!(scanR ys).has) (allL more)).flatten) = ⟨true, (scanR ys).seq + 1, liveRecs (scanR ys).live (allL more), (scanR ys).com + 1, (scanR ys).free + min 3 torn.length + 4 + 1⟩ := by
  have hf := scan_free ys
  have hfit := fits_scan ys
  have hsc : scanR (tornW ys torn) = { scanR ys with free := (scanR ys).free + min 3 torn.length } := torns_scan ys torn hb
  have hlen : (allL more).length = 4 := by simp [allL]
  have hq : 0 ≤ (scanR ys).seq + 1 ∧ (scanR ys).seq + 1 ≤ 4294967295 := by have := hfit.seq; omega
  have hok : putsOk ((scanR ys).seq + 1) (-1) (allL more) = true := by
    have h := allL_ok more hq (k := 4) (by omega)
    rwa [List.take_of_length_le (by omega)] at h
  refine ⟨?_, ?_⟩
  · unfold gputR
    rw [if_pos ⟨by omega, by omega, hok⟩, hsc, if_pos (by simp only; rw [hlen, tornW_len]; omega)]
  · have h := scan_put (xs := tornW ys torn) (q := (scanR ys).seq + 1) (first := !(scanR ys).has) (rs := allL more) (allL_len more) (by omega) hq hok (by
      rw [hsc]
      simp only
      rcases hh : (scanR ys).has with _ | _
      · rw [if_neg (by decide)]; exact ⟨rfl, hlen⟩
      · rw [if_pos rfl]; exact ⟨rfl, by omega⟩) (by rw [hsc]; simp only; rw [hlen, tornW_len]; omega)
    rw [hsc] at h
    simp only at h
    rw [live_recs _ (allL_len more) hok, hlen] at h
    exact h

theorem torns_take {ts : List Int} {i : Nat} (h : i < min 3 ts.length) : (tornsL ts).take (i + 1) = (tornsL ts).take i ++ [tornS (amongI (ts.getD i 0) 16).toNat (amongI (ts.getD i 0) 65535)] := by
  have h2 : i < ts.length := by omega
  have e : (tornsL ts)[i]? = some (tornS (amongI (ts.getD i 0) 16).toNat (amongI (ts.getD i 0) 65535)) := by
    unfold tornsL
    rw [List.getElem?_map, List.getElem?_take, if_pos (by omega), List.getElem?_eq_getElem h2]
    simp [List.getD, h2]
  rw [List.take_add_one, e]
  rfl

end Go.Proofs.YtihpmnnbiabggaaDoor
