/- Load of the document's own flash: its contract. -/
import Derived.Test.YtjebflafbkmokaaRG
namespace Go.Proofs.Ytjebflafbkmokaa
open Go.RowKit
set_option linter.unusedVariables false
variable {w w' : World} {F : List Nat} {b gw cw be : Nat} {lv : Value} {s : FS}

theorem refLoad_len (hF : Rf w b gw cw be lv s) (a : Option Addr) (n c : Nat) (hne : n ≠ s.w.length) :
    Calls Try.prog 27 #[.pointer (some ⟨b, 0, none⟩), .slice a n c] w fun e w' => e = .returned (.int .i64 2) ∧ w = w' := by
  have c3 := hF.c3
  have lb := hF.lb
  have hneb : ((n : Int) != s.w.length) = true := by simp; omega
  clear hne
  go_enter Try.func27, Try.ntmps27
  go_wp2_with fail
  go_ret
  exact ⟨rfl, rfl⟩

theorem Rf.setW2 {g2 c2 : Nat} (h : Rf w b gw cw be lv s) (hk : Keeps [] w w') (xs : List Int) (hl : xs.length = s.w.length) (hA : Arr w' g2 c2 xs) (hg : w.heap.size ≤ g2) :
    Rf (w'.setCell ⟨b, 3, none⟩ (.slice (some ⟨g2, 0, none⟩) s.w.length c2)) b g2 c2 be lv { s with w := xs } := by
  have h' := h.keep0 hk
  have hlt := h.lt
  have n1 : b ≠ g2 := by have := hlt b (by simp [foot]); omega
  have n3 : g2 ≠ be := by have := hlt be (by simp [foot]); omega
  have nd : ∀ k, lv.ownBlock = some k → k ≠ b ∧ k ≠ g2 ∧ k ≠ be := by
    intro k e
    have h1 := h.nd k e
    have := hlt k (by rw [mem_foot]; exact .inr (.inr (.inr e)))
    exact ⟨h1.1, by omega, h1.2.2⟩
  refine ⟨?_, hA.keep (F := [b]) ((Keeps.refl _ _).setCell (.inl (by simp)) _) (by simp; exact n1.symm), (heap_setCell_other h.n2.symm _).trans h'.he, ownsRow_setCell h'.hd h'.dvb.1 _, n1, h.n2, n3, nd⟩
  have := heap_setCell_same (o := 3) h'.hb (.slice (some ⟨g2, 0, none⟩) s.w.length c2)
  simpa [hl] using this

theorem own_empty3 (w : World) : (w.alloc (.cells #[] 3)).ownsRow w.heap.size 3 1 (.slice (some ⟨w.heap.size, 0, none⟩) 0 0) 0 [] := by
  refine ⟨by simp, .inr ⟨w.heap.size, 0, #[], rfl, Nat.le_refl _, heap_alloc_new w _, Nat.le_refl _, ?_, ?_, ?_⟩⟩
  all_goals simp [maxLen]

theorem own_ints {w : World} {base n : Nat} {v : Value} {xs : List Int} (h : w.ownsRow base 3 1 v (0 + n) ([] ++ xs.map (.int .i64))) (hn : xs.length = n) (h1 : 1 ≤ n) : ∃ g c, v = .slice (some ⟨g, 0, none⟩) n c ∧ base ≤ g ∧ Arr w g c xs := by
  rw [Nat.zero_add, List.nil_append] at h
  have hne : v ≠ .slice none 0 0 := by
    rintro rfl
    rcases h.2 with ⟨_, h⟩ | ⟨g, cap', _, h, _⟩
    · omega
    · cases h
  have := Arr.of_own h hne
  rwa [hn] at this

set_option maxRecDepth 100000 in
set_option maxHeartbeats 2000000 in
theorem refLoad_any (hF : Rf w b gw cw be lv s) (ad : Addr) (n c : Nat) (xs : List Int) (h : IntsAt w (some ad) n xs) (hn : n ≤ 1000000) (hne : n = s.w.length) (hn1 : 1 ≤ n) :
    Calls Try.prog 27 #[.pointer (some ⟨b, 0, none⟩), .slice (some ad) n c] w fun e w' =>
      (fitB xs = false ∧ e = .returned (.int .i64 2) ∧ w = w') ∨
      (fitB xs = true ∧ e = .returned (.int .i64 0) ∧ ∃ g2 c2, Rf w' b g2 c2 be lv { s with w := xs } ∧ w.heap.size ≤ g2 ∧ Keeps [b] w w') := by
  obtain ⟨i0, hi, hz0, hz1, hz2⟩ := info_parts Try.info3
  have c3 := hF.c3
  have f3 := hF.fz 3
  have lb := hF.lb
  rw [← hne] at c3
  have hnx : xs.length = n := h.1.symm
  obtain ⟨ab, ao, asp⟩ := ad
  obtain ⟨rfl, hx⟩ := h.2.2 ab ao asp rfl (List.ne_nil_of_length_pos (by omega))
  have hno := (h.keep (F := []) ((Keeps.refl _ _).alloc (.cells #[] 3)) (by simp)).news
  have HNo := Lib.hid hno
  have HX := Lib.hid hx
  have HN := Lib.hid hnx
  have HNe := Lib.hid hne
  have hneb : ((n : Int) != n) = false := by simp
  clear hne hnx hx h hno
  go_enter Try.func27, Try.ntmps27
  go_wp2_with fail
  go_loop [5] (fun v => ∃ k : Nat, k ≤ n ∧ v = .int .i64 k ∧ fitB (xs.take k) = true) (fun v => n - (intOf v).toNat)
  case atStart => exact ⟨0, Nat.zero_le _, rfl, rfl⟩
  case round =>
    obtain ⟨k, hk, rfl, hfit⟩ := hrel
    have HS := Lib.hid hfit
    clear hfit
    by_cases hlt : k < n
    · have hlx : k < xs.length := by rw [HN.out]; exact hlt
      have gx := HX.out k hlx
      obtain ⟨x, ex⟩ : ∃ x, x = xs.getD k 0 := ⟨_, rfl⟩
      rw [← ex] at gx
      have hmem : x ∈ xs := by rw [ex]; simp [List.getD, hlx]
      have htk : xs.take (k + 1) = xs.take k ++ [x] := by rw [List.take_succ_eq_append_getElem hlx, ex]; simp [List.getD, hlx]
      have HM := Lib.hid hmem
      have HT := Lib.hid htk
      clear ex hmem htk
      by_cases hx0 : 0 ≤ x
      · by_cases hx1 : x ≤ 65535
        · go_wp2_with fail
          go_round
          case rel => exact ⟨k + 1, by omega, by go_num, fitB_snoc HT.out HS.out hx0 hx1⟩
          case measure => simp [intOf]; omega
        · have HF := Lib.hid (fitB_not HM.out (show ¬ (0 ≤ x ∧ x ≤ 65535) by omega))
          go_wp2_with fail
          go_ret
          exact .inl ⟨HF.out, rfl, rfl⟩
      · have HF := Lib.hid (fitB_not HM.out (show ¬ (0 ≤ x ∧ x ≤ 65535) by omega))
        go_wp2_with fail
        go_ret
        exact .inl ⟨HF.out, rfl, rfl⟩
    · have hfin : fitB xs = true := by have := HS.out; rwa [List.take_of_length_le (by rw [HN.out]; omega)] at this
      have HF := Lib.hid hfin
      clear hfin
      have hown := own_empty3 w
      have HO := Lib.hid hown
      clear hown
      go_wp2_with (at_builtin; refine wpList_append_new _ rfl (.tmp 33) (.tmp 34) 36 rfl w.heap.size 3 i0 (.int .i64 0) 1 8 Try.underlying36 hi hz0 hz1 hz2 rfl (by decide) (.slice (some ⟨w.heap.size, 0, none⟩) 0 0) 0 [] rfl HO.out ⟨ab, ao, none⟩ n c (xs.map (.int .i64)) rfl (by simp [HN.out]) HNo.out (by simp [Value.oneCell']) (by unfold maxLen; omega) (by omega) (by simp) ?_; intro v' w' q1 q2 q3 q4; obtain ⟨g2, c2, rfl, hgb, hA⟩ := own_ints q1 HN.out hn1; have HA := Lib.hid hA; have G2 := Lib.hid q2; have r3 : w'.cell? ⟨b, 3, none⟩ = some (.slice (some ⟨gw, 0, none⟩) n cw) := (World.cell?_of_block (q2.block _ (by simp; omega) (by simp [Value.ownBlock]; omega))).trans ((World.cell?_alloc_lt _ _ _ lb).trans c3); have r4 : w'.frozen? ⟨b, 3, none⟩ = false := (World.frozen?_of_block (q2.block _ (by simp; omega) (by simp [Value.ownBlock]; omega))).trans ((World.frozen?_of_block (Below.heap_alloc _ _ _ lb)).trans f3); clear q1 q2 q3 q4 hA)
      all_goals
        go_wp2_with fail
        go_ret
        have hkw : Keeps [] w w' := ((Keeps.refl _ _).alloc (.cells #[] 3)).grown G2.out (by intro k e; right; simp [Value.ownBlock] at e; omega)
        have hr := hF.setW2 hkw xs (by rw [HN.out]; exact HNe.out) HA.out hgb
        rw [← HNe.out] at hr
        exact .inr ⟨HF.out, rfl, g2, ⟨c2, hr⟩, hgb, (hkw.mono (by simp)).setCell (.inl (by simp)) _⟩

end Go.Proofs.Ytjebflafbkmokaa
