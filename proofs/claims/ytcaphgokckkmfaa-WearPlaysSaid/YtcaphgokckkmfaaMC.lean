
/- One raw write of the document's own flash that the power lets. -/
import Derived.Test.YtcaphgokckkmfaaMB
import Derived.StillTailTactics
namespace Go.Proofs.Ytcaphgokckkmfaa
open Go.RowKit
set_option maxRecDepth 100000
set_option linter.unusedVariables false
variable {w w' : World} {F : List Nat} {b gw cw be : Nat} {lv : Value} {s : FS}

set_option maxHeartbeats 2000000 in
theorem rraw_put (r1 : Bool) (k : Nat) (v : Int) (w : World) (hF : Rf w b gw cw be lv s) (ho : s.off = false) (hcut : s.cut ≠ 0) (hcb : -9223372036854775808 ≤ s.cut ∧ s.cut ≤ 9223372036854775807)
    (hk : k < s.w.length) (hwl : s.w.length ≤ 1000000) (hd : s.done.length ≤ 1000000000) (h16 : W16 s.w) (hv : r1 = true ∨ (0 ≤ v ∧ v ≤ 65535)) :
    Calls Try.prog 45 #[.pointer (some ⟨b, 0, none⟩), .agg #[.bool r1, .int .i64 k, .int .i64 v]] w fun e w' =>
      e = .returned (.bool true) ∧ ∃ lv', Rf w' b gw cw be lv' (s.putR (r1, k, v)) ∧ Keeps (foot b gw be lv) w w' ∧ ∀ j, lv'.ownBlock = some j → lv.ownBlock = some j ∨ w.heap.size ≤ j := by
  have hc0 : (s.cut == 0) = false := by simpa using hcut
  have lb := hF.lb
  have c6 := hF.c6
  have c7 := hF.c7
  rw [ho] at c7
  have f6 := hF.fz 6
  obtain ⟨s1, hs1⟩ : ∃ s1 : FS, s1 = { s with cut := if s.cut > 0 then s.cut - 1 else s.cut } := ⟨_, rfl⟩
  obtain ⟨s2, hs2⟩ : ∃ s2 : FS, s2 = { s1 with w := s1.w.set k (wordAfter (s1.w.getD k 0) (r1, (k : Int), v)) } := ⟨_, rfl⟩
  obtain ⟨s3, hs3⟩ : ∃ s3 : FS, s3 = { s2 with done := s2.done ++ [(r1, (k : Int), v)] } := ⟨_, rfl⟩
  have e1 : s1.w = s.w ∧ s1.done = s.done := by subst hs1; simp
  have e2 : s2.done = s.done := by subst hs2; subst hs1; simp
  have hfin : s3 = s.putR (r1, (k : Int), v) := by subst hs3; subst hs2; subst hs1; simp [FS.putR, FS.put]
  have k1 : k < s1.w.length := by rw [e1.1]; exact hk
  have k1l : s1.w.length ≤ 1000000 := by rw [e1.1]; exact hwl
  obtain ⟨x, hx, hxl⟩ := h16 k
  rw [← e1.1] at hx
  have HX := Lib.hid hx
  have HXL := Lib.hid hxl
  have E1 := Lib.hid e1
  have E2 := Lib.hid e2
  have H1 := Lib.hid hs1
  have H2 := Lib.hid hs2
  have H3 := Lib.hid hs3
  have HFin := Lib.hid hfin
  have HV := Lib.hid hv
  have H16 := Lib.hid h16
  clear hs1 hs2 hs3 e1 e2 hfin hx hxl hv h16 ho
  have nb : b ∈ foot b gw be lv := by simp [foot]
  have ngw : gw ∈ foot b gw be lv := by simp [foot]
  go_enter Try.func45, Try.ntmps45
  go_upto_if 23 with (fail)
  go_cut [] (fun wx => MidR w wx b gw cw be lv lv s1 (r1, (k : Int), v))
  case first =>
    by_cases hpos : 0 < s.cut
    · go_wp2
      go_meet
      case rel =>
        rw [H1.out, if_pos hpos]
        exact MidR.start (hF.setCut (s.cut - 1)) (by simp) ((Keeps.refl _ _).setCell (.inl nb) _)
    · go_wp2
      go_meet
      case rel =>
        rw [H1.out, if_neg (by omega)]
        exact MidR.start hF rfl (Keeps.refl _ _)
  case rest =>
    rename_i hcut0
    clear c6 c7 f6 hc0
    have g2 := hcut.r0
    have g3 := hcut.r1
    have g4 := hcut.r2
    have g5 := hcut.fl.c3
    have g6 := hcut.fl.hw.cell k1
    have g7 := hcut.fl.hw.frozen k
    rw [HX.out] at g6
    simp only at g2 g3 g4
    have l5 : w.heap.size < wc.heap.size := World.block_lt_of_cell? _ _ g2
    have l6 : b < wc.heap.size := hcut.fl.lb
    have l7 : gw < wc.heap.size := hcut.fl.hw.lt
    go_upto_if 32 with (fail)
    go_cut [] (fun wx => MidR w wx b gw cw be lv lv s2 (r1, (k : Int), v))
    case first =>
      cases r1
      · have hv2 : 0 ≤ v ∧ v ≤ 65535 := by
          rcases HV.out with h | h
          · cases h
          · exact h
        obtain ⟨vn, hvn⟩ := Int.eq_ofNat_of_zero_le hv2.1
        have hvl : vn < 65536 := by omega
        have HVL := Lib.hid hvl
        obtain ⟨X, hX⟩ : ∃ X : Int, X = (x : Int) := ⟨_, rfl⟩
        have ha := fun wx => and_any x vn wx HXL.out HVL.out
        rw [← hX, ← hvn] at ha
        rw [← hX] at g6
        have HA := Lib.hid ha
        have HXX := Lib.hid hX
        clear hvn hvl hv2 ha hX
        go_wp2_with fail
        go_still_tail 18, (by kernel_rfl)
        still_call ((HA.out _).mono fun _ _ h => ⟨h.1, h.2.symm⟩)
        repeat still_step
        refine wpStill_nil ?_
        change wpList _ _ _ _ _ wc.drew
        all_goals go_wp2_with fail
        all_goals go_meet
        all_goals
          rw [H2.out]
          have hw0 : wordAfter (s1.w.getD k 0) (false, (k : Int), v) = bits .and .i64 X v := by rw [HX.out, HXX.out]; rfl
          rw [hw0]
          have hkd : Keeps [] wc wc.drew := (Keeps.refl _ _).drew
          exact hcut.turn (((Keeps.refl _ _).drew).setCell (.inl ngw) _) ((hcut.fl.keep0 hkd).setW k1 _) (fun _ e => .inl e)
      · go_wp2_with fail
        go_region
        all_goals go_wp2_with fail
        all_goals go_meet
        all_goals
          rw [H2.out]
          have hkd : Keeps [] wc wc.drew := (Keeps.refl _ _).drew
          exact hcut.turn (((Keeps.refl _ _).drew).setCell (.inl ngw) _) ((hcut.fl.keep0 hkd).setW k1 _) (fun _ e => .inl e)
    case rest =>
    clear g2 g3 g4 g5 g6 g7 l5 l6 l7
    rename_i hcut1
    go_upto_region 9 with (fail)
    go_cut [] (fun wx => ∃ lv', MidR w wx b gw cw be lv' lv s3 (r1, (k : Int), v))
    case first =>
      obtain ⟨i0, hi, hz0, hz1, hz2⟩ := info_parts Try.info80
      have g2 := hcut.r0
      have g3 := hcut.r1
      have g4 := hcut.r2
      have g5 := hcut.fl.c4
      have g6 := hcut.fl.fz 4
      have l1 := hcut.fl.lb
      simp only at g2 g3 g4
      have hd2 : s2.done.length ≤ 1000000000 := by rw [E2.out]; exact hd
      have hbl := hcut.fl.dvb
      have l5 : w.heap.size < wc.heap.size := World.block_lt_of_cell? _ _ g2
      go_region_law (
        refine step_append_new rfl (.tmp 62) (.tmp 64) 46 rfl 0 80 i0 (.agg #[.bool false, .int .i64 0, .int .i64 0]) 3 24 Try.underlying46 hi hz0 hz1 hz2 rfl (by decide) lv s2.done.length (rawCells s2.done) rfl ?_ ⟨wc.heap.size, 0, none⟩ 1 1 [.bool r1, .int .i64 k, .int .i64 v] rfl rfl ?_ ?_ ?_ ?_ ?_ ?_
        · exact ownsRow_keep (F := []) hcut.fl.hd ((Keeps.refl _ _).alloc _).drew (by simp)
        · exact cells3_new wc _ _ _ 80
        · simp [Value.oneCell']
        · unfold maxLen; omega
        · omega
        · exact Nat.zero_le _
        intro v' w' ho hg hne hnew
        have HO := Lib.hid ho
        have HG := Lib.hid hg
        have HN := Lib.hid hnew
        have q1 : w'.cell? ⟨b, 4, none⟩ = some lv := (World.cell?_of_block (hg.block b (by simp; omega) (fun e => hbl.1 e.symm))).trans ((World.cell?_alloc_lt _ _ _ l1).trans g5)
        have q2 : w'.frozen? ⟨b, 4, none⟩ = false := (World.frozen?_of_block (hg.block b (by simp; omega) (fun e => hbl.1 e.symm))).trans ((World.frozen?_of_block (Below.heap_alloc _ _ _ l1)).trans g6)
        obtain ⟨g, cap', rfl⟩ : ∃ g cap', v' = .slice (some ⟨g, 0, none⟩) (s2.done.length + 1) cap' := by
          rcases ho.2 with ⟨_, h⟩ | ⟨g, cap', _, h, _⟩
          · omega
          · exact ⟨g, cap', h⟩
        clear ho hg hne hnew)
      all_goals
        go_wp2_with fail
        go_meet
        case rel =>
          rw [H3.out]
          exact ⟨_, hcut.app HG.out HO.out HN.out⟩
    case rest =>
    obtain ⟨lv', hcut⟩ := hcut
    go_wp2_with fail
    go_ret
    rw [← HFin.out]
    exact ⟨rfl, lv', hcut.fl, hcut.keep, fun j e => (hcut.new j e).imp id (fun h => Nat.le_of_lt h)⟩

end Go.Proofs.Ytcaphgokckkmfaa
