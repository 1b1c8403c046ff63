
/- slices.Grow of nil, slices.Concat of lists of records: contracts. No condition but that none of the parts is empty, and that all are a thousand at most. -/
import Derived.Test.YtihpmnnbiabggaaDoorRd
import Derived.Lib.AppendZerosOnto
import Derived.Lib.SliceRun
import Derived.OwnWalk
namespace Go.Proofs.YtihpmnnbiabggaaDoor
open Go.RowKit
set_option maxRecDepth 100000
set_option linter.unusedVariables false

set_option maxHeartbeats 1000000 in
theorem growR_nil (n : Nat) (w : World) (h0 : 0 < n) (hn : n ≤ 1000) :
    Calls Tryd.prog 34 #[.slice none 0 0, .int .i64 n] w fun e w' => ∃ G, e = .returned (.slice (some ⟨w.heap.size, 0, none⟩) 0 G) ∧ w'.ownsRow w.heap.size 50 13 (.slice (some ⟨w.heap.size, 0, none⟩) 0 G) 0 [] ∧ Keeps [] w w' := by
  obtain ⟨i0, hi, hz0, hz1, hz2⟩ := info_parts infoRec3
  have hold : (Builtin.firstCells i0.size 0 (.slice none 0 0)).run Tryd.prog w.drew = .ok (([] : List Value).toArray) w.drew := run_firstCells_none w.drew i0.size 0 0 0
  have hrz := fun ty => Lib.run_append_grow_zeros (P := Tryd.prog) w 36 3 ty 50 i0 _ .i64 .i64 Tryd.underlying36 Tryd.underlying3 hi hz0 none 0 0 [] hold n h0 (by rw [hz1]; omega) (by omega) (by omega) (by rw [hz2]; omega)
    (by rw [hz2, Nat.zero_add]; exact growslice_fits (by omega) (by omega))
  rw [Nat.zero_add] at hrz
  have hGn : n ≤ grownCap w n 0 50 := grownCap_ge w _ _ _
  have hGm := grownCap_le_maxLen w n 0 50 (by unfold maxLen; omega)
  obtain ⟨G, hG⟩ : ∃ G, G = grownCap w n 0 50 := ⟨_, rfl⟩
  rw [← hG] at hrz hGn hGm
  clear hold hG
  have HGM := Lib.hid hGm
  have hzc : (Value.agg (ints (zer 13))).cells.size = 13 := by decide
  obtain ⟨Z, hZ⟩ : ∃ Z, Z = Builtin.zeroCells (Value.agg (ints (zer 13))).cells n ++ Builtin.zeroCells (Value.agg (ints (zer 13))).cells (G - n) := ⟨_, rfl⟩
  have hcs : Z.size = G * 13 := by
    rw [hZ]
    simp only [Builtin.zeroCells, Array.size_append, Array.size_map, Array.size_range, hzc]
    omega
  have hrz2 : ∀ ty, (Builtin.append_ #[36, 3] ty #[.slice none 0 0, .int .i64 n]).run Tryd.prog w = .ok (.slice (some ⟨w.heap.size, 0, none⟩) n G) (w.drew.alloc (.cells Z 50)) := by
    intro ty
    rw [hrz ty, hZ]
    simp
  have HCS := Lib.hid hcs
  clear hZ hrz hcs hzc
  unfold maxLen at hGm
  go_enter Tryd.func34, Tryd.ntmps34
  go_wp2_with (at_builtin; refine Lib.wpList_append_run _ rfl _ _ _ _ rfl _ _ rfl rfl _ _ (hrz2 _) ?_)
  go_ret
  refine ⟨G, rfl, ⟨by simp, .inr ⟨w.heap.size, G, _, rfl, Nat.le_refl _, heap_alloc_new w _, Nat.zero_le _, HGM.out, HCS.out, by simp⟩⟩, ((Keeps.refl _ _).alloc _).drew⟩

theorem partsR_step (xss : List (List (List Int))) (k : Nat) (h : k < xss.length) : (xss.take (k + 1)).flatten = (xss.take k).flatten ++ xss.getD k [] := by
  rw [List.take_succ_eq_append_getElem h, List.flatten_append]
  simp [List.getD, h]
theorem partsR_le (xss : List (List (List Int))) (k : Nat) : (xss.take k).flatten.length ≤ xss.flatten.length := by
  have e := congrArg (fun l => l.flatten.length) (List.take_append_drop k xss)
  simp only [List.flatten_append, List.length_append] at e
  omega
/-- Parts, each a slice of records that are not none, stand one behind the other at an address. -/
def PartsR (w : World) (b : Nat) (xss : List (List (List Int))) : Prop := ∀ i, i < xss.length → ∃ ad c, w.cell? ⟨b, i, none⟩ = some (.slice (some ad) (xss.getD i []).length c) ∧ RecsAt w (some ad) (xss.getD i []).length (xss.getD i [])
theorem PartsR.keep {w w' : World} {b : Nat} {xss : List (List (List Int))} (h : PartsR w b xss) (hk : Keeps [] w w') : PartsR w' b xss := by
  intro i hi
  obtain ⟨ad, c, h1, h2⟩ := h i hi
  exact ⟨ad, c, (hk.cell (World.block_lt_of_cell? _ _ h1) (by simp)).trans h1, h2.keep0 hk⟩
theorem own_block {w : World} {base n size : Nat} {e : TypeId} {v : Value} {xs : List Value} (h : w.ownsRow base e size v n xs) : ∀ k, v.ownBlock = some k → base ≤ k := by
  intro k hk
  rcases h.2 with ⟨rfl, -⟩ | ⟨g, cap, cur, rfl, hb, -⟩
  · simp [Value.ownBlock] at hk
  · simp [Value.ownBlock] at hk
    omega

set_option maxHeartbeats 2000000 in
theorem concatR_any (b n c : Nat) (xss : List (List (List Int))) (w : World) (hp : PartsR w b xss) (hn : n = xss.length) (ys : List (List Int)) (hys : xss.flatten = ys) (h13 : ∀ r ∈ ys, r.length = 13) (hpos : 0 < ys.length) (hle : ys.length ≤ 1000) (hn1 : n ≤ 1000) :
    Calls Tryd.prog 20 #[.slice (some ⟨b, 0, none⟩) n c] w fun e w' => ∃ a c', e = .returned (.slice a ys.length c') ∧ RecsAt w' a ys.length ys ∧ ys.length ≤ c' ∧ c' ≤ maxLen ∧ Keeps [] w w' := by
  obtain ⟨i0, hi, hz0, hz1, hz2⟩ := info_parts infoRec3
  have HP := Lib.hid hp
  have HYS := Lib.hid hys
  have HN := Lib.hid hn
  have HPOS := Lib.hid hpos
  have HLE := Lib.hid hle
  have H13 := Lib.hid h13
  clear hp hn hpos hle hys h13
  go_enter Tryd.func20, Tryd.ntmps20
  go_wp2_with fail
  go_loop [3, 5, 11] (fun vs v5 vi => ∃ k : Nat, k ≤ n ∧ vi = .int .i64 k ∧ vs = .int .i64 ((xss.take k).flatten.length : Nat)) (fun _ _ vi => n - (intOf vi).toNat)
  case atStart => exact ⟨0, Nat.zero_le _, rfl, by simp⟩
  case round =>
    obtain ⟨k, hk, rfl, rfl⟩ := hrel
    have hlk := Nat.le_trans (partsR_le xss k) (by rw [HYS.out]; exact HLE.out)
    obtain ⟨L, hL⟩ : ∃ L, L = (xss.take k).flatten.length := ⟨_, rfl⟩
    rw [← hL] at hlk ⊢
    have HL := Lib.hid hL
    clear hL
    by_cases hlt : k < n
    · obtain ⟨ad, cc, hc, -⟩ := HP.out k (by rw [← HN.out]; exact hlt)
      have hst := congrArg List.length (partsR_step xss k (by rw [← HN.out]; exact hlt))
      have hlk1 := Nat.le_trans (partsR_le xss (k + 1)) (by rw [HYS.out]; exact HLE.out)
      rw [List.length_append, ← HL.out] at hst
      obtain ⟨m, hm⟩ : ∃ m, m = (xss.getD k []).length := ⟨_, rfl⟩
      rw [← hm] at hst hc
      have HST := Lib.hid hst
      have hm1 : L + m ≤ 1000 := by omega
      clear hst hlk1 hm
      go_wp2_with fail
      go_round
      case rel => exact ⟨k + 1, by omega, by go_num, by rw [HST.out]; go_num⟩
      case measure => simp [intOf]; omega
    · have hkn : k = n := by omega
      have hfin : L = ys.length := by rw [HL.out, List.take_of_length_le (by have := HN.out; omega), HYS.out]
      have hL0 : 0 < L := by have := HPOS.out; omega
      have HF := Lib.hid hfin
      clear hfin hkn
      go_wp2_with (go_at_call 34; refine (growR_nil L _ hL0 hlk).mono ?_; rintro e w1 ⟨G, rfl, ho, k1⟩; have HO := Lib.hid ho; have K1 := Lib.hid k1; clear ho k1)
      go_loopw [6, 8, 27] (fun vs v8 vi wr => ∃ (k g c' : Nat), k ≤ n ∧ vi = .int .i64 k ∧ vs = .slice (some ⟨g, 0, none⟩) (xss.take k).flatten.length c' ∧ wr.ownsRow w.heap.size 50 13 (.slice (some ⟨g, 0, none⟩) (xss.take k).flatten.length c') (xss.take k).flatten.length ((xss.take k).flatten.flatten.map (.int .i64)) ∧ Keeps [] w wr) (fun _ _ vi _ => n - (intOf vi).toNat)
      case atStart => exact ⟨0, w.heap.size, G, Nat.zero_le _, rfl, by simp, by simpa using HO.out, K1.out⟩
      case round =>
        obtain ⟨k, g, c', hk, rfl, rfl, hA, hkk⟩ := hrel
        have hlk := Nat.le_trans (partsR_le xss k) (by rw [HYS.out]; exact HLE.out)
        obtain ⟨Y, hY⟩ : ∃ Y, Y = (xss.take k).flatten := ⟨_, rfl⟩
        rw [← hY] at hlk hA ⊢
        have HY := Lib.hid hY
        have HA := Lib.hid hA
        have HK := Lib.hid hkk
        have hks := hkk.size
        clear hY hA
        by_cases hlt : k < n
        · obtain ⟨ad, cc, hc, hin⟩ := (HP.out.keep hkk) k (by rw [← HN.out]; exact hlt)
          have hst := partsR_step xss k (by rw [← HN.out]; exact hlt)
          have hlk1 := Nat.le_trans (partsR_le xss (k + 1)) (by rw [HYS.out]; exact HLE.out)
          rw [hst, List.length_append, ← HY.out] at hlk1
          rw [← HY.out] at hst
          obtain ⟨X, hX⟩ : ∃ X, X = xss.getD k [] := ⟨_, rfl⟩
          rw [← hX] at hst hc hin hlk1
          obtain ⟨m, hm⟩ : ∃ m, m = X.length := ⟨_, rfl⟩
          rw [← hm] at hc hin hlk1
          obtain ⟨L2, hL2⟩ : ∃ L2, L2 = Y.length := ⟨_, rfl⟩
          rw [← hL2] at hlk1 hlk
          obtain ⟨cells, hcells⟩ : ∃ cells, cells = X.flatten.map (Value.int .i64) := ⟨_, rfl⟩
          have hno := hin.2.2.news
          rw [← hcells] at hno
          have hcl : cells.length = m * 13 := by rw [hcells, List.length_map, flat13 hin.2.1, ← hm]; omega
          have hc1 : ∀ u ∈ cells, u.oneCell' = true := by rw [hcells]; exact map_one _
          have HST := Lib.hid hst
          have HNO := Lib.hid hno
          have HCL := Lib.hid hcl
          have HC1 := Lib.hid hc1
          have HM := Lib.hid hm
          have HL2 := Lib.hid hL2
          have HCE := Lib.hid hcells
          rw [← HL2.out] at HA ⊢
          clear hst hX hin hno hcl hc1 hm hL2 hcells hkk
          go_wp2_with (at_builtin; refine wpList_append_new _ rfl (.tmp 31) (.tmp 32) 36 rfl w.heap.size 50 i0 _ 13 104 Tryd.underlying36 hi hz0 hz1 hz2 (by decide) (by decide) (.slice (some ⟨g, 0, none⟩) L2 c') L2 _ rfl HA.out ad m cc cells rfl HCL.out HNO.out HC1.out (by unfold maxLen; omega) (by omega) hks ?_; intro v' w' q1 q2 q3 q4)
          have q1' : w'.ownsRow w.heap.size 50 13 v' ((xss.take (k + 1)).flatten.length) (((xss.take (k + 1)).flatten.flatten).map (.int .i64)) := by
            rw [HST.out, List.length_append, List.flatten_append, List.map_append, ← HCE.out, ← HM.out, ← HL2.out]
            exact q1
          obtain ⟨g', c'', rfl⟩ : ∃ g' c'', v' = .slice (some ⟨g', 0, none⟩) (xss.take (k + 1)).flatten.length c'' := by
            rcases q1'.2 with ⟨e, -⟩ | ⟨g', cap, cur, e, -⟩
            · exact absurd (q3.1 e).1 (by simp)
            · exact ⟨g', cap, e⟩
          have hku : Keeps [] w w' := HK.out.grown q2 (fun j e => .inr (own_block HA.out j e))
          have HA' := Lib.hid q1'
          have HKU := Lib.hid hku
          clear q1 q1' q2 q3 q4 hku
          go_wp2_with fail
          go_roundw
          case rel => exact ⟨k + 1, g', c'', by omega, by go_num, rfl, HA'.out, HKU.out⟩
          case measure => simp [intOf]; omega
        · have hfin : Y = ys := by rw [HY.out, List.take_of_length_le (by have := HN.out; omega), HYS.out]
          have hown := HA.out
          rw [hfin] at hown
          obtain ⟨a', c'', he, hr, h1, h2, -⟩ := recs_of_own H13.out rfl hown
          injection he with he1 he2 he3
          subst he1; subst he3
          have HFI := Lib.hid (congrArg List.length hfin)
          have HR := Lib.hid hr
          have H1 := Lib.hid h1
          have H2 := Lib.hid h2
          clear hfin hkk hown hr h1 h2
          go_wp2_with fail
          go_ret
          exact ⟨_, _, by rw [HFI.out]; rfl, HR.out, H1.out, H2.out, HK.out⟩

end Go.Proofs.YtihpmnnbiabggaaDoor
