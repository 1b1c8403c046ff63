
/- slices.Grow of nil, slices.Concat of lists of ints: contracts. No condition but that none of the parts is empty, and that all are a million at most. -/
import Derived.Test.YtihpmnnbiabggaaDoorAp
import Derived.Lib.AppendZerosOnto
import Derived.Lib.SliceRun
import Derived.OwnWalk
namespace Go.Proofs.YtihpmnnbiabggaaDoor
open Go.RowKit
set_option maxRecDepth 100000
set_option linter.unusedVariables false

theorem bytes8 (i : TypeInfo) (h : Tryd.prog.info? 3 = some i) : i.bytes = 8 ∧ i.size = 1 ∧ i.zero = some (.int .i64 0) := by
  have := Tryd.info3
  simp [h] at this
  exact ⟨this.2.2, this.2.1, this.1⟩

set_option maxHeartbeats 1000000 in
theorem grow_nil (n : Nat) (w : World) (h0 : 0 < n) (hn : n ≤ 1000000) :
    Calls Tryd.prog 46 #[.slice none 0 0, .int .i64 n] w fun e w' => ∃ G, e = .returned (.slice (some ⟨w.heap.size, 0, none⟩) 0 G) ∧ w'.ownsRow w.heap.size 3 1 (.slice (some ⟨w.heap.size, 0, none⟩) 0 G) 0 [] ∧ Keeps [] w w' := by
  obtain ⟨i0, hi, hz0, hz1, hz2⟩ := info_parts Tryd.info3
  have hold : (Builtin.firstCells i0.size 0 (.slice none 0 0)).run Tryd.prog w.drew = .ok (([] : List Value).toArray) w.drew := run_firstCells_none w.drew i0.size 0 0 0
  have hrz := fun ty => Lib.run_append_grow_zeros (P := Tryd.prog) w 22 3 ty 3 i0 _ .i64 .i64 Tryd.underlying22 Tryd.underlying3 hi hz0 none 0 0 [] hold n h0 (by rw [hz1]; omega) (by omega) (by omega) (by rw [hz2]; omega)
    (by rw [hz2, Nat.zero_add]; exact growslice_fits (by omega) (by omega))
  rw [Nat.zero_add] at hrz
  have hGn : n ≤ grownCap w n 0 3 := grownCap_ge w _ _ _
  have hGm := grownCap_le_maxLen w n 0 3 (by unfold maxLen; omega)
  obtain ⟨G, hG⟩ : ∃ G, G = grownCap w n 0 3 := ⟨_, rfl⟩
  rw [← hG] at hrz hGn hGm
  clear hold hG
  have HGM := Lib.hid hGm
  unfold maxLen at hGm
  go_enter Tryd.func46, Tryd.ntmps46
  go_wp2_with (at_builtin; refine Lib.wpList_append_run _ rfl _ _ _ _ rfl _ _ rfl rfl _ _ (hrz _) ?_)
  go_ret
  have hcs : (Builtin.zeroCells #[Value.int .i64 0] n ++ Builtin.zeroCells #[Value.int .i64 0] (G - n)).size = G := by
    simp [Builtin.zeroCells]
    omega
  refine ⟨G, rfl, ⟨by simp, .inr ⟨w.heap.size, G, _, rfl, Nat.le_refl _, heap_alloc_new w _, Nat.zero_le _, HGM.out, by rw [hcs]; omega, by simp⟩⟩, ((Keeps.refl _ _).alloc _).drew⟩

/-- The parts of a list of lists, one behind the other. -/
def catL (xss : List (List Int)) : List Int := xss.flatten
def lensI (xss : List (List Int)) (k : Nat) : Int := ((xss.take k).flatten.length : Nat)
theorem lens_step (xss : List (List Int)) (k : Nat) (h : k < xss.length) : (xss.take (k + 1)).flatten = (xss.take k).flatten ++ xss.getD k [] := by
  rw [List.take_succ_eq_append_getElem h, List.flatten_append]
  simp [List.getD, h]
theorem lens_le (xss : List (List Int)) (k : Nat) : (xss.take k).flatten.length ≤ xss.flatten.length := by
  have e := congrArg (fun l => l.flatten.length) (List.take_append_drop k xss)
  simp only [List.flatten_append, List.length_append] at e
  omega

/-- Parts, each a slice of ints that are not none, stand one behind the other at an address. -/
def Parts (w : World) (b : Nat) (xss : List (List Int)) : Prop := ∀ i, i < xss.length → ∃ ad c, w.cell? ⟨b, i, none⟩ = some (.slice (some ad) (xss.getD i []).length c) ∧ IntsAt w (some ad) (xss.getD i []).length (xss.getD i []) ∧ (xss.getD i []).length ≤ c ∧ c ≤ maxLen
theorem Parts.keep {w w' : World} {b : Nat} {xss : List (List Int)} (h : Parts w b xss) (hk : Keeps [] w w') : Parts w' b xss := by
  intro i hi
  obtain ⟨ad, c, h1, h2, h3⟩ := h i hi
  exact ⟨ad, c, (hk.cell (World.block_lt_of_cell? _ _ h1) (by simp)).trans h1, h2.keep0 hk, h3⟩

set_option maxHeartbeats 2000000 in
theorem concat_any (b n c : Nat) (xss : List (List Int)) (w : World) (hp : Parts w b xss) (hn : n = xss.length) (ys : List Int) (hys : xss.flatten = ys) (hpos : 0 < ys.length) (hle : ys.length ≤ 1000000) (hn1 : n ≤ 1000000) :
    Calls Tryd.prog 38 #[.slice (some ⟨b, 0, none⟩) n c] w fun e w' => ∃ v, e = .returned v ∧ ∃ g c', v = .slice (some ⟨g, 0, none⟩) ys.length c' ∧ w.heap.size ≤ g ∧ Arr w' g c' ys ∧ Keeps [] w w' := by
  obtain ⟨i0, hi, hz0, hz1, hz2⟩ := info_parts Tryd.info3
  have HP := Lib.hid hp
  have HYS := Lib.hid hys
  have HN := Lib.hid hn
  have HPOS := Lib.hid hpos
  have HLE := Lib.hid hle
  clear hp hn hpos hle hys
  go_enter Tryd.func38, Tryd.ntmps38
  go_wp2_with fail
  go_loop [3, 5, 11] (fun vs v5 vi => ∃ k : Nat, k ≤ n ∧ vi = .int .i64 k ∧ vs = .int .i64 ((xss.take k).flatten.length : Nat)) (fun _ _ vi => n - (intOf vi).toNat)
  case atStart => exact ⟨0, Nat.zero_le _, rfl, by simp⟩
  case round =>
    obtain ⟨k, hk, rfl, rfl⟩ := hrel
    have hlk := Nat.le_trans (lens_le xss k) (by rw [HYS.out]; exact HLE.out)
    obtain ⟨L, hL⟩ : ∃ L, L = (xss.take k).flatten.length := ⟨_, rfl⟩
    rw [← hL] at hlk ⊢
    have HL := Lib.hid hL
    clear hL
    by_cases hlt : k < n
    · obtain ⟨ad, cc, hc, -, -⟩ := HP.out k (by rw [← HN.out]; exact hlt)
      have hst := congrArg List.length (lens_step xss k (by rw [← HN.out]; exact hlt))
      have hlk1 := Nat.le_trans (lens_le xss (k + 1)) (by rw [HYS.out]; exact HLE.out)
      rw [List.length_append, ← HL.out] at hst
      obtain ⟨m, hm⟩ : ∃ m, m = (xss.getD k []).length := ⟨_, rfl⟩
      rw [← hm] at hst hc
      have HST := Lib.hid hst
      have hm1 : L + m ≤ 1000000 := by omega
      clear hst hlk1 hm
      go_wp2_with fail
      go_round
      case rel => exact ⟨k + 1, by omega, by go_num, by rw [HST.out]; go_num⟩
      case measure => simp [intOf]; omega
    · have hkn : k = n := by omega
      have hfin : L = ys.length := by rw [HL.out, List.take_of_length_le (by have := HN.out; omega), HYS.out]
      have hL0 : 0 < L := by have := HPOS.out; omega
      have HF := Lib.hid hfin
      clear hfin hkn
      go_wp2_with (go_at_call 46; refine (grow_nil L _ hL0 hlk).mono ?_; rintro e w1 ⟨G, rfl, ho, k1⟩; have HO := Lib.hid ho; have K1 := Lib.hid k1; clear ho k1)
      obtain ⟨g0, c0, e0, hg0, hA0⟩ := Arr.of_own (xs := []) HO.out (by simp)
      injection e0 with e1 e2 e3
      injection e1 with e1
      injection e1 with e1
      subst e3
      rw [← e1] at hA0
      have HA0 := Lib.hid hA0
      clear hA0 e1 e2 hg0
      go_loopw [6, 8, 27] (fun vs v8 vi wr => ∃ (k g c' : Nat), k ≤ n ∧ vi = .int .i64 k ∧ vs = .slice (some ⟨g, 0, none⟩) (xss.take k).flatten.length c' ∧ Arr wr g c' (xss.take k).flatten ∧ w.heap.size ≤ g ∧ Keeps [] w wr) (fun _ _ vi _ => n - (intOf vi).toNat)
      case atStart => exact ⟨0, w.heap.size, G, Nat.zero_le _, rfl, by simp, by simpa using HA0.out, Nat.le_refl _, K1.out⟩
      case round =>
        obtain ⟨k, g, c', hk, rfl, rfl, hA, hg, hkk⟩ := hrel
        have hlk := Nat.le_trans (lens_le xss k) (by rw [HYS.out]; exact HLE.out)
        obtain ⟨Y, hY⟩ : ∃ Y, Y = (xss.take k).flatten := ⟨_, rfl⟩
        rw [← hY] at hlk hA ⊢
        have HY := Lib.hid hY
        have HA := Lib.hid hA
        have HK := Lib.hid hkk
        have hks := hkk.size
        clear hY hA
        by_cases hlt : k < n
        · obtain ⟨ad, cc, hc, hin, -⟩ := (HP.out.keep hkk) k (by rw [← HN.out]; exact hlt)
          have hst := lens_step xss k (by rw [← HN.out]; exact hlt)
          have hlk1 := Nat.le_trans (lens_le xss (k + 1)) (by rw [HYS.out]; exact HLE.out)
          rw [hst, List.length_append, ← HY.out] at hlk1
          rw [← HY.out] at hst
          obtain ⟨X, hX⟩ : ∃ X, X = xss.getD k [] := ⟨_, rfl⟩
          rw [← hX] at hst hc hin hlk1
          have hno := hin.news
          have hown := HA.out.own hg Y.length rfl
          have HST := Lib.hid hst
          have HNO := Lib.hid hno
          have HOW := Lib.hid hown
          clear hst hX hin hno hown hkk
          go_wp2_with (at_builtin; refine wpList_append_new _ rfl (.tmp 31) (.tmp 32) 22 rfl w.heap.size 3 i0 (.int .i64 0) 1 8 Tryd.underlying22 hi hz0 hz1 hz2 rfl (by decide) (.slice (some ⟨g, 0, none⟩) Y.length c') Y.length _ rfl HOW.out ad X.length cc (X.map (Value.int .i64)) rfl (by simp) HNO.out (by simp [Value.oneCell']) (by unfold maxLen; omega) (by omega) hks ?_; intro v' w' q1 q2 q3 q4)
          have hv : v' ≠ .slice none 0 0 := fun e => absurd (q3.1 e).1 (by simp)
          have q1' : w'.ownsRow w.heap.size 3 1 v' (Y.length + X.length) (((xss.take (k + 1)).flatten).map (.int .i64)) := by rw [HST.out, List.map_append]; exact q1
          obtain ⟨g', c'', rfl, hg', hA'⟩ := Arr.of_own q1' hv
          have hku : Keeps [] w w' := HK.out.grown q2 (by intro k e; injection e with e; right; rw [← e]; exact hg)
          have HA' := Lib.hid hA'
          have HKU := Lib.hid hku
          clear q1 q1' q2 q3 q4 hv hA' hku
          go_wp2_with fail
          go_roundw
          case rel => exact ⟨k + 1, g', c'', by omega, by go_num, rfl, HA'.out, hg', HKU.out⟩
          case measure => simp [intOf]; omega
        · have hfin : Y = ys := by rw [HY.out, List.take_of_length_le (by have := HN.out; omega), HYS.out]
          have HF := Lib.hid hfin
          clear hfin hkk
          go_wp2_with fail
          go_ret
          exact ⟨_, rfl, g, c', by rw [HF.out]; rfl, hg, by rw [← HF.out]; exact HA.out, HK.out⟩

end Go.Proofs.YtihpmnnbiabggaaDoor
