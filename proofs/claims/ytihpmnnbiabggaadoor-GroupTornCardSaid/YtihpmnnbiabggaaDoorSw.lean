
/- slot: halves, Words: contracts. No condition but the table of the sums, and that all are numbers of 64 bits. -/
import Derived.Test.YtihpmnnbiabggaaDoorSp
import Derived.Test.YtihpmnnbiabggaaDoorSg
import Derived.Test.YtihpmnnbiabggaaDoorCf
import Derived.OwnWalk
namespace Go.Proofs.YtihpmnnbiabggaaDoor
open Go.RowKit
set_option maxRecDepth 100000
set_option linter.unusedVariables false

theorem swithin_any (l h n : Int) (w : World) :
    Calls Tryd.prog 31 #[.int .i64 l, .int .i64 h, .int .i64 n] w fun e w' => e = .returned (.bool (decide (l ≤ n ∧ n ≤ h))) ∧ w = w' := by
  by_cases h1 : l ≤ n
  · by_cases h2 : n ≤ h
    · have hf : decide (l ≤ n ∧ n ≤ h) = true := by simp [h1, h2]
      rw [hf]
      clear hf
      go_enter Tryd.func31, Tryd.ntmps31
      go_wp2
      go_ret
      exact ⟨rfl, rfl⟩
    · have hf : decide (l ≤ n ∧ n ≤ h) = false := by simp [h2]
      rw [hf]
      clear hf
      go_enter Tryd.func31, Tryd.ntmps31
      go_wp2
      go_ret
      exact ⟨rfl, rfl⟩
  · have hf : decide (l ≤ n ∧ n ≤ h) = false := by simp [h1]
    rw [hf]
    clear hf
    go_enter Tryd.func31, Tryd.ntmps31
    go_wp2
    go_ret
    exact ⟨rfl, rfl⟩

theorem ints_new1 (w : World) (s : Int) (t : TypeId) : IntsAt (w.alloc (.cells #[.int .i64 s] t)) (some ⟨w.heap.size, 0, none⟩) 1 [s] := ints_new w [s] _ rfl t

theorem halves_any (s : Int) (w : World) (h64 : I64 s) :
    Calls Tryd.prog 30 #[.int .i64 s] w fun e w' => Out w w' (putR 2 false [s]) e := by
  obtain ⟨R, hR⟩ : ∃ R, R = putR 2 false [s] := ⟨_, rfl⟩
  have HR := Lib.hid hR
  rw [← hR]
  clear hR
  go_enter Tryd.func30, Tryd.ntmps30
  go_wp2_with fail
  refine (Plain_any 2 _ 1 1 [s] _ (ints_new1 _ _ _) (by intro x hx; rw [List.mem_singleton] at hx; subst hx; exact h64) (by omega)).mono ?_
  rw [← HR.out]
  rintro e w2 ⟨a2, c2, rfl, h2, k2, l2⟩
  have H2 := Lib.hid h2
  have L2 := Lib.hid l2
  clear h2 l2
  go_wp2_with fail
  go_ret2
  exact ⟨a2, c2, rfl, H2.out, ((Keeps.refl _ _).alloc _).trans0 k2, L2.out⟩

/-- A call handed back a list of its own, or none, and a code, and left what there was. -/
def WOut (w w' : World) (r : Int × List Int) (e : Ending) : Prop :=
  (r.2 = [] ∧ e = .returned (.tuple #[.slice none 0 0, .int .i64 r.1]) ∧ Keeps [] w w') ∨
  (r.2 ≠ [] ∧ ∃ g cc, e = .returned (.tuple #[.slice (some ⟨g, 0, none⟩) r.2.length cc, .int .i64 r.1]) ∧ w.heap.size ≤ g ∧ Arr w' g cc r.2 ∧ Keeps [] w w')
theorem WOut.out {w w' : World} {r : Int × List Int} {e : Ending} (h : WOut w w' r e) : Out w w' r e := by
  obtain ⟨c, l⟩ := r
  rcases h with ⟨rfl, rfl, hk⟩ | ⟨_, g, cc, rfl, hg, hA, hk⟩
  · exact Out.of_nil hk
  · exact ⟨_, cc, rfl, hA.ints, hk, hA.le, hA.cm⟩
theorem WOut.of_nil {w w' : World} {c : Int} (hk : Keeps [] w w') : WOut w w' (c, []) (.returned (.tuple #[.slice none 0 0, .int .i64 c])) := .inl ⟨rfl, rfl, hk⟩

theorem parts3 (w : World) (h : Int) (a2 a3 : Addr) (c2 c3 : Nat) (x2 x3 : List Int) (i2 : IntsAt w (some a2) x2.length x2) (i3 : IntsAt w (some a3) x3.length x3) (l2 : x2.length ≤ c2) (m2 : c2 ≤ maxLen) (l3 : x3.length ≤ c3) (m3 : c3 ≤ maxLen) :
    Parts ((w.alloc (.cells #[.int .i64 h] 3)).alloc (.cells #[.slice (some ⟨w.heap.size, 0, none⟩) 1 1, .slice (some a2) x2.length c2, .slice (some a3) x3.length c3] 22)) (w.heap.size + 1) [[h], x2, x3] := by
  have k1 : Keeps [] w (w.alloc (.cells #[.int .i64 h] 3)) := (Keeps.refl _ _).alloc _
  have e1 := ints_new1 w h 3
  have s1 : (w.alloc (.cells #[.int .i64 h] 3)).heap.size = w.heap.size + 1 := by simp
  have j2 := i2.keep0 k1
  have j3 := i3.keep0 k1
  generalize w.alloc (.cells #[.int .i64 h] 3) = w1 at *
  have k2 : Keeps [] w1 (w1.alloc (.cells #[.slice (some ⟨w.heap.size, 0, none⟩) 1 1, .slice (some a2) x2.length c2, .slice (some a3) x3.length c3] 22)) := (Keeps.refl _ _).alloc _
  intro i hi
  have hc : ∀ (i : Nat) (v : Value), (#[.slice (some ⟨w.heap.size, 0, none⟩) 1 1, .slice (some a2) x2.length c2, .slice (some a3) x3.length c3] : Array Value)[i]? = some v → (w1.alloc (.cells #[.slice (some ⟨w.heap.size, 0, none⟩) 1 1, .slice (some a2) x2.length c2, .slice (some a3) x3.length c3] 22)).cell? ⟨w.heap.size + 1, i, none⟩ = some v := by
    intro i v hv
    rw [← s1, World.cell?_alloc_new]
    exact hv
  rcases i with _ | _ | _ | i
  · exact ⟨_, 1, hc 0 _ rfl, e1.keep0 k2, Nat.le_refl _, by unfold maxLen; omega⟩
  · exact ⟨_, c2, hc 1 _ rfl, j2.keep0 k2, l2, m2⟩
  · exact ⟨_, c3, hc 2 _ rfl, j3.keep0 k2, l3, m3⟩
  · simp at hi; omega

set_option maxHeartbeats 2000000 in
theorem words_any (l : List Int) (w : World) (ht : Turns w) (hl : l.length = 13) (h64 : ∀ x ∈ l, I64 x) :
    Calls Tryd.prog 33 #[.agg (ints l)] w fun e w' => WOut w w' (wordsR l) e := by
  obtain ⟨i0, hi, hz0, hz1, hz2⟩ := info_parts Tryd.info3
  obtain ⟨k, hk⟩ : ∃ k, k = l.getD 0 0 := ⟨_, rfl⟩
  obtain ⟨s, hs⟩ : ∃ s, s = l.getD 1 0 := ⟨_, rfl⟩
  obtain ⟨p, hp⟩ : ∃ p, p = l.drop 2 := ⟨_, rfl⟩
  have hs64 : I64 s := by rw [hs]; exact h64 _ (by simp [List.getD, hl])
  have hp64 : ∀ x ∈ p, I64 x := fun x hx => h64 x (by rw [hp] at hx; exact List.mem_of_mem_drop hx)
  have hplen : p.length = 11 := by rw [hp]; simp [hl]
  have hright : rightB l = (decide (0 ≤ k ∧ k ≤ 4) && (decide (0 ≤ s ∧ s ≤ 4294967295) && p.all wordB)) := by rw [hk, hs, hp]; rfl
  have hhead : headL l = (23040 + k) :: (s / 65536) :: (s % 65536) :: p := by rw [hk, hs, hp]; rfl
  have h0 : RecAt (w.alloc (.cells (ints l) 50)) w.heap.size l := heap_alloc_new w _
  have k0 : Keeps [] w (w.alloc (.cells (ints l) 50)) := (Keeps.refl _ _).alloc _
  have hc0 := h0.cell 0 (by omega)
  have hc1 := h0.cell 1 (by omega)
  have hip := h0.pay hl
  have ht0 := ht.keep k0
  rw [← hk] at hc0
  rw [← hs] at hc1
  rw [← hp] at hip
  have HHEAD := Lib.hid hhead
  have HRIGHT := Lib.hid hright
  have HT := Lib.hid ht0
  have HIP := Lib.hid hip
  have HP64 := Lib.hid hp64
  have HPL := Lib.hid hplen
  clear hk hs hp hhead hright ht0 hip h0 hp64 hplen ht
  go_enter Tryd.func33, Tryd.ntmps33
  go_upto_region 1 with fail
  generalize w.alloc (.cells (ints l) 50) = w0 at *
  have K0 := Lib.hid k0
  clear k0
  by_cases hk4 : 0 ≤ k ∧ k ≤ 4
  · have HD := Lib.hid (show decide (0 ≤ k ∧ k ≤ 4) = true by simpa using hk4)
    go_wp2_with fail
    refine (swithin_any _ _ _ _).mono ?_
    rintro e w1 ⟨he, rfl⟩
    rw [HD.out] at he
    subst he
    go_wp2_with fail
    refine (halves_any s _ hs64).mono ?_
    rintro e w1 ho
    have hp2 := put_two s
    by_cases hs4 : 0 ≤ s ∧ s ≤ 4294967295
    · rw [if_pos hs4] at hp2
      rw [hp2] at ho
      obtain ⟨a2, c2, rfl, h2, k2, l2, m2⟩ := ho
      obtain ⟨ad2, rfl⟩ : ∃ ad, a2 = some ad := by
        rcases a2 with _ | ad
        · exact absurd (h2.2.1 rfl) (by simp)
        · exact ⟨ad, rfl⟩
      have K1 := Lib.hid (K0.out.trans0 k2)
      have HI1 := Lib.hid (HIP.out.keep0 k2)
      have HT1 := Lib.hid (HT.out.keep k2)
      have HC0 := (k2.cell (World.block_lt_of_cell? _ _ hc0) (by simp)).trans hc0
      have H2 := Lib.hid h2
      have L2 := Lib.hid l2
      have M2 := Lib.hid m2
      clear hp2 h2 k2 l2 m2 hc0 hc1 HT HIP
      go_wp2_with fail
      refine (Plain_any 1 _ 11 11 p _ HI1.out HP64.out (by omega)).mono ?_
      rintro e w2 ho
      have hp1 := put_one p
      by_cases hpw : p.all wordB = true
      · rw [if_pos hpw] at hp1
        rw [hp1] at ho
        obtain ⟨a3, c3, rfl, h3, k3, l3, m3⟩ := ho
        obtain ⟨ad3, rfl⟩ : ∃ ad, a3 = some ad := by
          rcases a3 with _ | ad
          · have := h3.2.1 rfl
            have h11 := HPL.out
            simp at this
            rw [this] at h11
            simp at h11
          · exact ⟨ad, rfl⟩
        have hfin : wordsR l = (0, wordsL l) := by
          unfold wordsR
          rw [if_pos (by rw [HRIGHT.out, hpw]; simp [hk4, hs4])]
        have hyl : (headL l).length = 14 := headL_len hl
        obtain ⟨Y, hY⟩ : ∃ Y, Y = headL l := ⟨_, rfl⟩
        rw [← hY] at hyl
        have hflat : ([[23040 + k], [s / 65536, s % 65536], p] : List (List Int)).flatten = Y := by rw [hY, HHEAD.out]; simp
        have HY := Lib.hid hY
        have HYL := Lib.hid hyl
        have HFL := Lib.hid hflat
        have HFIN := Lib.hid hfin
        have K2 := Lib.hid (K1.out.trans0 k3)
        have HC1 := (k3.cell (World.block_lt_of_cell? _ _ HC0) (by simp)).trans HC0
        have HT2 := Lib.hid (HT1.out.keep k3)
        have hps := parts3 w2 (23040 + k) ad2 ad3 c2 c3 _ _ (H2.out.keep0 k3) h3 L2.out M2.out l3 m3
        have HPS := Lib.hid hps
        have hw : wrap64 (23040 + k) = 23040 + k := by unfold wrap64; omega
        clear hY hyl hflat hfin hp1 h3 k3 l3 m3 HC0 hps
        go_wp2_with fail
        refine (concat_any (w2.heap.size + 1) 3 3 [[23040 + k], [s / 65536, s % 65536], p] _ HPS.out rfl Y HFL.out (by rw [HYL.out]; omega) (by rw [HYL.out]; omega) (by omega)).mono ?_
        rintro e w3 ⟨v, rfl, g, c', rfl, hg, hA, k3⟩
        have K3 := Lib.hid (K2.out.trans0 ((((Keeps.refl [] w2).alloc _).alloc _).trans0 k3))
        have HT3 := Lib.hid (HT2.out.keep ((((Keeps.refl [] w2).alloc _).alloc _).trans0 k3))
        have hg2 : w.heap.size ≤ g := by
          have := K2.out.size
          simp at hg
          omega
        rw [HYL.out]
        obtain ⟨S, hS⟩ : ∃ S, S = (crcI 65535 Y : Int) := ⟨_, rfl⟩
        have HS := Lib.hid hS
        have HA := Lib.hid hA
        have hks := K3.out.size
        clear hg hA k3 hS HC1 HPS
        go_wp2_with fail
        refine (crcOf_any _ 14 _ Y _ HT3.out (by have := HA.out.ints; rw [HYL.out] at this; exact this) (by unfold maxLen; omega)).mono ?_
        rintro e w4 ⟨he, rfl⟩
        rw [← HS.out] at he
        subst he
        have hown := ownsRow_keep (F := []) (HA.out.own hg2 14 HYL.out.symm) ((Keeps.refl _ _).alloc (.cells #[.int .i64 S, .int .i64 21930] 3)) (by simp)
        have HO := Lib.hid hown
        have hno : ∀ (j : Nat) (u : Value), ([Value.int .i64 S, .int .i64 21930] : List Value)[j]? = some u → (w3.alloc (.cells #[.int .i64 S, .int .i64 21930] 3)).cell? ((⟨w3.heap.size, 0, none⟩ : Addr).add j) = some u :=
          (ints_new w3 [S, 21930] #[.int .i64 S, .int .i64 21930] rfl 3).news
        have HNO := Lib.hid hno
        clear hown hno
        go_wp2_with (at_builtin; refine wpList_append_new _ rfl (.tmp 38) (.tmp 41) 22 rfl w.heap.size 3 i0 (.int .i64 0) 1 8 Tryd.underlying22 hi hz0 hz1 hz2 rfl (by decide) (.slice (some ⟨g, 0, none⟩) 14 c') 14 _ rfl HO.out ⟨w3.heap.size, 0, none⟩ 2 2 [.int .i64 S, .int .i64 21930] rfl rfl HNO.out (by simp [Value.oneCell']) (by unfold maxLen; omega) (by omega) (by simp; omega) ?_; intro v' w' q1 q2 q3 q4)
        have hv : v' ≠ .slice none 0 0 := fun e => absurd (q3.1 e).1 (by simp)
        have q1' : w'.ownsRow w.heap.size 3 1 v' (14 + 2) ((wordsL l).map (.int .i64)) := by
          have e : (wordsL l).map (Value.int .i64) = Y.map (Value.int .i64) ++ [.int .i64 S, .int .i64 21930] := by rw [HS.out, HY.out]; simp [wordsL]
          rw [e]
          exact q1
        obtain ⟨g', c'', rfl, hg', hA'⟩ := Arr.of_own q1' hv
        have hku : Keeps [] w w' := (K3.out.alloc _).grown q2 (by intro k e; injection e with e; right; rw [← e]; exact hg2)
        go_ret2
        rw [HFIN.out]
        exact .inr ⟨by simp [wordsL], g', c'', rfl, hg', hA', hku⟩
      · rw [if_neg hpw] at hp1
        rw [hp1] at ho
        obtain ⟨a3, c3, rfl, h3, k3, l3, m3⟩ := ho
        have hfin : wordsR l = (2, []) := by
          unfold wordsR
          rw [if_neg (by rw [HRIGHT.out]; simp [hpw])]
        have HFIN := Lib.hid hfin
        have K2 := Lib.hid (K1.out.trans0 k3)
        clear hfin hp1 h3 k3 l3 m3
        go_wp2_with fail
        go_ret2
        rw [HFIN.out]
        exact WOut.of_nil K2.out
    · rw [if_neg hs4] at hp2
      rw [hp2] at ho
      obtain ⟨a2, c2, rfl, h2, k2, l2, m2⟩ := ho
      have hfin : wordsR l = (2, []) := by
        unfold wordsR
        rw [if_neg (by rw [HRIGHT.out]; simp [hs4])]
      have HFIN := Lib.hid hfin
      have K2 := Lib.hid (K0.out.trans0 k2)
      clear hfin hp2 h2 k2 l2 m2
      go_wp2_with fail
      go_ret2
      rw [HFIN.out]
      exact WOut.of_nil K2.out
  · have HD := Lib.hid (show decide (0 ≤ k ∧ k ≤ 4) = false by simpa using hk4)
    have hfin : wordsR l = (2, []) := by
      unfold wordsR
      rw [if_neg (by rw [HRIGHT.out]; simp [hk4])]
    have HFIN := Lib.hid hfin
    clear hfin
    go_wp2_with fail
    refine (swithin_any _ _ _ _).mono ?_
    rintro e w1 ⟨he, rfl⟩
    rw [HD.out] at he
    subst he
    go_wp2_with fail
    go_ret2
    rw [HFIN.out]
    exact WOut.of_nil K0.out

end Go.Proofs.YtihpmnnbiabggaaDoor
