/- FlashLoads walked: a loaded image is read as it is, and counts as no writes. For every list of ints. -/
import Derived.Test.YtjebflafbkmokaaP
namespace Go.Proofs.Ytjebflafbkmokaa
open Go.RowKit
set_option linter.unusedVariables false

def tw0 : FS := FS.fresh 2 2 16
theorem tw0_good : tw0.Good 0 := FS.Good.fresh (by decide +kernel)
theorem tw0_w : tw0.w.length = 64 := by decide +kernel
theorem tw0_ok : tw0.w = List.replicate 64 65535 := by decide +kernel

def Words (xs : List Int) : Prop := xs.length = 64 ∧ fitB xs = true

theorem fitB_iff {xs : List Int} : fitB xs = true ↔ ∀ x ∈ xs, 0 ≤ x ∧ x ≤ 65535 := by
  unfold fitB; rw [List.all_eq_true]; simp [withinB]
theorem Words.set {xs : List Int} (h : Words xs) (k : Nat) (x : Int) (hx : 0 ≤ x ∧ x < 65536) : Words (xs.set k x) := by
  refine ⟨by rw [List.length_set]; exact h.1, ?_⟩
  rw [fitB_iff]
  intro y hy
  rcases List.mem_or_eq_of_mem_set hy with h1 | h1
  · exact (fitB_iff.1 h.2) y h1
  · omega
theorem fitB_bad {xs : List Int} (h : xs.length = 64) : fitB (xs.set 3 (-1)) = false := by
  have h1 : ¬ fitB (xs.set 3 (-1)) = true := by
    rw [fitB_iff]
    intro h2
    have := h2 (-1) (List.mem_set (by omega) _)
    omega
  simpa using h1

/-- The image that is filled: what is known at the head of a round. -/
structure Fills (w4 wr : World) (g c' : Nat) (ys : List Int) : Prop where
  arr : Arr wr g c' ys
  words : Words ys
  keep : Keeps [g] w4 wr

set_option maxRecDepth 100000 in
set_option maxHeartbeats 2000000 in
theorem loads_any (a : Option Addr) (n c : Nat) (xs : List Int) (w : World) (h : IntsAt w a n xs) (hn : n ≤ maxLen) : Calls Try.prog 7 #[.slice a n c] w fun e w' => e = .returned (.bool true) ∧ Keeps [] w w' := by
  unfold maxLen at hn
  have hin : ∀ b o s, a = some ⟨b, o, s⟩ → xs ≠ [] → b < w.heap.size := by
    intro b o s e hne
    have := (h.2.2 b o s e hne).2 0 (List.length_pos_iff.2 hne)
    exact World.block_lt_of_cell? _ _ this
  have HH := Lib.hid h
  have HIN := Lib.hid hin
  have hnx : xs.length = n := h.1.symm
  have HNX := Lib.hid hnx
  clear h hin hnx
  go_enter Try.func7, Try.ntmps7
  go_wp2_with fail
  refine (works_any _).mono ?_
  rintro e w1 ⟨rfl, k1⟩
  go_wp2_with fail
  refine (two_any _).mono ?_
  rintro e w2 ⟨rfl, k2⟩
  go_wp2_with fail
  refine (make_yes 2 2 16 _ (by decide +kernel)).mono ?_
  rintro e w3 ⟨b, rfl, bw, be, hf0, z1, z2, z3, k3⟩
  have hf1 : Fl w3 b bw be (.slice none 0 0) tw0 := hf0
  have k03 : Keeps [] w w3 := (k1.trans0 k2).trans0 k3
  clear hf0
  go_wp2_with fail
  refine (image_yes hf1 (by rw [tw0_w]; omega)).mono ?_
  rintro e w4 ⟨v, rfl, g, c', rfl, hg, hA, k4⟩
  have hgf : ∀ k ∈ foot b bw be (.slice none 0 0), k ∉ [g] := by
    intro k hk hx
    have := hf1.lt k hk
    simp at hx
    omega
  have hg0 : w.heap.size ≤ g := Nat.le_trans k03.size hg
  rw [tw0_w]
  have HA : Fills w4 w4 g c' tw0.w := ⟨hA, ⟨tw0_w, by decide +kernel⟩, Keeps.refl _ _⟩
  clear hA
  have HGF := Lib.hid hgf
  clear hgf
  go_wp2_with fail
  go_loopw [6] (fun v wr => ∃ (k : Nat) (ys : List Int), k ≤ n ∧ k ≤ 64 ∧ v = .int .i64 k ∧ Fills w4 wr g c' ys) (fun v _ => 64 - (intOf v).toNat)
  case atStart => exact ⟨0, tw0.w, Nat.zero_le _, by omega, rfl, HA⟩
  case round =>
    obtain ⟨k, ys, hk, hk64, rfl, hR⟩ := hrel
    by_cases hboth : k < n ∧ k < 64
    · obtain ⟨hlt, hlt2⟩ := hboth
      have hlx : k < xs.length := by rw [HNX.out]; exact hlt
      rcases a with _ | ⟨ba, oa, sa⟩
      · have := HH.out.2.1 rfl; rw [this] at hlx; simp at hlx
      have hba : ba < w.heap.size := HIN.out ba oa sa rfl (by intro e; rw [e] at hlx; simp at hlx)
      obtain ⟨rfl, hcx⟩ := HH.out.2.2 ba oa sa rfl (List.ne_nil_of_length_pos (by omega))
      have hx := hcx k hlx
      obtain ⟨x, ex⟩ : ∃ x, x = xs.getD k 0 := ⟨_, rfl⟩
      rw [← ex] at hx
      have hk0r : Keeps [g] w wr := ((k03.trans0 k4).mono (by simp)).trans hR.keep (by intro x hx; exact .inl hx)
      have hx2 : wr.cell? ⟨ba, oa + k, none⟩ = some (.int .i64 x) := (hk0r.cell hba (by simp; omega)).trans hx
      have hwl := hR.words.1
      have hc := hR.arr.cell (i := k) (by omega)
      have hfz := hR.arr.frozen k
      obtain ⟨y, ey⟩ : ∃ y, y = ys.getD k 0 := ⟨_, rfl⟩
      rw [← ey] at hc
      have HWL := Lib.hid hwl
      clear ex ey hcx hwl hx hk0r
      go_wp2_with (go_at_call 15; refine (among_any _ _ _ (by omega) (by omega)).mono ?_; rintro e w' ⟨rfl, rfl⟩)
      go_roundw
      case rel =>
        refine ⟨k + 1, ys.set k (amongI x 65536), by omega, by omega, by go_num, hR.arr.set (by rw [HWL.out]; exact hlt2) _, hR.words.set k _ (amongI_lt x 65536 (by omega) (by omega)), hR.keep.setCell (.inl (by simp)) _⟩
      case measure => simp [intOf]; omega
    · have hwl := hR.words.1
      have hFr := (hf1.keep k4 (by simp)).keep hR.keep HGF.out
      have hgn : g ∉ foot b bw be (.slice none 0 0) := fun h => HGF.out g h (by simp)
      have hi64 : IntsAt wr (some ⟨g, 0, none⟩) 64 ys := by have := hR.arr.ints; rwa [hwl] at this
      have hcl := hR.arr.le
      rw [hwl] at hcl
      have hc1 : (c' == 1) = false := by simp; omega
      have hcm := hR.arr.cm
      unfold maxLen at hcm
      have HWL := Lib.hid hwl
      clear hwl
      by_cases hlt : k < n
      all_goals
        try have hlt2 : ¬ k < 64 := fun h => hboth ⟨hlt, h⟩
        clear hboth
        go_wp2_with fail
        refine (load_yes hFr tw0_good ⟨g, 0, none⟩ 64 c' ys hi64 (by omega) tw0_w.symm hR.words.2).mono ?_
        rintro e w5 ⟨rfl, hF5, k5⟩
        have hA5 := hR.arr.keep k5 hgn
        have hi5 := hi64.keep k5 (by rintro b' o' s' e; injection e with e; injection e with e; rw [← e]; exact hgn)
        go_wp2_with fail
        have hg5 : FS.Good { tw0 with w := ys } 0 := tw0_good.setW ys (by rw [HWL.out, tw0_w])
        have hyl : (63 : Nat) ≠ ys.length := by rw [HWL.out]; omega
        refine (load_len hF5 hg5 _ 63 (c' - 1) (by omega) hyl).mono ?_
        rintro e w6 ⟨rfl, rfl⟩
        clear hyl
        go_wp2_with fail
        refine (ints_some ⟨g, 0, none⟩ 64 c' ys _ hi5 (by omega)).mono ?_
        rintro e w6 ⟨v, rfl, g2, c2, rfl, hg2, hA2, k6⟩
        rw [HWL.out]
        have hc3 := hA2.cell (i := 3) (by rw [HWL.out]; omega)
        have hf3 := hA2.frozen 3
        obtain ⟨y3, e3⟩ : ∃ y3, y3 = ys.getD 3 0 := ⟨_, rfl⟩
        rw [← e3] at hc3
        clear e3
        have hlt5 := hF5.lt
        have hgl5 := hA5.lt
        have hg2n : g2 ∉ foot b bw be (.slice none 0 0) := fun h => by have := hlt5 _ h; omega
        have hgg : g ≠ g2 := by omega
        have HLT := Lib.hid hlt5
        clear hlt5
        go_wp2_with fail
        have kS : Keeps [g2] w6 (w6.setCell ⟨g2, 3, none⟩ (.int .i64 (-1))) := (Keeps.refl _ _).setCell (.inl (by simp)) _
        have hF7 := (hF5.keep k6 (by simp)).keep kS (by intro k hk hx; simp at hx; exact hg2n (hx ▸ hk))
        have hA7 := (hA5.keep k6 (by simp)).keep kS (by simpa using hgg)
        have hi7 : IntsAt (w6.setCell ⟨g2, 3, none⟩ (.int .i64 (-1))) (some ⟨g2, 0, none⟩) 64 (ys.set 3 (-1)) := by
          have := (hA2.set (i := 3) (by rw [HWL.out]; omega) (-1)).ints
          rwa [List.length_set, HWL.out] at this
        have hyl : (64 : Nat) = ys.length := HWL.out.symm
        refine (load_fit hF7 hg5 _ 64 c2 (ys.set 3 (-1)) hi7 (by omega) hyl (fitB_bad HWL.out)).mono ?_
        rintro e w8 ⟨rfl, rfl⟩
        clear hyl
        go_wp2_with fail
        refine (image_yes hF7 (by show ys.length ≤ 1000000; rw [HWL.out]; omega)).mono ?_
        rintro e w8 ⟨v, rfl, g3, c3, rfl, hg3, hA8, k8⟩
        have hi8 := hA8.ints
        have hi9 := (hA7.keep k8 (by simp)).ints
        have hF8 := hF7.keep k8 (by simp)
        go_wp2_with fail
        rw [← HWL.out]
        refine (sameInts_any _ _ _ _ _ _ ys ys _ hi8 hi9 (by show ys.length ≤ maxLen; rw [HWL.out]; unfold maxLen; omega) (by rw [HWL.out]; unfold maxLen; omega)).mono ?_
        rintro e w9 ⟨he, m, rfl⟩
        rw [decide_eq_true rfl] at he
        subst he
        go_wp2_with fail
        refine (writes_yes (hF8.drewN m)).mono ?_
        rintro e w9 ⟨he, rfl⟩
        rw [show (({ tw0 with w := ys } : FS).done.length : Int) = 0 from (show ((tw0.done.length : Nat) : Int) = 0 from by decide +kernel)] at he
        subst he
        go_wp2_with fail
        go_ret
        refine ⟨rfl, ?_⟩
        have kr : Keeps [g] w wr := ((k03.trans0 k4).mono (by simp)).trans hR.keep (fun x hx => .inl hx)
        have kr0 : Keeps [] w wr := kr.mono (by intro x hx; simp at hx; exact .inr (by omega))
        have k5' : Keeps [] w w5 := kr0.trans k5 (by
          intro x hx
          have h1 := mem_foot.1 hx
          have s2 := (k1.trans0 k2).size
          rcases h1 with h1 | h1 | h1 | h1
          · exact .inr (by omega)
          · exact .inr (by omega)
          · exact .inr (by omega)
          · simp [Value.ownBlock] at h1)
        have k6' := k5'.trans0 k6
        have k7' : Keeps [] w (w6.setCell ⟨g2, 3, none⟩ (.int .i64 (-1))) := k6'.setCell (.inr (by have := k5'.size; simp only; omega)) _
        exact (k7'.trans0 k8).drewN m

end Go.Proofs.Ytjebflafbkmokaa
