/- SlotBack walked. No condition but the table of the sums, and that all are numbers of 64 bits. -/
import Derived.Test.YtiklmjhaioglaaaDoorSv
import Derived.Deep.CutBlock
import Derived.Deep.CutRange
namespace Go.Proofs.YtiklmjhaioglaaaDoor
open Go.RowKit
set_option linter.unusedVariables false

theorem take100 (xs : List Int) {n : Nat} (h : n = xs.length) : (xs.take 100).length = min n 100 := by rw [List.length_take, h, Nat.min_comm]

/-- Words hands back words or none, both as one. -/
def Told (w w' : World) (l : List Int) (V : Value) (E : Int) : Prop :=
  ((rightB l = false ∧ V = .slice none 0 0 ∧ E = 2) ∨ (rightB l = true ∧ E = 0 ∧ ∃ g cc, V = .slice (some ⟨g, 0, none⟩) 16 cc ∧ w.heap.size ≤ g ∧ Arr w' g cc (wordsL l))) ∧ Keeps [] w w'
theorem words_both (l : List Int) (w : World) (ht : Turns w) (hl : l.length = 13) (h64 : ∀ x ∈ l, I64 x) :
    Calls Tryd.prog 8 #[.agg (ints l)] w fun e w' => ∃ V E, e = .returned (.tuple #[V, .int .i64 E]) ∧ Told w w' l V E := by
  cases hb : rightB l
  · refine (words_no l w ht hl h64 hb).mono ?_
    rintro e w' ⟨rfl, k⟩
    exact ⟨_, _, rfl, .inl ⟨hb, rfl, rfl⟩, k⟩
  · refine (words_yes l w ht hl h64 hb).mono ?_
    rintro e w' ⟨g, cc, rfl, hg, hA, k⟩
    exact ⟨_, _, rfl, .inr ⟨hb, rfl, g, cc, rfl, hg, hA⟩, k⟩

theorem blank_words {l : List Int} (hl : l.length = 13) (hb : rightB l = true) : blankB (wordsL l) = false := by
  have h := blank_is hl hb (n := 15) (by omega)
  unfold blankB at h ⊢
  rw [Bool.and_eq_false_iff]
  right
  rw [List.all_eq_false]
  refine ⟨(wordsL l).getD 0 0, ?_, ?_⟩
  · rw [List.mem_iff_getElem?]
    exact ⟨0, by simp [List.getD, wordsL_len hl]⟩
  · have := (right_out hb).1
    rw [words_first]
    intro hh
    rw [beq_iff_eq] at hh
    omega
theorem read_cases (ys : List Int) : (∃ E : Int, E ≠ 0 ∧ readR ys = (E, zer 13)) ∨ (ys.length = 16 ∧ wholeB ys = true ∧ readR ys = (0, recOf ys)) := by
  unfold readR
  split
  · rename_i h
    split
    · rename_i h2
      exact .inr ⟨h, h2, rfl⟩
    · exact .inl ⟨60, by decide, rfl⟩
  · exact .inl ⟨2, by decide, rfl⟩
theorem recOf_64 {ys : List Int} (hb : rightB (recOf ys) = true) : ∀ x ∈ recOf ys, I64 x := by
  obtain ⟨h1, h2, h3⟩ := right_out hb
  intro x hx
  unfold recOf at hx h1 h2 h3
  simp only [List.mem_cons] at hx
  simp only [List.getD_cons_zero, List.getD_cons_succ, List.drop_succ_cons, List.drop_zero] at h1 h2 h3
  rcases hx with rfl | rfl | hx
  · unfold I64; omega
  · unfold I64; omega
  · have := h3 x hx
    unfold I64; omega

set_option maxHeartbeats 4000000 in
theorem sback_any (l : List Int) (a : Option Addr) (n c : Nat) (xs : List Int) (w : World) (ht : Turns w) (hl : l.length = 13) (h64 : ∀ x ∈ l, I64 x) (hi : IntsAt w a n xs) (hx64 : ∀ x ∈ xs, I64 x) (hn : n ≤ c) (hc : c ≤ maxLen) :
    Calls Tryd.prog 5 #[.agg (ints l), .slice a n c] w fun e w' => e = .returned (.bool true) ∧ Keeps [] w w' := by
  have h0 : RecAt (w.alloc (.cells (ints l) 24)) w.heap.size l := heap_alloc_new w _
  have k0 : Keeps [] w (w.alloc (.cells (ints l) 24)) := (Keeps.refl _ _).alloc _
  have HTW := Lib.hid ht
  have HT := Lib.hid (ht.keep k0)
  have HL := Lib.hid hl
  have H64 := Lib.hid h64
  have HI := Lib.hid hi
  have HX64 := Lib.hid hx64
  have HN := Lib.hid hn
  have HC := Lib.hid hc
  have HLEN := Lib.hid (show n = xs.length from hi.1)
  clear ht hl h64 hi hx64
  unfold maxLen at hc
  go_enter Tryd.func5, Tryd.ntmps5
  go_upto_region 1 with fail
  generalize w.alloc (.cells (ints l) 24) = w0 at *
  have K0 := Lib.hid k0
  clear k0
  go_wp2_with fail
  refine (works_any _ HT.out).mono ?_
  rintro e w1 ⟨rfl, k1⟩
  have H1 := Lib.hid (h0.keep k1 (by simp))
  have K1 := Lib.hid (K0.out.trans0 k1)
  clear k1 h0
  go_upto_region 3 with fail
  obtain ⟨ys, hys⟩ : ∃ ys, ys = xs.take 100 := ⟨_, rfl⟩
  have hyl := take100 xs HLEN.out
  rw [← hys] at hyl
  go_cut [1] from 15 to 19 (fun v wx => v = .slice a ys.length c ∧ w1 = wx)
  case first =>
    by_cases h : n ≤ 100
    · have h2 : (n : Int) ≤ 100 := by omega
      have hy2 : ys.length = n := by omega
      have HY2 := Lib.hid hy2
      clear hyl hy2
      go_wp2_with fail
      go_meet
      exact ⟨by rw [HY2.out], rfl⟩
    · have h2 : ¬ (n : Int) ≤ 100 := by omega
      have hy2 : ys.length = 100 := by omega
      have HY2 := Lib.hid hy2
      clear hyl hy2
      go_wp2_with fail
      go_meet
      exact ⟨by rw [HY2.out], rfl⟩
  case rest =>
    obtain ⟨rfl, rfl⟩ := hcut
    have HI1 := Lib.hid (show IntsAt w1 a ys.length ys by have := (HI.out.take (k := ys.length) (by rw [hyl]; omega)).keep0 K1.out; rw [show xs.take ys.length = ys by rw [hys, List.length_take]; exact List.take_eq_take_min.symm] at this; exact this)
    have HY64 := Lib.hid (show ∀ x ∈ ys, I64 x by rw [hys]; exact fun x hx => HX64.out x (List.mem_of_mem_take hx))
    have HYC := Lib.hid (show ys.length ≤ c by omega)
    have HY100 := Lib.hid (show ys.length ≤ 100 by omega)
    have HT1 := Lib.hid (HTW.out.keep K1.out)
    obtain ⟨m, hm⟩ : ∃ m, m = ys.length := ⟨_, rfl⟩
    rw [← hm]
    have HM := Lib.hid hm
    have hr1 := H1.out
    clear hys hyl hm
    go_upto_if 26 with (first
      | (refine ld_rec _ hr1 HL.out rfl rfl rfl ?_; simp only [Act.put]; clear hr1)
      | (go_at_call 8; refine (words_both l _ HT1.out HL.out H64.out).mono ?_; rintro e w2 ⟨V, E, rfl, hVE, k2⟩; have HV := Lib.hid hVE; have K2 := Lib.hid (K1.out.trans0 k2); have H2 := Lib.hid (H1.out.keep k2 (by simp)); have HI2 := Lib.hid (HI1.out.keep0 k2); have HT2 := Lib.hid (HT1.out.keep k2); clear k2 hVE))
    go_cut [] from 27 to 42 (fun wx => Keeps [] w2 wx)
    case first =>
      rcases HV.out with ⟨-, rfl, rfl⟩ | ⟨hrb, rfl, g, cc, rfl, -, hA⟩
      · clear HV
        go_wp2_with fail
        go_meet
        exact Keeps.refl _ _
      · have HRB := Lib.hid hrb
        have HA := Lib.hid hA
        clear HV hrb hA
        have HIA := Lib.hid (show IntsAt w2 (some ⟨g, 0, none⟩) 16 (wordsL l) by have := HA.out.ints; rw [wordsL_len HL.out] at this; exact this)
        have HLE := Lib.hid (show 16 ≤ cc by have := HA.out.le; rw [wordsL_len HL.out] at this; exact this)
        go_wp2_with (first
          | (go_at_call 17; refine (read_any _ 16 cc (wordsL l) _ HT2.out HIA.out HLE.out HA.out.cm (words_64 HRB.out)).mono ?_; rw [read_words HL.out HRB.out]; rintro e w3 ⟨rfl, k3⟩; have K3 := Lib.hid k3; have HI3 := Lib.hid (HIA.out.keep0 k3); have H3 := Lib.hid (H2.out.keep k3 (by simp)); have hn3 := heap_alloc_new w3 (.cells (ints (zer 13)) 24); have ka3 := Lib.hid ((Keeps.refl [] w3).alloc (.cells (ints (zer 13)) 24)); have hks3 := K3.out.size; clear k3)
          | (simp only [zeros13])
          | (refine st_rec _ _ (l := zer 13) (l' := l) hn3 (zer_len _) HL.out rfl rfl rfl rfl ?_; intro w4 h4 k4 s4; simp only [Act.put]; have kk : Keeps [] w3 w4 := ka3.out.trans k4 (by intro y hy; right; simp at hy; omega); have K4 := Lib.hid (K3.out.trans0 kk); have HI4 := Lib.hid (HI3.out.keep0 kk); have b4 := H3.out.keep kk (by simp); clear hn3 kk k4 s4)
          | (refine ld_rec _ h4 HL.out rfl rfl rfl ?_; simp only [Act.put])
          | (refine ld_rec _ b4 HL.out rfl rfl rfl ?_; simp only [Act.put])
          | (refine ne_rec _ _ _ (l := l) (l' := l) HL.out HL.out rfl rfl rfl rfl ?_; simp only [Act.put])
          | (go_at_call 20; refine (blank_any _ 16 cc (wordsL l) _ HI4.out (by unfold maxLen; omega)).mono ?_; rw [blank_words HL.out HRB.out]; rintro e w5 ⟨rfl, rfl⟩))
        go_meet
        exact K4.out
    case rest =>
      have HTC := Lib.hid (HT2.out.keep hcut)
      have HIC := Lib.hid (show IntsAt wc a m ys by have := HI2.out.keep0 hcut; rw [← HM.out] at this; exact this)
      have KC := Lib.hid (K2.out.trans0 hcut)
      have HMC := Lib.hid (show m ≤ c by rw [HM.out]; exact HYC.out)
      clear hcut
      rcases read_cases ys with ⟨F, hF, hrd⟩ | ⟨h16, hw, hrd⟩
      · have hne : (F != 0) = true := by simpa using hF
        have HRD := Lib.hid hrd
        clear hF hrd
        go_wp2_with (first
          | (go_at_call 17; refine (read_any a m c ys _ HTC.out HIC.out HMC.out HC.out HY64.out).mono ?_; rw [HRD.out]; rintro e w3 ⟨rfl, k3⟩; have K3 := Lib.hid (KC.out.trans0 k3); have hn3 := heap_alloc_new w3 (.cells (ints (zer 13)) 24); have ka3 := Lib.hid ((Keeps.refl [] w3).alloc (.cells (ints (zer 13)) 24)); have hks3 := K3.out.size; clear k3)
          | (simp only [zeros13])
          | (refine st_rec _ _ (l := zer 13) (l' := zer 13) hn3 (zer_len _) (zer_len 13) rfl rfl rfl rfl ?_; intro w4 h4 k4 s4; simp only [Act.put]; have kk : Keeps [] w3 w4 := ka3.out.trans k4 (by intro y hy; right; simp at hy; omega); have K4 := Lib.hid (K3.out.trans0 kk); clear hn3 kk k4 s4)
          | (refine ld_rec _ h4 (zer_len 13) rfl rfl rfl ?_; simp only [Act.put])
          | (refine eq_rec _ _ _ (l := zer 13) (l' := zer 13) (zer_len 13) (zer_len 13) rfl rfl rfl rfl ?_; simp only [Act.put]))
        go_ret
        exact ⟨rfl, K4.out⟩
      · obtain ⟨hrb, hwl⟩ := whole_out hw
        have HRB := Lib.hid hrb
        have HWL := Lib.hid hwl
        have HRD := Lib.hid hrd
        have HRL := Lib.hid (recOf_len h16)
        have HR64 := Lib.hid (recOf_64 hrb)
        have HY16 := Lib.hid h16
        clear h16 hw hrd hrb hwl
        have HD := Lib.hid (show decide (wordsL (recOf ys) = ys) = true by rw [HWL.out]; simp)
        go_wp2_with (first
          | (go_at_call 17; refine (read_any a m c ys _ HTC.out HIC.out HMC.out HC.out HY64.out).mono ?_; rw [HRD.out]; rintro e w3 ⟨rfl, k3⟩; have K3 := Lib.hid (KC.out.trans0 k3); have HT3 := Lib.hid (HTC.out.keep k3); have HI3 := Lib.hid (HIC.out.keep0 k3); have hn3 := heap_alloc_new w3 (.cells (ints (zer 13)) 24); have ka3 := Lib.hid ((Keeps.refl [] w3).alloc (.cells (ints (zer 13)) 24)); have hks3 := K3.out.size; clear k3)
          | (simp only [zeros13])
          | (refine st_rec _ _ (l := zer 13) (l' := recOf ys) hn3 (zer_len _) HRL.out rfl rfl rfl rfl ?_; intro w4 h4 k4 s4; simp only [Act.put]; have kk : Keeps [] w3 w4 := ka3.out.trans k4 (by intro y hy; right; simp at hy; omega); have K4 := Lib.hid (K3.out.trans0 kk); have HT4 := Lib.hid (HT3.out.keep kk); have HI4 := Lib.hid (HI3.out.keep0 kk); clear hn3 kk k4 s4)
          | (refine ld_rec _ h4 HRL.out rfl rfl rfl ?_; simp only [Act.put])
          | (go_at_call 8; refine (words_yes (recOf ys) _ HT4.out HRL.out HR64.out HRB.out).mono ?_; rintro e w5 ⟨g, cc, rfl, hg, hA, k5⟩; have HA := Lib.hid hA; have K5 := Lib.hid (K4.out.trans0 k5); have HI5 := Lib.hid (HI4.out.keep0 k5); clear hg hA k5)
          | (go_at_call 14; refine (sameInts_any _ _ 16 m _ _ (wordsL (recOf ys)) ys _ (by have := HA.out.ints; rw [wordsL_len HRL.out] at this; exact this) HI5.out (by unfold maxLen; omega) (Nat.le_trans HMC.out HC.out)).mono ?_; rintro e w7 ⟨he, mm, rfl⟩; rw [HD.out] at he; subst he))
        go_ret
        exact ⟨rfl, K5.out.drewN _⟩

end Go.Proofs.YtiklmjhaioglaaaDoor
