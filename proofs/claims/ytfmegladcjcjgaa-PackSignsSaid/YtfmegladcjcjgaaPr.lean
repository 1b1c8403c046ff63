/- PackSigns walked. -/
import Derived.Test.YtfmegladcjcjgaaPp
namespace Go.Proofs.Ytfmegladcjcjgaa
open Go.RowKit
set_option linter.unusedVariables false

/-- A list's first k numbers, as words. -/
def wordsK (k : Nat) (xs : List Int) : List Int := (xs.take k).map fun x => amongI x 65536
theorem wordsK_in {k : Nat} {xs : List Int} : ∀ x ∈ wordsK k xs, 0 ≤ x ∧ x ≤ 65535 := by
  intro x hx
  obtain ⟨y, _, rfl⟩ := List.mem_map.1 hx
  have := amongI_lt y 65536 (by omega) (by omega)
  omega
theorem kept_high {j : Nat} {V : Int} (h1 : 1 ≤ j) (h0 : 0 ≤ V) (h2 : V < fullN j) (h : ¬ V < fullN j / 2) : keptS j V = V - fullN j := by
  unfold keptS
  obtain ⟨q, rfl⟩ : ∃ q, j = q + 1 := ⟨j - 1, by omega⟩
  have h2' : fullN (q + 1) = 65536 * fullN q := rfl
  have h3 := full_pos q
  have e := ((Int.ediv_emod_unique (a := V + fullN (q + 1) / 2) (b := fullN (q + 1)) (r := V + fullN (q + 1) / 2 - fullN (q + 1)) (q := 1) (by omega)).2 ⟨by omega, by omega, by omega⟩).2
  rw [e]
  omega
theorem signs_math (j : Nat) (l : List Int) (h1 : 1 ≤ j) (h3 : j ≤ 3) (hl : l.length = j) (hx : ∀ x ∈ l, 0 ≤ x ∧ x ≤ 65535) :
    ∃ V, 0 ≤ V ∧ V < fullN j ∧ getR j false l = (0, V) ∧ (V < fullN j / 2 → getR j true l = (0, V)) ∧ (¬ V < fullN j / 2 → getR j true l = (0, V - fullN j)) := by
  have ht : l.take j = l := List.take_of_length_le (by omega)
  have hb := valL_bd hx
  rw [hl] at hb
  have hf : fullN j ≤ 281474976710656 := by
    obtain rfl | rfl | rfl : j = 1 ∨ j = 2 ∨ j = 3 := by omega
    all_goals decide
  have hT := getR_true (k := j) (xs := l) h1 (by omega) (by rw [ht]; exact hx) (by omega)
  have hF := getR_false (k := j) (xs := l) h1 (by omega) (by rw [ht]; exact hx) (by omega) (by rw [ht]; omega)
  rw [ht] at hT hF
  refine ⟨valL l, hb.1, hb.2, hF, ?_, ?_⟩
  · intro h
    rw [hT, kept_in h1 ⟨by omega, h⟩]
  · intro h
    rw [hT, kept_high h1 hb.1 hb.2 h]

set_option maxRecDepth 100000 in
set_option maxHeartbeats 2000000 in
theorem signs_any (k : Int) (a : Option Addr) (n c : Nat) (xs : List Int) (w : World) (hi : IntsAt w a n xs) (hn : n ≤ maxLen) :
    Calls Try.prog 8 #[.int .i64 k, .slice a n c] w fun e w' => e = .returned (.bool true) ∧ Keeps [] w w' := by
  unfold maxLen at hn
  have HI := Lib.hid hi
  have HLEN := Lib.hid (show n = xs.length from hi.1)
  obtain ⟨i0, hii, hz0, hz1, hz2⟩ := info_parts Try.info3
  have ha := amongI_lt k 3 (by omega) (by omega)
  obtain ⟨A, hA⟩ : ∃ A, A = amongI k 3 := ⟨_, rfl⟩
  rw [← hA] at ha
  obtain ⟨j, hj⟩ := Int.eq_ofNat_of_zero_le (show 0 ≤ 1 + A by omega)
  have hj1 : 1 ≤ j := by omega
  have hj3 : j ≤ 3 := by omega
  have AH := Lib.hid hA
  clear hi hA
  go_enter Try.func8, Try.ntmps8
  go_wp2_with fail
  refine (works_any _).mono ?_
  rintro e w1 ⟨rfl, k1⟩
  have K1 := Lib.hid k1
  clear k1
  go_wp2_with fail
  refine (among_any _ _ _ (by omega) (by omega)).mono ?_
  rintro e w' ⟨he, rfl⟩
  rw [← AH.out] at he
  subst he
  go_wp2_with fail
  go_loopw [5, 6] (fun vl vi wr => ∃ i g c1 : Nat, i ≤ n ∧ i ≤ j ∧ vi = .int .i64 i ∧ vl = .slice (some ⟨g, 0, none⟩) i c1 ∧ Arr wr g c1 (wordsK i xs) ∧ w1.heap.size ≤ g ∧ Keeps [] w1 wr) (fun _ vi _ => j - (intOf vi).toNat)
  case atStart =>
    refine ⟨0, w1.heap.size, 0, Nat.zero_le _, Nat.zero_le _, rfl, rfl, ?_, Nat.le_refl _, (Keeps.refl _ _).alloc _⟩
    exact ⟨⟨#[], heap_alloc_new w1 _, by simp [wordsK], rfl⟩, by simp [wordsK], by unfold maxLen; omega⟩
  case round =>
    obtain ⟨i, g, c1, hi, hij, rfl, rfl, hA, hg, hk⟩ := hrel
    obtain ⟨W1, rfl⟩ : ∃ z, z = wr := ⟨_, rfl⟩
    have hwl : (wordsK i xs).length = i := by unfold wordsK; rw [List.length_map, List.length_take]; have := HLEN.out; omega
    by_cases hgo : i < j ∧ i < n
    · obtain ⟨hlj, hln⟩ := hgo
      have hix : i < xs.length := by rw [← HLEN.out]; exact hln
      have hli := HI.out.keep0 (K1.out.trans0 hk)
      rcases a with _ | ⟨lb, lo', ls⟩
      · have := hli.2.1 rfl; rw [this] at hix; simp at hix
      obtain ⟨rfl, hlc⟩ := hli.2.2 lb lo' ls rfl (List.ne_nil_of_length_pos (by omega))
      have hx := hlc i hix
      obtain ⟨x, ex⟩ : ∃ x, x = xs.getD i 0 := ⟨_, rfl⟩
      rw [← ex] at hx
      obtain ⟨y, ey⟩ : ∃ y, y = amongI x 65536 := ⟨_, rfl⟩
      have hown := ownsRow_keep (F := []) (hA.own hg i hwl.symm) ((Keeps.refl _ _).alloc (.cells #[.int .i64 y] 3)) (by simp)
      have HO := Lib.hid hown
      have EX := Lib.hid ex
      have EY := Lib.hid ey
      have HWL := Lib.hid hwl
      have HK := Lib.hid hk
      have HWS := Lib.hid hk.size
      have HIX := Lib.hid hix
      clear hlc ex ey hli hown hwl hA hk hix
      go_wp2_with fail
      refine (among_any _ _ _ (by omega) (by omega)).mono ?_
      rintro e w' ⟨he, rfl⟩
      rw [← EY.out] at he
      subst he
      go_wp2_with (at_builtin; refine wpList_append_new _ rfl (.tmp 28) (.tmp 34) 22 rfl w1.heap.size 3 i0 (.int .i64 0) 1 8 Try.underlying22 hii hz0 hz1 hz2 rfl (by decide) (.slice (some ⟨g, 0, none⟩) i c1) i _ rfl HO.out ⟨W1.heap.size, 0, none⟩ 1 1 [.int .i64 y] rfl rfl (cell_one_new _ _ _) (by simp [Value.oneCell']) (by unfold maxLen; omega) (by omega) (by simp; have := HWS.out; omega) ?_; intro v' w2 q1 q2 q3 q4)
      have hwk : wordsK (i + 1) xs = wordsK i xs ++ [y] := by
        unfold wordsK
        rw [List.take_succ_eq_append_getElem HIX.out, List.map_append, EY.out, EX.out]
        simp [List.getD, HIX.out]
      obtain ⟨g2, c2, rfl, hg2, hA2⟩ := one_snoc rfl (by rw [List.length_append, HWL.out]; rfl) q1 (fun e => absurd (q3.1 e).2 (by omega))
      rw [← hwk] at hA2
      have k2 : Keeps [] w1 w2 := (HK.out.alloc _).grown q2 (by intro k e; injection e with e; right; rw [← e]; exact hg)
      have HA2 := Lib.hid hA2
      have K2 := Lib.hid k2
      clear q1 q2 q3 q4 hA2 k2 hwk
      go_wp2_with fail
      go_roundw
      case rel => exact ⟨i + 1, g2, c2, by omega, by omega, by go_num, rfl, HA2.out, hg2, K2.out⟩
      case measure => simp [intOf]; omega
    · obtain ⟨l, hl⟩ : ∃ l, l = wordsK i xs := ⟨_, rfl⟩
      rw [← hl] at hA hwl
      have hlw : ∀ x ∈ l, 0 ≤ x ∧ x ≤ 65535 := by rw [hl]; exact wordsK_in
      have hia := hA.ints
      have hle := hA.le
      have hcm := hA.cm
      rw [hwl] at hia hle
      have IA := Lib.hid hia
      have LE := Lib.hid hle
      have CM := Lib.hid hcm
      have HK := Lib.hid (K1.out.trans0 hk)
      have HWL := Lib.hid hwl
      have HLW := Lib.hid hlw
      clear hl hA hwl hlw hia hle hcm hk
      by_cases hsh : i < j
      · have hin : i = n := by omega
        subst hin
        have hr1 : getR j true l = (7, 0) := getR_short hj1 (by omega) HLW.out (by rw [HWL.out]; exact hsh)
        have hr2 : getR j false l = (7, 0) := getR_short hj1 (by omega) HLW.out (by rw [HWL.out]; exact hsh)
        have R1 := Lib.hid hr1
        have R2 := Lib.hid hr2
        clear hgo hr1 hr2
        go_wp2_with fail
        refine (Get_any j _ i c1 l _ IA.out LE.out CM.out).mono ?_
        rintro e w3 ⟨he, q3⟩
        rw [R1.out] at he
        have he : e = .returned (.tuple #[.int .i64 0, .int .i64 7]) := he
        subst he
        have IA3 := Lib.hid (IA.out.keep0 q3)
        have HK3 := Lib.hid (HK.out.trans0 q3)
        clear q3
        go_wp2_with fail
        refine (GetPlain_any j _ i c1 l _ IA3.out LE.out CM.out).mono ?_
        rintro e w4 ⟨he, q4⟩
        rw [R2.out] at he
        have he : e = .returned (.tuple #[.int .i64 0, .int .i64 7]) := he
        subst he
        have HK4 := Lib.hid (HK3.out.trans0 q4)
        clear q4
        go_wp2_with fail
        go_ret
        exact ⟨rfl, HK4.out⟩
      · have hij2 : i = j := by omega
        subst hij2
        obtain ⟨V, hV0, hVf, hr2, hr1, hr3⟩ := signs_math i l hj1 hj3 HWL.out HLW.out
        have hf := full_pos i
        obtain ⟨Y, hY, hcs⟩ : ∃ Y, getR i true l = (0, Y) ∧ (Y = V ∧ V < fullN i / 2 ∨ Y = V - fullN i ∧ ¬ V < fullN i / 2) := by
          by_cases h : V < fullN i / 2
          · exact ⟨_, hr1 h, .inl ⟨rfl, h⟩⟩
          · exact ⟨_, hr3 h, .inr ⟨rfl, h⟩⟩
        have R1 := Lib.hid hY
        have R2 := Lib.hid hr2
        have HCS := Lib.hid hcs
        have HVF := Lib.hid hVf
        have hsh2 : decide (i < n) = decide (i < n) := rfl
        clear hgo hr1 hr2 hr3 hY hcs hVf hf hsh2
        by_cases hin : i < n
        all_goals
          go_wp2_with fail
          refine (Get_any i _ i c1 l _ IA.out LE.out CM.out).mono ?_
          rintro e w3 ⟨he, q3⟩
          rw [R1.out] at he
          have he : e = .returned (.tuple #[.int .i64 Y, .int .i64 0]) := he
          subst he
          have IA3 := Lib.hid (IA.out.keep0 q3)
          have HK3 := Lib.hid (HK.out.trans0 q3)
          clear q3
          go_wp2_with fail
          refine (GetPlain_any i _ i c1 l _ IA3.out LE.out CM.out).mono ?_
          rintro e w4 ⟨he, q4⟩
          rw [R2.out] at he
          have he : e = .returned (.tuple #[.int .i64 V, .int .i64 0]) := he
          subst he
          have HK4 := Lib.hid (HK3.out.trans0 q4)
          clear q4
          have hcs := HCS.out
          have hVF := HVF.out
          obtain rfl | rfl | rfl : i = 1 ∨ i = 2 ∨ i = 3 := by omega
          all_goals
            simp only [full1, full2, full3] at hcs hVF
            rcases hcs with ⟨rfl, hlt⟩ | ⟨rfl, hge⟩
            · clear hlt
              go_wp2_with fail
              go_ret
              exact ⟨rfl, HK4.out⟩
            · try have hn1 : decide (V - 65536 < 0) = true := by (simp; omega)
              try have hn2 : decide (V - 4294967296 < 0) = true := by (simp; omega)
              try have hn3 : decide (V - 281474976710656 < 0) = true := by (simp; omega)
              go_wp2_with fail
              go_ret
              exact ⟨rfl, HK4.out⟩
end Go.Proofs.Ytfmegladcjcjgaa
