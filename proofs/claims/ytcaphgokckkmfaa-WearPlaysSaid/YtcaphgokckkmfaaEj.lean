
/- Wear: the statements' mess of words; WearCleans walked. -/
import Derived.Test.YtcaphgokckkmfaaEi
import Derived.Test.YtcaphgokckkmfaaEh
namespace Go.Proofs.Ytcaphgokckkmfaa
open Go.RowKit
set_option maxRecDepth 100000
set_option linter.unusedVariables false
set_option linter.unusedSimpArgs false
variable {w w' w0 wr : World} {b : Nat} {s : FS} {N : Nat} {L : List (Nat × Obj)}

theorem two_any (w : World) : Calls Try.prog 10 #[] w fun e w' => e = .returned (.agg #[.int .i64 3, .int .i64 2, .int .i64 16]) ∧ Keeps [] w w' := by
  go_enter Try.func10, Try.ntmps10
  go_wp2
  exact bodyPost_ret (v := .agg #[.int .i64 3, .int .i64 2, .int .i64 16]) (by simp [results, Try.results10, go_sem]) rfl ⟨rfl, (Keeps.refl _ _).alloc _⟩
theorem among96 (x : Int) (w : World) : Calls Try.prog 12 #[.int .i64 x, .int .i64 96] w fun e w' => e = .returned (.int .i64 (amongI x 96)) ∧ w = w' := among_any x 96 w (by omega) (by omega)
theorem among65536 (x : Int) (w : World) : Calls Try.prog 12 #[.int .i64 x, .int .i64 65536] w fun e w' => e = .returned (.int .i64 (amongI x 65536)) ∧ w = w' := among_any x 65536 w (by omega) (by omega)
/-- A word programmed in a region that draws its order. -/
theorem ob_prog_drew (h : Ob w0 wr b s L) (hg : s.Good N) (q x : Int) (hN : N + 1 ≤ 1000000000) :
    Calls Try.prog 13 #[.pointer (some ⟨b, 0, none⟩), .int .i64 q, .slice (some ⟨wr.heap.size, 0, none⟩) 1 1] (wr.alloc (.cells #[.int .i64 x] 3)).drew fun e w' =>
      e = .returned (.int .i64 (s.prog q [x]).1) ∧ Ob w0 w' b (s.prog q [x]).2 L := by
  obtain ⟨bw, be, dv, hf, h1, h2, h3⟩ := h
  have hk : Keeps [] wr (wr.alloc (.cells #[.int .i64 x] 3)).drew := ((Keeps.refl _ _).alloc _).drew
  refine (program_yes ((hf.alloc _).drew) hg q _ 1 1 [x] ((ints_one wr x).keep (F := []) (Keeps.refl _ _).drew (by simp)) (by omega) (one_sep hf) hN).mono ?_
  rintro e w' ⟨he, dv2, f2, q2, n2⟩
  exact ⟨he, Ob.step h1 h2 h3 f2 ((hk.mono (by simp)).trans q2 (fun x hx => .inl hx)) (fun j e => (n2 j e).imp id (fun hh => by simp at hh; omega))⟩

set_option maxHeartbeats 2000000 in
theorem mess_any (a : Option Addr) (n c : Nat) (l : List Int) (w : World) (hi : IntsAt w a n l) (hn : n ≤ maxLen) :
    Calls Try.prog 35 #[.slice a n c] w fun e w' => ∃ b, e = .returned (.pointer (some ⟨b, 0, none⟩)) ∧ ∃ s, Cm3 s 60 ∧ (∀ q, s.er.getD q 0 = 0) ∧ Ob w w' b s [] := by
  unfold maxLen at hn
  have HI := Lib.hid hi
  clear hi
  go_enter Try.func35, Try.ntmps35
  go_wp2_with fail
  refine (two_any _).mono ?_
  rintro e w1 ⟨rfl, k1⟩
  go_wp2_with fail
  refine (make_yes 3 2 16 _ (by decide +kernel)).mono ?_
  rintro e w2 ⟨b, rfl, hm⟩
  have O2 := Lib.hid (Ob.of_made k1 hm)
  clear k1 hm
  go_wp2_with fail
  go_loopw [5] (fun v wr => ∃ (k : Nat) (s : FS), k ≤ n ∧ k ≤ 60 ∧ v = .int .i64 (k : Int) ∧ Cm3 s k ∧ (∀ q, s.er.getD q 0 = 0) ∧ Ob w wr b s []) (fun v _ => 60 - (intOf v).toNat)
  case atStart => exact ⟨0, _, Nat.zero_le _, by omega, rfl, sm_fresh, fun q => by simp only [FS.fresh, List.getD, List.getElem?_replicate]; split <;> rfl, O2.out⟩
  case round =>
    obtain ⟨k, s, hk, hk60, rfl, hc, her, hO⟩ := hrel
    have HC := Lib.hid hc
    have HE := Lib.hid her
    have HO := Lib.hid hO
    clear hc her hO
    by_cases hboth : k < n ∧ k < 60
    · obtain ⟨hlt, hlt2⟩ := hboth
      have hl1 : (k : Int) < (n : Int) := by omega
      have hl2 : (k : Int) < 60 := by omega
      obtain ⟨pb, po, rfl, gx⟩ := list_cell HI.out HO.out.k0 hlt
      obtain ⟨x, ex⟩ : ∃ x, x = l.getD k 0 := ⟨_, rfl⟩
      rw [← ex] at gx
      have hlb := World.block_lt_of_cell? _ _ gx
      simp only at hlb
      clear ex
      go_upto_region 5 with (fail)
      go_region_with (first
        | (go_at_call 12; (with_reducible refine (among96 _ _).mono ?_); rintro e w' ⟨rfl, rfl⟩)
        | (go_at_call 12; (with_reducible refine (among65536 _ _).mono ?_); rintro e w' ⟨rfl, rfl⟩)
        | (go_at_call 13; (with_reducible refine (ob_prog_drew HO.out HC.out.good _ _ (by omega)).mono ?_); rintro e w3 ⟨rfl, hO3⟩))
      all_goals go_wp2_with fail
      all_goals
        go_roundw
        case rel =>
          have ha := amongI_lt x 96 (by omega) (by omega)
          obtain ⟨q, hq⟩ := Int.eq_ofNat_of_zero_le ha.1
          rw [hq] at hO3
          have hb : ∀ y, 0 ≤ amongI y 65536 ∧ amongI y 65536 ≤ 65535 := fun y => by have := amongI_lt y 65536 (by omega) (by omega); omega
          obtain ⟨y, hy⟩ : ∃ y, y = IntKind.i64.wrap (x.tdiv 97) := ⟨_, rfl⟩
          rw [← hy] at hO3
          have hp := HC.out.prog (q := q) (by omega) (hb y)
          have hq2 := (prog_calm (q := q) (by rw [HC.out.cut]; omega) HC.out.off (by rw [HC.out.wl]; omega) (hb y)).2.2.1
          exact ⟨k + 1, _, by omega, by omega, by go_num, hp, fun j => by rw [hq2]; exact HE.out j, hO3⟩
        case measure => simp [intOf]; omega
    · by_cases hlt : k < n
      all_goals
        try have hlt2 : ¬ k < 60 := fun h => hboth ⟨hlt, h⟩
        clear hboth
        go_wp2_with fail
        go_ret
        exact ⟨b, rfl, s, HC.out.mono (by omega), HE.out, HO.out⟩

theorem among3 (x : Int) (w : World) : Calls Try.prog 12 #[.int .i64 x, .int .i64 3] w fun e w' => ∃ g : Nat, e = .returned (.int .i64 (g : Int)) ∧ g < 3 ∧ w = w' := by
  refine (among_any x 3 w (by omega) (by omega)).mono ?_
  rintro e w' ⟨rfl, rfl⟩
  have h := amongI_lt x 3 (by omega) (by omega)
  exact ⟨(amongI x 3).toNat, by rw [Int.toNat_of_nonneg h.1], by omega, rfl⟩
/-- A list that is a box. -/
theorem arr_box {w' : World} {g c : Nat} {xs : List Int} {cur : Array Value} (hb : w'.heap[g]? = some (.cells cur 3 (0, 0))) (ht : cur.toList.take xs.length = xs.map (.int .i64)) (hs : cur.size = c) (hl : xs.length ≤ c) (hc : c ≤ maxLen) : Arr w' g c xs :=
  ⟨⟨cur, hb, ht, hs⟩, hl, hc⟩

set_option maxHeartbeats 4000000 in
/-- WearCleans walked. -/
theorem cleans_any (a : Option Addr) (n c : Nat) (l : List Int) (x : Int) (w : World) (hi : IntsAt w a n l) (hn : n ≤ maxLen) :
    Calls Try.prog 5 #[.slice a n c, .int .i64 x] w fun e w' => e = .returned (.bool true) ∧ Keeps [] w w' := by
  have HI := Lib.hid hi
  have HN := Lib.hid hn
  clear hi hn
  go_enter Try.func5, Try.ntmps5
  go_wp2_with fail
  refine (works_any _).mono ?_
  rintro e w1 ⟨rfl, k1⟩
  go_wp2_with fail
  refine (mess_any a n c l _ (HI.out.keep0 k1) HN.out).mono ?_
  rintro e w2 ⟨b, rfl, s, hc, -, hO⟩
  go_wp2_with fail
  refine (among3 x _).mono ?_
  rintro e w3 ⟨g, rfl, hg, rfl⟩
  go_wp2_with fail
  refine (ob_image hO (by rw [hc.wl]; omega)).mono ?_
  rintro e w3 ⟨v, rfl, g1, c1, rfl, hg1, hA1, k3⟩
  rw [hc.wl]
  obtain ⟨cur, hb, ht, hs⟩ := hA1.ex
  have hO3 := hO.add k3 hg1 hb
  have hle := hA1.le
  have hcm := hA1.cm
  obtain ⟨c2, r1, r2, r3⟩ := hc.clean hg
  have ra := clean_again hc hg
  have hC := fun wx (h : Ob w1 wx b s [(g1, .cells cur 3 (0, 0))]) => ob_clean h hc.good hc.geo (g : Int) (by omega)
  have hC2 := fun wx (h : Ob w1 wx b (s.grpP g) [(g1, .cells cur 3 (0, 0))]) => ob_clean h c2.good c2.geo (g : Int) (by omega)
  rw [ra] at hC2
  obtain ⟨r, hr⟩ : ∃ r, r = (cleanR s 3 2 (g : Int)).1 := ⟨_, rfl⟩
  rw [← hr, r1] at hC
  rw [← hr] at r2
  simp only [Int.natCast_zero] at hC hC2
  have HC := Lib.hid hC
  have HC2 := Lib.hid hC2
  have HA := Lib.hid (fun wx (h : Ob w1 wx b (s.grpP g) [(g1, .cells cur 3 (0, 0))]) => arr_box (xs := s.w) (c := c1) (h.box (List.mem_singleton.2 rfl)) ht hs hle hcm)
  have HS := Lib.hid c2
  have HW := Lib.hid r3
  have HO3 := Lib.hid hO3
  have HSW := Lib.hid hc.wl
  have K1 := Lib.hid k1
  have hr2 : (r : Int) ≤ 2 := by omega
  obtain ⟨t, ht2⟩ : ∃ t, t = s.grpP g := ⟨_, rfl⟩
  rw [← ht2] at HC HC2 HA HS HW
  clear hc hO k3 hA1 hb ht hs hO3 hle hcm c2 r1 r2 r3 ra hC hC2 hr ht2 hg1 k1
  go_wp2_with fail
  refine (HC.out _ HO3.out).mono ?_
  rintro e w4 ⟨rfl, hO4⟩
  have HO4 := Lib.hid hO4
  clear hO4
  go_wp2_with fail
  refine (ob_writes HO4.out).mono ?_
  rintro e w5 ⟨rfl, rfl⟩
  go_wp2_with fail
  refine (HC2.out _ HO4.out).mono ?_
  rintro e w5 ⟨rfl, hO5⟩
  have HO5 := Lib.hid hO5
  clear hO5
  go_wp2_with fail
  refine (ob_image HO5.out (by rw [HS.out.wl]; omega)).mono ?_
  rintro e w6 ⟨v, rfl, g2, c2, rfl, hg2, hA2, k6⟩
  rw [HS.out.wl]
  have HO6 := Lib.hid (HO5.out.keep k6)
  have HA1 := Lib.hid (HA.out _ HO6.out)
  have HA2 := Lib.hid hA2
  clear hg2 hA2 k6
  go_wp2_with fail
  go_loopw [13] (fun v wx => ∃ (j m : Nat), j ≤ 96 ∧ v = .int .i64 (j : Int) ∧ wx = w6.drewN m) (fun v _ => 96 - (intOf v).toNat)
  case atStart => exact ⟨0, 0, by omega, rfl, rfl⟩
  case round =>
    obtain ⟨j, mm, hj, rfl, rfl⟩ := hrel
    by_cases hjl : j < 96
    · have hjl2 : (j : Int) < 96 := by omega
      have q1 := HA1.out.cell (i := j) (by rw [HSW.out]; exact hjl)
      have q2 := HA2.out.cell (i := j) (by rw [HS.out.wl]; exact hjl)
      rw [HW.out] at q2
      obtain ⟨y, hy⟩ : ∃ y, y = s.w.getD j 0 := ⟨_, rfl⟩
      rw [← hy] at q1 q2
      obtain ⟨d, hd⟩ : ∃ d, d = j / 32 := ⟨_, rfl⟩
      have hdi : (j : Int) / 32 = (d : Int) := by omega
      by_cases hdg : d = g
      · rw [if_pos (by omega)] at q2
        have hb1 : ((d : Int) == (g : Int)) = true := by simp [hdg]
        have hb2 : ((d : Int) != (g : Int)) = false := by simp [hdg]
        clear hy hd hdg
        go_upto_region 15 with (fail)
        go_quiet (fail)
        go_wp2_with fail
        go_roundw
        case rel => exact ⟨j + 1, _, by omega, by go_num, rfl⟩
        case measure => simp [intOf]; omega
      · rw [if_neg (by omega)] at q2
        have hb1 : ((d : Int) == (g : Int)) = false := by simp; omega
        have hb2 : ((d : Int) != (g : Int)) = true := by simp; omega
        clear hy hd hdg
        go_upto_region 15 with (fail)
        go_quiet (fail)
        go_wp2_with fail
        go_roundw
        case rel => exact ⟨j + 1, _, by omega, by go_num, rfl⟩
        case measure => simp [intOf]; omega
    · have HO7 := Lib.hid (HO6.out.keep ((Keeps.refl [] w6).drewN mm))
      go_wp2_with (go_at_call 36; refine (ob_writes HO7.out).mono ?_; rintro e w8 ⟨rfl, rfl⟩)
      go_ret
      exact ⟨rfl, K1.out.trans0 HO7.out.k0⟩

end Go.Proofs.Ytcaphgokckkmfaa
