
/- pack: put, Signed, Plain: contracts. -/
import Derived.Test.YtihpmnnbiabggaaDoorPb
import Derived.Test.YtihpmnnbiabggaaDoorMk
namespace Go.Proofs.YtihpmnnbiabggaaDoor
open Go.RowKit
set_option maxRecDepth 100000
set_option linter.unusedVariables false

/-- A call handed back a list and a code, and left what there was. -/
def Out (w w' : World) (r : Int × List Int) (e : Ending) : Prop :=
  ∃ a cc, e = .returned (.tuple #[.slice a r.2.length cc, .int .i64 r.1]) ∧ IntsAt w' a r.2.length r.2 ∧ Keeps [] w w' ∧ r.2.length ≤ cc ∧ cc ≤ maxLen
theorem Out.of_nil {w w' : World} {c : Int} (hk : Keeps [] w w') : Out w w' (c, []) (.returned (.tuple #[.slice none 0 0, .int .i64 c])) :=
  ⟨none, 0, rfl, IntsAt.nil _, hk, Nat.le_refl _, by unfold maxLen; omega⟩
theorem Out.of_arr {w w' : World} {g cc n : Nat} {xs : List Int} (hn : n = xs.length) (hA : Arr w' g cc xs) (hk : Keeps [] w w') : Out w w' (0, xs) (.returned (.tuple #[.slice (some ⟨g, 0, none⟩) n cc, .int .i64 0])) := by
  subst hn
  exact ⟨_, cc, rfl, hA.ints, hk, hA.le, hA.cm⟩
theorem putR_bad {k : Int} {s : Bool} {xs : List Int} {x : Int} (hx : x ∈ xs) (hf : fitB k.toNat s x = false) : putR k s xs = (2, []) := by
  unfold putR
  rw [if_neg]
  rintro ⟨_, _, h⟩
  have := h x hx
  rw [hf] at this
  cases this
theorem putR_ok {k : Nat} {s : Bool} {xs : List Int} (h1 : 1 ≤ k) (h4 : k ≤ 4) (h : ∀ x ∈ xs, fitB k s x = true) : putR (k : Int) s xs = (0, flatW k xs) := by
  unfold putR
  rw [if_pos ⟨by omega, by omega, by simpa using h⟩]
  simp
theorem putR_no {k : Int} {s : Bool} {xs : List Int} (h : ¬ (1 ≤ k ∧ k ≤ 4)) : putR k s xs = (2, []) := by
  unfold putR
  rw [if_neg (fun hh => h ⟨hh.1, hh.2.1⟩)]
theorem flat_step (k i n : Nat) (xs : List Int) (x : Int) (hi : i < n) (hn : n = xs.length) (hx : xs.getD i 0 = x) (F : Nat) (hF : F = i * k) :
    let L := flatW k (xs.take i) ++ List.replicate (k * n - k * i) 0
    F + k ≤ L.length ∧ L.length = k * n ∧ L.take F ++ wd k x ++ L.drop (F + k) = flatW k (xs.take (i + 1)) ++ List.replicate (k * n - k * (i + 1)) 0 := by
  intro L
  have h1 : (flatW k (xs.take i)).length = F := by rw [flatW_len, List.length_take, hF, Nat.mul_comm, show min i xs.length = i by omega]
  have h2 : k * (i + 1) ≤ k * n := Nat.mul_le_mul_left k (by omega)
  have h3 : k * (i + 1) = F + k := by rw [hF, Nat.mul_succ, Nat.mul_comm]
  have h4 : k * i = F := by rw [hF, Nat.mul_comm]
  have hlen : L.length = k * n := by simp only [L, List.length_append, List.length_replicate, h1]; omega
  refine ⟨by omega, hlen, ?_⟩
  have e1 : L.take F = flatW k (xs.take i) := by
    simp only [L]
    rw [List.take_append_of_le_length (by omega), List.take_of_length_le (by omega)]
  have e2 : L.drop (F + k) = List.replicate (k * n - k * (i + 1)) 0 := by
    simp only [L]
    rw [List.drop_append, List.drop_eq_nil_of_le (by omega), List.nil_append, h1, List.drop_replicate]
    congr 1
    omega
  have e3 : xs.take (i + 1) = xs.take i ++ [x] := by
    rw [List.take_succ_eq_append_getElem (by omega)]
    congr 2
    rw [← hx]
    simp [List.getD, show i < xs.length by omega]
  rw [e1, e2, e3, flatW_snoc]
theorem u64_inP (x : Int) : 0 ≤ IntKind.u64.wrap x ∧ IntKind.u64.wrap x < 18446744073709551616 := by
  simp [IntKind.wrap, IntKind.bits, IntKind.signed]
  omega

theorem plain_any (k : Int) (w : World) :
    Calls Tryd.prog 45 #[.int .i64 k] w fun e w' => e = .returned (.func (.func 51) #[] #[.pointer (some ⟨w.heap.size, 0, none⟩)]) ∧ w.alloc (.cells #[.int .i64 k] 3) = w' := by
  go_enter Tryd.func45, Tryd.ntmps45
  go_wp2
  go_ret
  exact ⟨rfl, rfl⟩

set_option maxHeartbeats 2000000 in
theorem putU_yes (k : Nat) (p : Addr) (a : Option Addr) (n c : Nat) (xs : List Int) (w : World) (h1 : 1 ≤ k) (h4 : k ≤ 4) (hc : w.cell? p = some (.int .i64 k)) (hi : IntsAt w a n xs) (hx64 : ∀ x ∈ xs, I64 x) (hn : n ≤ 1000) :
    Calls Tryd.prog 44 #[.int .i64 k, .func (.func 51) #[] #[.pointer (some p)], .slice a n c] w fun e w' => Out w w' (putR k false xs) e := by
  have HI := Lib.hid hi
  have HX := Lib.hid hx64
  have HC := Lib.hid hc
  have HP := Lib.hid (World.block_lt_of_cell? _ _ hc)
  have HLEN := Lib.hid (show n = xs.length from hi.1)
  obtain ⟨N, hN⟩ : ∃ N, N = k * n := ⟨_, rfl⟩
  have hkn : (k : Int) * (n : Int) = (N : Int) := by rw [hN]; simp
  have hNle : N ≤ 4000 := by rw [hN]; exact Nat.le_trans (Nat.mul_le_mul h4 hn) (by decide)
  have hmk := run_make_ints 22 Tryd.underlying22 N (by omega)
  have HN := Lib.hid hN
  have hdec : decide (1 ≤ (k : Int) ∧ (k : Int) ≤ 4) = true := by simp; omega
  have HD := Lib.hid hdec
  clear hi hx64 hc hN hdec
  go_enter Tryd.func44, Tryd.ntmps44
  go_wp2_with fail
  refine (within_any _ _ _ _).mono ?_
  rintro e w' ⟨he, rfl⟩
  rw [HD.out] at he
  subst he
  go_wp2_with fail
  go_loopw [23] (fun vi wr => ∃ i : Nat, i ≤ n ∧ vi = .int .i64 i ∧ (∀ x ∈ xs.take i, fitB k false x = true) ∧ Arr wr w.heap.size N (flatW k (xs.take i) ++ List.replicate (k * n - k * i) 0) ∧ Keeps [] w wr) (fun vi _ => n - (intOf vi).toNat)
  case atStart =>
    refine ⟨0, Nat.zero_le _, rfl, by simp, ?_, (Keeps.refl _ _).alloc _⟩
    have := arr_made w (List.replicate N 0) (by simp; omega)
    rw [List.length_replicate] at this
    have e : flatW k (xs.take 0) ++ List.replicate (k * n - k * 0) 0 = List.replicate N 0 := by rw [HN.out]; simp [flatW]
    rw [e]
    exact this
  case round =>
    obtain ⟨i, hi, rfl, hall, hA, hk⟩ := hrel
    have HALL := Lib.hid hall
    have HA := Lib.hid hA
    have HK := Lib.hid hk
    clear hall hA
    by_cases hlt : i < n
    · have hix : i < xs.length := by rw [← HLEN.out]; exact hlt
      rcases a with _ | ⟨lb, lo', ls⟩
      · have := HI.out.2.1 rfl; rw [this] at hix; simp at hix
      have hli := HI.out.keep0 hk
      obtain ⟨rfl, hlc⟩ := hli.2.2 lb lo' ls rfl (List.ne_nil_of_length_pos (by omega))
      have hx := hlc i hix
      obtain ⟨x, ex⟩ : ∃ x, x = xs.getD i 0 := ⟨_, rfl⟩
      rw [← ex] at hx
      have hxm : x ∈ xs := by rw [ex]; simp [List.getD, hix]
      have EX := Lib.hid ex
      have HXM := Lib.hid hxm
      have HX6 := Lib.hid (HX.out x hxm)
      have hcp : wr.cell? p = some (.int .i64 k) := (hk.cell HP.out (by simp)).trans HC.out
      obtain ⟨F, hF⟩ : ∃ F, F = i * k := ⟨_, rfl⟩
      have hik : (i : Int) * (k : Int) = (F : Int) := by rw [hF]; simp
      obtain ⟨f1, f2, f3⟩ := flat_step k i n xs x hlt HLEN.out ex.symm F hF
      rw [f2, ← HN.out] at f1
      have FL := Lib.hid f2
      have F3 := Lib.hid f3
      obtain ⟨b, hb⟩ : ∃ b, b = fitB k false x := ⟨_, rfl⟩
      have HB := Lib.hid hb
      have HCP := Lib.hid hcp
      clear hlc ex hxm hli hcp hF f2 f3 hb hk
      go_wp2_with fail
      refine (plain1_any _ k _ h1 h4 (u64_inP x).1 (u64_inP x).2 _ HCP.out).mono ?_
      rintro e w' ⟨he, rfl⟩
      rw [fit_p k HX6.out, ← HB.out] at he
      subst he
      cases b
      · have hbad : putR k false xs = (2, []) := putR_bad HXM.out (by rw [Int.toNat_natCast, ← HB.out])
        have HBAD := Lib.hid hbad
        clear hbad
        go_wp2_with fail
        go_ret2
        rw [HBAD.out]
        exact Out.of_nil HK.out
      · have hFN : F < N := by omega
        go_wp2_with fail
        refine (lay_any x w.heap.size F k k N _ _ HX6.out HA.out h1 h4 (by rw [FL.out, ← HN.out]; exact f1) (Nat.le_refl _) (by omega)).mono ?_
        rintro e w2 ⟨rfl, hA2, k2⟩
        have HA2 := Lib.hid hA2
        have K2 := Lib.hid (HK.out.trans k2 (by intro y hy; right; simp at hy; omega))
        clear hA2 k2
        go_wp2_with fail
        go_roundw
        case rel =>
          refine ⟨i + 1, by omega, by go_num, ?_, ?_, K2.out⟩
          · intro y hy
            have hix2 : i < xs.length := by rw [← HLEN.out]; exact hlt
            rw [List.take_succ_eq_append_getElem hix2, List.mem_append, List.mem_singleton] at hy
            rcases hy with hy | hy
            · exact HALL.out y hy
            · have e : xs[i] = x := by rw [EX.out]; simp [List.getD, hix2]
              rw [hy, e]; exact HB.out.symm
          · have := HA2.out
            rwa [F3.out] at this
        case measure => simp [intOf]; omega
    · have hin : i = n := by omega
      have hfin : putR k false xs = (0, flatW k xs) := by
        refine putR_ok h1 h4 ?_
        have := HALL.out
        rwa [List.take_of_length_le (by have := HLEN.out; omega)] at this
      have hA3 := HA.out
      rw [List.take_of_length_le (by have := HLEN.out; omega), hin, Nat.sub_self, List.replicate_zero, List.append_nil] at hA3
      have HA3 := Lib.hid hA3
      have HF := Lib.hid hfin
      have HNL := Lib.hid (show N = (flatW k xs).length by rw [flatW_len, ← HLEN.out, HN.out])
      clear hfin hA3 hin
      go_wp2_with fail
      go_ret2
      rw [HF.out]
      exact Out.of_arr HNL.out HA3.out HK.out
theorem putU_no (k : Int) (f : Value) (v : Value) (w : World) (h : ¬ (1 ≤ k ∧ k ≤ 4)) :
    Calls Tryd.prog 44 #[.int .i64 k, f, v] w fun e w' => e = .returned (.tuple #[.slice none 0 0, .int .i64 2]) ∧ w = w' := by
  have hdec : decide (1 ≤ k ∧ k ≤ 4) = false := by simpa using h
  have HD := Lib.hid hdec
  clear hdec h
  go_enter Tryd.func44, Tryd.ntmps44
  go_wp2_with fail
  refine (within_any _ _ _ _).mono ?_
  rintro e w' ⟨he, rfl⟩
  rw [HD.out] at he
  subst he
  go_wp2_with fail
  go_ret2
  exact ⟨rfl, rfl⟩
theorem Plain_any (k : Int) (a : Option Addr) (n c : Nat) (xs : List Int) (w : World) (hi : IntsAt w a n xs) (hx64 : ∀ x ∈ xs, I64 x) (hn : n ≤ 1000) :
    Calls Tryd.prog 37 #[.int .i64 k, .slice a n c] w fun e w' => Out w w' (putR k false xs) e := by
  have HI := Lib.hid hi
  have HX := Lib.hid hx64
  clear hi hx64
  have hcl : (w.alloc (.cells #[.int .i64 k] 3)).cell? ⟨w.heap.size, 0, none⟩ = some (.int .i64 k) := by rw [World.cell?_alloc_new]; rfl
  have HCL := Lib.hid hcl
  clear hcl
  by_cases h : 1 ≤ k ∧ k ≤ 4
  · obtain ⟨j, rfl⟩ := Int.eq_ofNat_of_zero_le (show 0 ≤ k by omega)
    have hj1 : 1 ≤ j := by omega
    have hj4 : j ≤ 4 := by omega
    clear h
    go_enter Tryd.func37, Tryd.ntmps37
    go_wp2_with fail
    refine (plain_any _ _).mono ?_
    rintro e w' ⟨rfl, rfl⟩
    go_wp2_with fail
    refine (putU_yes j _ a n c xs _ hj1 hj4 HCL.out (HI.out.keep0 ((Keeps.refl _ _).alloc _)) HX.out hn).mono ?_
    rintro e w2 ⟨a2, c2, rfl, h2, k2, l2⟩
    have H2 := Lib.hid h2
    have L2 := Lib.hid l2
    clear h2 l2
    go_wp2_with fail
    go_ret2
    exact ⟨a2, c2, rfl, H2.out, ((Keeps.refl _ _).alloc _).trans0 k2, L2.out⟩
  · have hno : putR k false xs = (2, []) := putR_no h
    rw [hno]
    have HH := Lib.hid h
    clear h hno
    go_enter Tryd.func37, Tryd.ntmps37
    go_wp2_with fail
    refine (plain_any _ _).mono ?_
    rintro e w' ⟨rfl, rfl⟩
    go_wp2_with fail
    refine (putU_no k _ _ _ HH.out).mono ?_
    rintro e w2 ⟨rfl, rfl⟩
    go_wp2_with fail
    go_ret2
    exact Out.of_nil ((Keeps.refl _ _).alloc _)
end Go.Proofs.YtihpmnnbiabggaaDoor
