
/- group: the statements' few, blank, all: contracts. No condition but lengths. group: the statements' with: words programmed onto blank ones: the contract. No condition but that they fit there, are words, and that blank ones lie there. group: what is found is compared with itself, whole: steps; the statements' same. No condition but that what is alive is 44 numbers. A slice of records as a parameter, opened. No condition. group: the statements' own fixed whole (works). No condition but the table of the sums. -/
import Derived.Test.YtihpmnnbiabggaaDoorRk
import Derived.Test.YtihpmnnbiabggaaDoorRe
import Derived.Test.YtihpmnnbiabggaaDoorAm
import Derived.Test.YtihpmnnbiabggaaDoorIn
import Derived.Test.YtihpmnnbiabggaaDoorGo
import Derived.Deep.CutBlock
import Derived.StillTailTactics
import Derived.Test.YtihpmnnbiabggaaDoorRo
import Derived.Test.YtihpmnnbiabggaaDoorOr
import Derived.Test.YtihpmnnbiabggaaDoorRd
import Derived.Deep.Slices
import Derived.Deep.Fields
import Derived.Test.YtihpmnnbiabggaaDoorRm
namespace Go.Proofs.YtihpmnnbiabggaaDoor
open Go.RowKit Go.Shelf
set_option linter.unusedVariables false
set_option linter.unusedSimpArgs false
set_option maxRecDepth 100000

def fewN (n : Nat) : Nat := if n ≤ 480 then n else 480
theorem fewN_le (n : Nat) : fewN n ≤ n ∧ fewN n ≤ 480 := by unfold fewN; split <;> omega
theorem few_any (a : Option Addr) (n c : Nat) (w : World) (hn : n ≤ c) (hc : c ≤ maxLen) :
    Calls Tryd.prog 5 #[.slice a n c] w fun e w' => e = .returned (.slice a (fewN n) c) ∧ w = w' := by
  unfold maxLen at hc
  rcases Nat.lt_trichotomy n 480 with h | h | h
  · have e : fewN n = n := by unfold fewN; rw [if_pos (by omega)]
    rw [e]
    go_enter Tryd.func5, Tryd.ntmps5
    go_wp2
    all_goals (try omega)
    all_goals (go_ret; try exact ⟨by simp [*], rfl⟩)
  · have e : fewN n = n := by unfold fewN; rw [if_pos (by omega)]
    rw [e]
    subst h
    go_enter Tryd.func5, Tryd.ntmps5
    go_wp2
    all_goals (try omega)
    all_goals (go_ret; try exact ⟨rfl, rfl⟩)
  · have e : fewN n = 480 := by unfold fewN; rw [if_neg (by omega)]
    rw [e]
    go_enter Tryd.func5, Tryd.ntmps5
    go_wp2
    all_goals (try omega)
    all_goals (go_ret; try exact ⟨by simp [*], rfl⟩)

theorem rep_snoc (n : Nat) (x : Int) : List.replicate (n + 1) x = List.replicate n x ++ [x] := by rw [List.replicate_succ']

set_option maxHeartbeats 2000000 in
theorem gblank_any (m : Nat) (w : World) (hm : m ≤ 100) :
    Calls Tryd.prog 8 #[.int .i64 (m : Int)] w fun e w' => ∃ g c', e = .returned (.slice (some ⟨g, 0, none⟩) (16 * m) c') ∧ Arr w' g c' (List.replicate (16 * m) 65535) ∧ Keeps [] w w' ∧ w.heap.size ≤ g := by
  obtain ⟨i0, hi0, hz0, hz1, hz2⟩ := info_parts Tryd.info3
  have O0 := Lib.hid (own_empty w)
  have K0 := Lib.hid ((Keeps.refl [] w).alloc (.cells #[] 3))
  obtain ⟨M, hM⟩ : ∃ M, M = 16 * m := ⟨_, rfl⟩
  have e1 : IntKind.i64.wrap ((m : Int) * 16) = (M : Int) := by rw [IntKind.wrap_i64]; omega
  have hMb : M ≤ 1600 := by omega
  rw [← hM]
  clear hM
  go_enter Tryd.func8, Tryd.ntmps8
  go_wp2_with fail
  go_loopw [3, 4] (fun vs vi wr => ∃ (i g vc : Nat), i ≤ M ∧ vi = .int .i64 i ∧ vs = .slice (some ⟨g, 0, none⟩) i vc ∧ wr.ownsRow w.heap.size 3 1 (.slice (some ⟨g, 0, none⟩) i vc) i ((List.replicate i 65535).map (.int .i64)) ∧ Keeps [] w wr) (fun _ vi _ => M - (intOf vi).toNat)
  case atStart => exact ⟨0, w.heap.size, 0, Nat.zero_le _, rfl, rfl, O0.out, K0.out⟩
  case round =>
    obtain ⟨i, g, vc, hi, rfl, rfl, hown, hk⟩ := hrel
    have HK := Lib.hid hk
    have HO := Lib.hid hown
    have hws := hk.size
    clear hown hk
    by_cases hlt : i < M
    · have hlti : (i : Int) < (M : Int) := by omega
      have hO2 := Lib.hid (ownsRow_keep HO.out ((Keeps.refl [] wr).alloc (.cells #[.int .i64 65535] 3)) (by simp))
      have hK2 := Lib.hid (HK.out.alloc (.cells #[.int .i64 65535] 3))
      have hnc := Lib.hid (new_cells wr [65535] 3)
      have hws2 : w.heap.size ≤ (wr.alloc (.cells #[.int .i64 65535] 3)).heap.size := hK2.out.size
      go_wp2_with (at_builtin; refine wpList_append_new _ rfl (.tmp 12) (.tmp 13) 22 rfl w.heap.size 3 i0 (.int .i64 0) 1 8 Tryd.underlying22 hi0 hz0 hz1 hz2 rfl (by decide) (.slice (some ⟨g, 0, none⟩) i vc) i _ rfl hO2.out ⟨wr.heap.size, 0, none⟩ 1 1 ([65535].map (.int .i64)) rfl rfl hnc.out (map_one _) (by unfold maxLen; omega) (by omega) hws2 ?_; intro v' u5 q1 q2 q3 q4; obtain ⟨g', c'', rfl⟩ := ownsRow_succ q1; have HA5 := Lib.hid (show u5.ownsRow w.heap.size 3 1 (.slice (some ⟨g', 0, none⟩) (i + 1) c'') (i + 1) ((List.replicate (i + 1) 65535).map (.int .i64)) by rw [rep_snoc, List.map_append]; exact q1); have K5 := Lib.hid (hK2.out.grown q2 (fun j e => .inr (own_block hO2.out j e))); clear q1 q2 q3 q4)
      go_roundw
      case rel => exact ⟨i + 1, g', c'', by omega, by go_num, rfl, HA5.out, K5.out⟩
      case measure => simp [intOf]; omega
    · have hin : i = M := by omega
      have hni : (M : Int) ≤ (i : Int) := by omega
      have hown := HO.out
      rw [hin] at hown
      obtain ⟨g2, c2, e2, hg2, hA2⟩ := Arr.of_own hown (by simp)
      have HE2 := Lib.hid e2
      have HA2 := Lib.hid hA2
      have HG2 := Lib.hid hg2
      have HIN := Lib.hid hin
      clear hin hown e2 hA2 hg2
      go_wp2_with fail
      go_ret
      refine ⟨g2, c2, ?_, HA2.out, HK.out, HG2.out⟩
      have h := HE2.out
      rw [List.length_replicate] at h
      rw [← h, HIN.out]
      rfl

theorem built_kind (k : Int) : Tryd.prog.built 50 [(0, .int .i64 k)] = some (ints (k :: zer 12)) := by kernel_rfl
section
variable {ops : Array Oper} {rest : List Oper} {o : Oper} {a : Act} {w : World} {Q : Exit → Act → World → Prop}
theorem bd_kind (x : Operand) {k : Int} (hgd : o.guard = none) (ho : o.op = .build 50 #[(0, x)]) (hx : a.eval x = .int .i64 k)
    (h : wpList Tryd.prog ops Q rest (a.put o.dst (.agg (ints (k :: zer 12)))) w) : wpList Tryd.prog ops Q (o :: rest) a w := by
  have e : ((#[(0, x)] : Array (Nat × Operand)).map fun (i, x) => (i, a.eval x)).toList = [(0, .int .i64 k)] := by simp [hx]
  refine wpList_plain hgd fun K hK => ?_
  refine wp_build 50 _ ho (by rw [e, built_kind]; rfl) ?_
  rw [e, built_kind]
  exact hK _ _ h
end
/-- The statements' record of a kind. -/
def kindL (n : Int) (k : Nat) : List Int := (k : Int) :: 0 :: amongI (wrap64 (n + k)) 65536 :: zer 10
theorem kindL_len (n : Int) (k : Nat) : (kindL n k).length = 13 := by simp [kindL, zer]
def kindsL (n : Int) (j : Nat) : List (List Int) := (List.range j).map (kindL n)
theorem kindsL_snoc (n : Int) (j : Nat) : kindsL n (j + 1) = kindsL n j ++ [kindL n j] := by simp [kindsL, List.range_succ]
theorem own_emptyR (w : World) : (w.alloc (.cells #[] 50)).ownsRow w.heap.size 50 13 (.slice (some ⟨w.heap.size, 0, none⟩) 0 0) 0 [] :=
  ⟨by simp, .inr ⟨w.heap.size, 0, #[], rfl, Nat.le_refl _, heap_alloc_new w _, Nat.le_refl _, by unfold maxLen; omega, rfl, by simp⟩⟩

set_option maxHeartbeats 4000000 in
theorem all_any (n : Int) (w : World) :
    Calls Tryd.prog 12 #[.int .i64 n] w fun e w' => ∃ a c', e = .returned (.slice a 4 c') ∧ RecsAt w' a 4 (kindsL n 4) ∧ 4 ≤ c' ∧ c' ≤ maxLen ∧ Keeps [] w w' := by
  obtain ⟨i0, hi0, hz0, hz1, hz2⟩ := info_parts infoRec3
  have O0 := Lib.hid (own_emptyR w)
  have K0 := Lib.hid ((Keeps.refl [] w).alloc (.cells #[] 50))
  go_enter Tryd.func12, Tryd.ntmps12
  go_wp2_with fail
  go_loopw [3, 4] (fun vs vi wr => ∃ (k g vc : Nat), k ≤ 4 ∧ vi = .int .i64 k ∧ vs = .slice (some ⟨g, 0, none⟩) k vc ∧ wr.ownsRow w.heap.size 50 13 (.slice (some ⟨g, 0, none⟩) k vc) k ((kindsL n k).flatten.map (.int .i64)) ∧ Keeps [] w wr) (fun _ vi _ => 4 - (intOf vi).toNat)
  case atStart => exact ⟨0, w.heap.size, 0, Nat.zero_le _, rfl, rfl, O0.out, K0.out⟩
  case round =>
    obtain ⟨k, g, vc, hk4, rfl, rfl, hown, hk⟩ := hrel
    have HK := Lib.hid hk
    have HO := Lib.hid hown
    have hws := hk.size
    clear hown hk
    by_cases hlt : k < 4
    · have hlti : (k : Int) < 4 := by omega
      have hA : RecAt (wr.alloc (.cells (ints (zer 13)) 50)) wr.heap.size (zer 13) := heap_alloc_new wr _
      have KA := Lib.hid ((Keeps.refl [] wr).alloc (.cells (ints (zer 13)) 50))
      have hl13 : ((k : Int) :: zer 12).length = 13 := by simp [zer]
      have e1 : IntKind.i64.wrap (n + (k : Int)) = wrap64 (n + k) := by rw [IntKind.wrap_i64]; unfold wrap64; omega
      have hkl := kindL_len n k
      have hset : ((k : Int) :: zer 12).set 2 (amongI (wrap64 (n + k)) 65536) = kindL n k := rfl
      obtain ⟨A, hA2⟩ : ∃ A, A = amongI (wrap64 (n + k)) 65536 := ⟨_, rfl⟩
      rw [← hA2] at hset
      have HA2 := Lib.hid hA2
      have HSET := Lib.hid hset
      have HL13 := Lib.hid hl13
      have HKL := Lib.hid hkl
      obtain ⟨L, hL⟩ : ∃ L, L = kindL n k := ⟨_, rfl⟩
      rw [← hL] at HSET HKL
      have HLL := Lib.hid hL
      clear hA2 hset hl13 hkl hL
      go_wp2_with (first
        | (refine bd_kind _ rfl rfl rfl ?_; simp only [Act.put])
        | (simp only [zeros13])
        | (refine st_rec _ _ hA (zer_len _) HL13.out rfl rfl rfl rfl ?_; intro u3 h3 k3 s3; simp only [Act.put]; have c3 := h3.cell 2 (by rw [HL13.out]; decide); have f3 := h3.frozen 2; have kk3 := KA.out.trans k3 (by intro x hx; right; simp at hx; omega); have hT : RecAt (u3.setCell ⟨wr.heap.size, 2, none⟩ (.int .i64 A)) wr.heap.size L := (by rw [← HSET.out]; exact h3.set 2 A); have KT := Lib.hid (kk3.setCell (p := ⟨wr.heap.size, 2, none⟩) (.inr (Nat.le_refl _)) (.int .i64 A)); clear hA k3 h3 kk3)
        | (go_at_call 10; refine (among_any _ _ _ (by omega) (by omega)).mono ?_; rw [← HA2.out]; rintro e w' ⟨rfl, rfl⟩)
        | (refine ld_rec _ hT HKL.out rfl rfl rfl ?_; simp only [Act.put])
        | (refine bs_rec _ HKL.out rfl rfl rfl ?_; simp only [Act.put])
        | (at_builtin; refine wpList_append_new _ rfl (.tmp 19) (.tmp 21) 36 rfl w.heap.size 50 i0 _ 13 104 Tryd.underlying36 hi0 hz0 hz1 hz2 (by decide) (by decide) (.slice (some ⟨g, 0, none⟩) k vc) k _ rfl (ownsRow_keep HO.out (KT.out.alloc (.cells (ints L) 50)) (by simp)) ⟨_, 0, none⟩ 1 1 (L.map (.int .i64)) rfl (by rw [List.length_map, HKL.out]) (new_cells _ L _) (map_one _) (by unfold maxLen; omega) (by omega) ((HK.out.trans0 KT.out).alloc (.cells (ints L) 50)).size ?_; intro v' u5 q1 q2 q3 q4; obtain ⟨g', c'', rfl⟩ := ownsRow_succ q1; have HA5 := Lib.hid (show u5.ownsRow w.heap.size 50 13 (.slice (some ⟨g', 0, none⟩) (k + 1) c'') (k + 1) ((kindsL n (k + 1)).flatten.map (.int .i64)) by rw [kindsL_snoc, List.flatten_append, List.map_append, ← HLL.out]; simpa using q1); have K5 := Lib.hid (((HK.out.trans0 KT.out).alloc (.cells (ints L) 50)).grown q2 (fun j e => .inr (own_block HO.out j e))); clear q1 q2 q3 q4))
      go_roundw
      case rel => exact ⟨k + 1, g', c'', by omega, by go_num, rfl, HA5.out, K5.out⟩
      case measure => simp [intOf]; omega
    · have hin : k = 4 := by omega
      subst hin
      obtain ⟨a', c', he, hr, h1, h2, -⟩ := recs_of_own (rs := kindsL n 4) (by
        intro r hr
        obtain ⟨j, -, rfl⟩ := List.mem_map.1 hr
        exact kindL_len n j) (by simp [kindsL]) HO.out
      injection he with he1 he2 he3
      subst he1; subst he3
      have HR := Lib.hid hr
      have H1 := Lib.hid h1
      have H2 := Lib.hid h2
      clear hr h1 h2
      go_wp2_with fail
      go_ret
      exact ⟨_, _, rfl, HR.out, H1.out, H2.out, HK.out⟩
theorem kinds_all (n : Int) : kindsL n 4 = allL n := by
  simp [kindsL, allL, kindL, List.range_succ]

end Go.Proofs.YtihpmnnbiabggaaDoor

namespace Go.Proofs.YtihpmnnbiabggaaDoor
open Go.RowKit
set_option linter.unusedVariables false
set_option linter.unusedSimpArgs false
set_option maxRecDepth 100000

theorem bits_i64_andG (a b : Nat) (ha : a < 65536) (hb : b < 65536) : bits .and .i64 (a : Int) (b : Int) = ((a &&& b : Nat) : Int) := by
  have hx : a &&& b < 65536 := Nat.lt_of_le_of_lt Nat.and_le_left ha
  have e : ∀ n : Nat, n < 65536 → (BitVec.ofInt 64 (n : Int)).toNat = n := by
    intro n hn
    rw [BitVec.ofInt_natCast, BitVec.toNat_ofNat]; exact Nat.mod_eq_of_lt (by omega)
  show IntKind.i64.wrap ((BitVec.ofInt 64 (a : Int) &&& BitVec.ofInt 64 (b : Int)).toNat : Int) = _
  rw [BitVec.toNat_and, e a ha, e b hb, IntKind.wrap_i64]
  omega
theorem bits_blank (y : Int) (h0 : 0 ≤ y) (h1 : y ≤ 65535) : bits .and .i64 65535 y = y := by
  obtain ⟨b, rfl⟩ := Int.eq_ofNat_of_zero_le h0
  have hb : b < 65536 := by omega
  have h2 : 65535 &&& b = b := by
    rw [Nat.and_comm, show (65535 : Nat) = 2 ^ 16 - 1 from rfl, Nat.and_two_pow_sub_one_eq_mod]
    omega
  have h := bits_i64_andG 65535 b (by omega) hb
  rw [h2] at h
  exact h

theorem withB_snoc {xs : List Int} {a i : Nat} {ws : List Int} (hi : i < ws.length) (ha : a + ws.length ≤ xs.length) : (withB xs a (ws.take i)).set (a + i) (ws.getD i 0) = withB xs a (ws.take (i + 1)) := by
  unfold withB
  have h1 : (xs.take a).length = a := by simp; omega
  have h2 : (ws.take i).length = i := by simp; omega
  have h3 : (ws.take (i + 1)).length = i + 1 := by simp; omega
  rw [List.set_append_right _ _ (by omega), List.set_append_right _ _ (by omega), h1, h2, h3, show a + i - a - i = 0 by omega]
  have h4 : xs.drop (a + i) = xs.getD (a + i) 0 :: xs.drop (a + (i + 1)) := by
    rw [List.drop_eq_getElem_cons (by omega)]
    simp only [List.getD, List.getElem?_eq_getElem (show a + i < xs.length by omega), Option.getD_some]
    rfl
  rw [h4, List.set_cons_zero, List.take_add_one, List.getElem?_eq_getElem hi]
  simp only [List.getD, List.getElem?_eq_getElem hi, Option.getD_some, Option.toList_some, List.append_assoc, List.cons_append, List.nil_append]
theorem withB_at {xs : List Int} {a i : Nat} {ws : List Int} (hi : i < ws.length) (ha : a + ws.length ≤ xs.length) : (withB xs a (ws.take i)).getD (a + i) 0 = xs.getD (a + i) 0 := by
  unfold withB
  have h1 : (xs.take a).length = a := by simp; omega
  have h2 : (ws.take i).length = i := by simp; omega
  simp only [List.getD]
  rw [List.getElem?_append_right (by omega), List.getElem?_append_right (by omega), h1, h2, List.getElem?_drop]
  congr 2
  omega
theorem withB_nil (xs : List Int) (a : Nat) (ws : List Int) (ha : a ≤ xs.length) : withB xs a (ws.take 0) = xs := by
  unfold withB
  simp

set_option maxHeartbeats 4000000 in
theorem with_any (aw : Option Addr) (nw cw : Nat) (xs : List Int) (at' : Nat) (al : Option Addr) (nl cl : Nat) (ws : List Int) (w : World) (hi : IntsAt w aw nw xs) (hnw : nw * 8 ≤ 140737488355328)
    (hw : IntsAt w al nl ws) (hfit : at' + ws.length ≤ xs.length) (hws : ∀ x ∈ ws, 0 ≤ x ∧ x ≤ 65535) (hbl : ∀ j, j < ws.length → xs.getD (at' + j) 0 = 65535) :
    Calls Tryd.prog 13 #[.slice aw nw cw, .int .i64 (at' : Int), .slice al nl cl] w fun e w' => ∃ g c', e = .returned (.slice (some ⟨g, 0, none⟩) xs.length c') ∧ Arr w' g c' (withB xs at' ws) ∧ Keeps [] w w' ∧ w.heap.size ≤ g := by
  have hnl := hw.1
  have hxl := hi.1
  have HI := Lib.hid hi
  have HW := Lib.hid hw
  have HWS := Lib.hid hws
  have HBL := Lib.hid hbl
  have HNL := Lib.hid hnl
  have HXL := Lib.hid hxl
  obtain ⟨X, hX⟩ : ∃ X, X = xs.length := ⟨_, rfl⟩
  have hXb : X ≤ 17592186044416 := by omega
  rw [← hX]
  have HX := Lib.hid hX
  have hfit2 : at' + nl ≤ X := by rw [hX, hnl]; exact hfit
  have HFIT := Lib.hid hfit
  clear hi hw hws hbl hnl hxl hX hfit
  go_enter Tryd.func13, Tryd.ntmps13
  go_wp2_with (go_at_call 9; refine (ints_any _ _ _ _ _ HI.out hnw).mono ?_; rintro e w1 ⟨v, rfl, g, c', rfl, hg, hA, k1⟩; rw [← HX.out]; have HA := Lib.hid hA; have K1 := Lib.hid k1; have HG := Lib.hid hg; clear hA k1)
  go_loopw [8] (fun vi wr => ∃ (i : Nat), i ≤ nl ∧ vi = .int .i64 i ∧ Arr wr g c' (withB xs at' (ws.take i)) ∧ Keeps [g] w1 wr) (fun vi _ => nl - (intOf vi).toNat)
  case atStart => exact ⟨0, Nat.zero_le _, rfl, by rw [withB_nil _ _ _ (by have := HFIT.out; omega)]; exact HA.out, Keeps.refl _ _⟩
  case round =>
    obtain ⟨i, hi, rfl, hAr, hk⟩ := hrel
    have HAR := Lib.hid hAr
    have HK := Lib.hid hk
    clear hk
    by_cases hlt : i < nl
    · have hltw : i < ws.length := by rw [← HNL.out]; exact hlt
      have hlti : (i : Int) < (nl : Int) := by omega
      obtain ⟨Z, hZ⟩ : ∃ Z, Z = at' + i := ⟨_, rfl⟩
      have e1 : IntKind.i64.wrap ((at' : Int) + (i : Int)) = (Z : Int) := by rw [IntKind.wrap_i64]; omega
      have hlt2 : (Z : Int) < (X : Int) := by omega
      have hlt3 : Z < X := by omega
      obtain ⟨b, o, rfl⟩ := HW.out.addr (by omega)
      obtain ⟨wi, hwi⟩ : ∃ wi, wi = ws.getD i 0 := ⟨_, rfl⟩
      have hwb : 0 ≤ wi ∧ wi ≤ 65535 := by
        refine HWS.out wi ?_
        rw [hwi]
        simp only [List.getD, List.getElem?_eq_getElem hltw, Option.getD_some]
        exact List.getElem_mem hltw
      have hwl : (withB xs at' (ws.take i)).length = X := by rw [withB_len (by have := HFIT.out; simp; omega), HX.out]
      have ca := hAr.cell (i := at' + i) (by rw [hwl]; omega)
      rw [withB_at hltw HFIT.out, HBL.out i hltw] at ca
      have fa := hAr.frozen (at' + i)
      have hgb : g ≠ b := by
        intro h
        have hcw := (HW.out.2.2 b o none rfl (List.ne_nil_of_length_pos (by omega))).2 i hltw
        have hlb := World.block_lt_of_cell? _ _ hcw
        have := HG.out
        simp at hlb
        omega
      have hIw := (HW.out.keep0 K1.out).keep HK.out (by intro b' o' s e; injection e with e; injection e with e; subst e; simp; omega)
      have cw := (hIw.2.2 b o none rfl (List.ne_nil_of_length_pos (by omega))).2 i hltw
      rw [← hwi] at cw
      have hand := bits_blank wi hwb.1 hwb.2
      have hset := hAr.set (i := at' + i) (by rw [hwl]; omega) wi
      rw [hwi, withB_snoc hltw HFIT.out, ← hwi] at hset
      have HSET := Lib.hid hset
      have HKS := Lib.hid (HK.out.setCell (p := ⟨g, at' + i, none⟩) (.inl (by simp)) (.int .i64 wi))
      rw [← hZ] at ca fa HSET HKS
      clear hwi hwb hwl hset hIw hAr hZ
      go_upto_region 5 with fail
      go_still_tail 16, (by kernel_rfl)
      go_wp2_with fail
      go_roundw
      case rel => exact ⟨i + 1, by omega, by go_num, HSET.out.keep (F := []) (Keeps.refl _ _).drew (by simp), HKS.out.drew⟩
      case measure => simp [intOf]; omega
    · have hin : i = nl := by omega
      have hfin := HAR.out
      rw [hin, HNL.out, List.take_length] at hfin
      have HFIN := Lib.hid hfin
      have hni : (nl : Int) ≤ (i : Int) := by omega
      clear hin hfin hAr
      go_wp2_with fail
      go_ret
      exact ⟨g, c', rfl, HFIN.out, K1.out.trans HK.out (by intro x hx; rw [List.mem_singleton] at hx; rw [hx]; exact .inr HG.out), HG.out⟩

end Go.Proofs.YtihpmnnbiabggaaDoor

namespace Go.Proofs.YtihpmnnbiabggaaDoor
open Go.RowKit Go.Shelf
set_option linter.unusedVariables false
set_option linter.unusedSimpArgs false
set_option maxRecDepth 100000

theorem infoInt' : ∃ i, Tryd.prog.info? 3 = some i := by
  cases h : Tryd.prog.info? 3 with
  | none => have := Tryd.info3; simp [h] at this
  | some i => exact ⟨i, rfl⟩
theorem infoPay' : ∃ i, Tryd.prog.info? 25 = some i := by
  cases h : Tryd.prog.info? 25 with
  | none => have := infoPay; simp [h] at this
  | some i => exact ⟨i, rfl⟩
theorem cellsPayT : Tryd.prog.cellsOf 25 = 11 := by kernel_rfl
theorem run_part_payAt (w : World) (l : List Int) (o : Nat) : (part 25 (ints l) o).run Tryd.prog w = .ok (.agg (ints ((l.drop o).take 11))) w := by
  cases hq : Tryd.prog.info? 25 with
  | none => have := infoPay; simp [hq] at this
  | some i =>
    have hs : i.size = 11 := by have := infoPay; simpa [hq] using this
    simp only [part, Sem.run_bind, isAggPay, Result.andThen_ok, if_true, sizeOf, typeInfo, hq, hs, Sem.run_pure, run_program]
    rw [ints_mid]
theorem pay_equal (w : World) (d : Nat) {l : List Int} (hl : l.length = 11) : (Op.equalIn (d + 2) 25 (.agg (ints l)) (.agg (ints l))).run Tryd.prog w = .ok true w := by
  obtain ⟨i, hi⟩ := infoInt'
  rw [run_equalIn_array w (d + 1) (ints l) (ints l) Tryd.underlying25 hi, cellsI, items_eq w d l l _ (by intro i hi; simp at hi; omega)]
  simp
theorem live_items (w : World) (d : Nat) {l : List Int} (hl : l.length = 44) : ∀ is : List Nat, (∀ i ∈ is, i < 4) → (Op.eqItems (d + 2) 25 11 (ints l) (ints l) is).run Tryd.prog w = .ok true w
  | [], _ => by simp [Op.eqItems]
  | i :: is, h => by
    have h1 := h i (by simp)
    simp only [Op.eqItems, Sem.run_bind, run_part_payAt, Result.andThen_ok, pay_equal w d (l := (l.drop (i * 11)).take 11) (by simp [hl]; omega)]
    simpa using live_items w d hl is (fun j hj => h j (by simp [hj]))
theorem live_equal (w : World) (d : Nat) {l : List Int} (hl : l.length = 44) : (Op.equalIn (d + 3) 26 (.agg (ints l)) (.agg (ints l))).run Tryd.prog w = .ok true w := by
  obtain ⟨i, hi⟩ := infoPay'
  rw [run_equalIn_array w (d + 2) (ints l) (ints l) Tryd.underlying26 hi, cellsPayT, live_items w d hl _ (by intro i hi; simpa using hi)]

theorem fieldsF : (Tryd.prog.fieldsOf 28).toList.map (fun f => (f.name == "_", f.type, f.offset)) = [(false, 4, 0), (false, 3, 1), (false, 26, 2), (false, 3, 46), (false, 3, 47)] := by kernel_rfl
theorem structF : Tryd.prog.underlying 28 = some (.struct (Tryd.prog.fieldsOf 28)) := by kernel_rfl
theorem notStoodF : Tryd.prog.stoodInHeld 28 = false := by kernel_rfl
theorem guardF : Tryd.prog.eqGuardType Tryd.prog.depth 28 = false := by kernel_rfl
theorem guardLive : Tryd.prog.eqGuardType Tryd.prog.depth 26 = false := by kernel_rfl
theorem isAggLive (w : World) : (isAgg 26).run Tryd.prog w = .ok true w := by
  unfold isAgg
  rw [Sem.run_bind, run_underlying Tryd.underlying26 w]
  rfl
theorem fndV_live {f : Fnd} (hl : f.live.length = 44) : (fndV f).extract 2 (2 + 44) = ints f.live := by
  apply Array.ext'
  simp only [fndV, List.extract_toArray, List.extract_eq_take_drop, ints]
  unfold fndC
  simp only [List.drop_succ_cons, List.drop_zero]
  rw [List.take_append_of_le_length (by simp [hl]), List.take_of_length_le (by simp [hl])]
theorem run_part_live (w : World) {f : Fnd} (hl : f.live.length = 44) : (part 26 (fndV f) 2).run Tryd.prog w = .ok (.agg (ints f.live)) w := by
  cases hq : Tryd.prog.info? 26 with
  | none => have := infoLive; simp [hq] at this
  | some i =>
    have hs : i.size = 44 := by have := infoLive; simpa [hq] using this
    simp only [part, Sem.run_bind, isAggLive, Result.andThen_ok, if_true, sizeOf, typeInfo, hq, hs, Sem.run_pure, run_program]
    rw [fndV_live hl]
theorem fnd_equal (w : World) {f : Fnd} (hl : f.live.length = 44) : (Op.equalIn 10000 28 (.agg (fndV f)) (.agg (fndV f))).run Tryd.prog w = .ok true w := by
  have h := fieldsF
  generalize hL : (Tryd.prog.fieldsOf 28).toList = L at h
  obtain ⟨f1, L1, rfl, a1, h⟩ := List.map_eq_cons_iff.1 h
  obtain ⟨f2, L2, rfl, a2, h⟩ := List.map_eq_cons_iff.1 h
  obtain ⟨f3, L3, rfl, a3, h⟩ := List.map_eq_cons_iff.1 h
  obtain ⟨f4, L4, rfl, a4, h⟩ := List.map_eq_cons_iff.1 h
  obtain ⟨f5, L5, rfl, a5, h⟩ := List.map_eq_cons_iff.1 h
  obtain rfl := List.map_eq_nil_iff.1 h
  simp only [Prod.mk.injEq, beq_eq_false_iff_ne, ne_eq] at a1 a2 a3 a4 a5
  obtain ⟨n1, t1, o1⟩ := a1
  obtain ⟨n2, t2, o2⟩ := a2
  obtain ⟨n3, t3, o3⟩ := a3
  obtain ⟨n4, t4, o4⟩ := a4
  obtain ⟨n5, t5, o5⟩ := a5
  have hp : Tryd.prog.plainKey 3 = true := by kernel_rfl
  have hb : Tryd.prog.plainKey 4 = true := by kernel_rfl
  have g0 : (fndV f)[0]? = some (.bool f.has) := rfl
  have g1 : (fndV f)[1]? = some (.int .i64 f.seq) := rfl
  have g46 : (fndV f)[46]? = some (.int .i64 f.com) := by
    have h : (fndC f)[46]? = some (.int .i64 f.com) := by
      unfold fndC
      rw [List.getElem?_cons_succ, List.getElem?_cons_succ, List.getElem?_append_right (by simp [hl])]
      simp [hl]
    simpa [fndV] using h
  have g47 : (fndV f)[47]? = some (.int .i64 (f.free : Int)) := by
    have h : (fndC f)[47]? = some (.int .i64 (f.free : Int)) := by
      unfold fndC
      rw [List.getElem?_cons_succ, List.getElem?_cons_succ, List.getElem?_append_right (by simp [hl])]
      simp [hl]
    simpa [fndV] using h
  have e0 := run_part_plain w hb g0
  have e1 := run_part_plain w hp g1
  have e2 := run_part_live w hl
  have e3 := run_part_plain w hp g46
  have e4 := run_part_plain w hp g47
  have q0 := run_equalIn_bool w 9998 4 f.has f.has Tryd.underlying4
  have q1 := run_equalIn_int w 9998 3 .i64 .i64 f.seq f.seq Tryd.underlying3
  have q2 := live_equal w 9996 hl
  have q3 := run_equalIn_int w 9998 3 .i64 .i64 f.com f.com Tryd.underlying3
  have q4 := run_equalIn_int w 9998 3 .i64 .i64 (f.free : Int) (f.free : Int) Tryd.underlying3
  rw [run_equalIn_struct w 9999 _ _ _ structF notStoodF, hL]
  simp only [Op.eqFields, n1, n2, n3, n4, n5, t1, t2, t3, t4, t5, o1, o2, o3, o4, o5, ne_eq, not_false_eq_true, if_true, Sem.run_bind, Result.andThen_ok, e0, e1, e2, e3, e4, q0, q1, q2, q3, q4, beq_self_eq_true, Bool.not_true, Bool.false_eq_true, if_false, Sem.run_pure]

section
variable {ops : Array Oper} {rest : List Oper} {o : Oper} {a : Act} {w : World} {Q : Exit → Act → World → Prop}
theorem eq_fnd (x y : Operand) (t : TypeId) {f : Fnd} (hl : f.live.length = 44) (hgd : Region.wanted o (yielded ops a.tmps) = true) (ho : o.op = .binOp .eql 28 x y t) (hx : a.eval x = .agg (fndV f)) (hy : a.eval y = .agg (fndV f))
    (h : wpList Tryd.prog ops Q rest (a.put o.dst (.bool true)) w) : wpList Tryd.prog ops Q (o :: rest) a w := by
  refine wpList_step fun K hK => ?_
  rw [if_pos hgd]
  unfold Oper.wp execOp
  simp only [ho, hx, hy, Sem.run_bind, run_eqGuard_agg w .eql 28 x y _ _ guardF, Result.andThen_ok, run_eql_struct, fnd_equal w hl]
  exact hK _ _ h
theorem ne_fnd (x y : Operand) (t : TypeId) {f : Fnd} (hl : f.live.length = 44) (hgd : Region.wanted o (yielded ops a.tmps) = true) (ho : o.op = .binOp .neq 28 x y t) (hx : a.eval x = .agg (fndV f)) (hy : a.eval y = .agg (fndV f))
    (h : wpList Tryd.prog ops Q rest (a.put o.dst (.bool false)) w) : wpList Tryd.prog ops Q (o :: rest) a w := by
  refine wpList_step fun K hK => ?_
  rw [if_pos hgd]
  unfold Oper.wp execOp
  simp only [ho, hx, hy, Sem.run_bind, run_eqGuard_agg w .neq 28 x y _ _ guardF, Result.andThen_ok, run_neq_struct, fnd_equal w hl, Bool.not_true]
  exact hK _ _ h
theorem eq_live (x y : Operand) (t : TypeId) {l : List Int} (hl : l.length = 44) (hgd : Region.wanted o (yielded ops a.tmps) = true) (ho : o.op = .binOp .eql 26 x y t) (hx : a.eval x = .agg (ints l)) (hy : a.eval y = .agg (ints l))
    (h : wpList Tryd.prog ops Q rest (a.put o.dst (.bool true)) w) : wpList Tryd.prog ops Q (o :: rest) a w := by
  refine wpList_step fun K hK => ?_
  rw [if_pos hgd]
  unfold Oper.wp execOp
  simp only [ho, hx, hy, Sem.run_bind, run_eqGuard_agg w .eql 26 x y _ _ guardLive, Result.andThen_ok, run_eql_struct, live_equal w 9997 hl]
  exact hK _ _ h
theorem ld_live (x : Operand) {g : Nat} {t : TypeId} {f : Fnd} (hg : FAt w g t [] f) (hl : f.live.length = 44) (hgd : Region.wanted o (yielded ops a.tmps) = true) (ho : o.op = .load 26 x) (hx : a.eval x = .pointer (some ⟨g, 2, none⟩))
    (h : wpList Tryd.prog ops Q rest (a.put o.dst (.agg (ints f.live))) w) : wpList Tryd.prog ops Q (o :: rest) a w := by
  refine wpList_step fun K hK => ?_
  rw [if_pos hgd]
  refine wp_load_mid 26 x ho g 2 hx (f.live.map (.int .i64)) _ (fun j v hv => ?_) Tryd.underlying26 rfl (by rw [List.length_map, hl]; exact infoLive) (hK _ _ h)
  have hj := (List.getElem?_eq_some_iff.1 hv).1
  simp at hj
  rw [map_get hj] at hv
  injection hv with hv
  rw [← hv]
  have := hg.live hj
  rwa [List.length_nil, Nat.zero_add] at this
theorem bd_zero1 (hgd : Region.wanted o (yielded ops a.tmps) = true) (ho : o.op = .build 28 #[])
    (h : wpList Tryd.prog ops Q rest (a.put o.dst (.agg (fndV fnd0))) w) : wpList Tryd.prog ops Q (o :: rest) a w := by
  refine wpList_step fun K hK => ?_
  rw [if_pos hgd]
  have hb : Tryd.prog.built 28 [] = some (fndV fnd0) := by kernel_rfl
  have e : ((#[] : Array (Nat × Operand)).map fun (i, x) => (i, a.eval x)).toList = [] := by simp
  refine wp_build 28 _ ho (by rw [e, hb]; rfl) ?_
  rw [e, hb]
  exact hK _ _ h
end

end Go.Proofs.YtihpmnnbiabggaaDoor

namespace Go.Proofs.YtihpmnnbiabggaaDoor
open Go.ChangeShapes Go.WideShapes Go.ChangeAt Go.RowKit Go.Deep
set_option maxRecDepth 100000
set_option linter.unusedVariables false

theorem spot_noneS {W : World} {a : Addr} {v : Value} (h : W.cell? a = some v) : a.spot = none := by
  obtain ⟨b, o, s⟩ := a
  cases s with
  | none => rfl
  | some x => simp only [World.cell?, Option.isSome_some, if_true] at h; split at h <;> cases h
theorem cell_add2 {W : World} {b o p j : Nat} {s : Option Nat} {v : Value} (h : W.cell? (((⟨b, o, s⟩ : Addr).add p).add j) = some v) : W.cell? ⟨b, o + (p + j), none⟩ = some v := by
  have hs := spot_noneS h
  have e : ((⟨b, o, s⟩ : Addr).add p).add j = ⟨b, o + (p + j), none⟩ := by
    revert hs
    unfold Addr.add
    split <;> split <;> intro hs <;> simp_all <;> omega
  rw [e] at h
  exact h
theorem choose_listS {α : Type} {P : Nat → α → Prop} : ∀ (n : Nat), (∀ i, i < n → ∃ r, P i r) → ∃ l : List α, l.length = n ∧ ∀ i r, l[i]? = some r → P i r := by
  intro n
  induction n with
  | zero => intro _; exact ⟨[], rfl, by simp⟩
  | succ n ih =>
    intro h
    obtain ⟨l, hl, hp⟩ := ih (fun i hi => h i (by omega))
    obtain ⟨r, hr⟩ := h n (by omega)
    refine ⟨l ++ [r], by simp [hl], fun i q hq => ?_⟩
    by_cases hi : i < l.length
    · rw [List.getElem?_append_left hi] at hq; exact hp i q hq
    · rw [List.getElem?_append_right (by omega)] at hq
      have h0 : i - l.length = 0 := by
        have := (List.getElem?_eq_some_iff.1 hq).1
        simp at this
        omega
      rw [h0] at hq
      simp at hq
      subst hq
      rw [show i = n by omega]
      exact hr

/-- The cells of a record that is read. -/
theorem rec_cells {H : Type} {enc : TypeId × Value → H} {W : World} {fuel : Nat} {cs : List Value} {x : DataW H × List MemPlace} (hcl : cs.length = 13) (hf : DataW.trod enc Tryd.prog W 0 (fun _ => true) true fuel 50 cs = some x) :
    ∃ l : List Int, cs = l.map (.int .i64) ∧ l.length = 13 ∧ ∀ y ∈ l, I64 y := by
  obtain ⟨d, p⟩ := x
  obtain ⟨y0, y1, y2, n, -, hlen, g0, g1, g2⟩ := Go.Deep.trod_struct3 Tryd.underlying50 hf
  rw [cellsInt] at g0 g1
  rw [cellsPay] at g2
  obtain ⟨xs, m, -, -, -, hxl, hxs⟩ := DataW.trod_array Tryd.underlying25 g2
  rw [cellsInt] at hxs
  obtain ⟨l, hl, h64⟩ := cells_ints (enc := enc) (W := W) hcl (fun i hi => by
    rcases i with _ | _ | i
    · exact ⟨y0, n, g0⟩
    · exact ⟨y1, n, g1⟩
    · have h2 := hxs i (by omega)
      have h3 : i < xs.length := by omega
      rw [List.getElem?_eq_getElem h3, Nat.mul_one] at h2
      refine ⟨xs[i], m, ?_⟩
      rw [← h2]
      congr 1
      rw [List.drop_take, List.drop_drop, List.take_take]
      rw [show min 1 (11 - i) = 1 by omega, show 2 + i = i + 1 + 1 by omega])
  refine ⟨l, hl, ?_, h64⟩
  have := congrArg List.length hl
  rw [hcl, List.length_map] at this
  exact this.symm

theorem open_recs {H : Type} {enc : TypeId × Value → H} {W : World} {base : Nat} {v : Value} {d : DataW H} {p : List MemPlace} (hv : Value.okWide Tryd.prog W .any base 36 v) (h : DataW.Trod enc Tryd.prog W 0 (fun _ => true) true 36 v d p) :
    ∃ a n c rs, v = .slice a n c ∧ RecsAt W a n rs ∧ n ≤ c ∧ c ≤ maxLen ∧ (∀ r ∈ rs, ∀ x ∈ r, I64 x) ∧ (a = none → n = 0 ∧ c = 0) := by
  obtain ⟨a0, len, cap, rfl⟩ := okWide_slice Tryd.underlying36 hv
  obtain ⟨fuel, hf⟩ := h
  rcases open_slice Tryd.underlying36 hf with ⟨hcs, _⟩ | ⟨a, len', cap', m, n, D, Pl, hcs, hb, hl, hm, hmm, hx, hi⟩
  · simp [Value.cells] at hcs
    obtain ⟨rfl, rfl, rfl⟩ := hcs
    exact ⟨none, 0, 0, [], rfl, ⟨rfl, by simp, ⟨rfl, fun _ => rfl, by simp⟩⟩, Nat.le_refl _, by unfold maxLen; omega, by simp, fun _ => ⟨rfl, rfl⟩⟩
  · simp [Value.cells] at hcs
    obtain ⟨rfl, rfl, rfl⟩ := hcs
    simp only [if_true] at hmm
    rw [cellsRec] at hi
    have hall : ∀ i, i < len → ∃ r : List Int, (r.length = 13 ∧ ∀ y ∈ r, I64 y) ∧ (i = 0 → a.spot = none) ∧ ∀ j, j < 13 → W.cell? ⟨a.block, a.off + (13 * i + j), none⟩ = some (.int .i64 (r.getD j 0)) := by
      intro i hil
      obtain ⟨cs, hc, ht⟩ := hi i (by omega)
      obtain ⟨_, hcl, hat⟩ := World.cells?_some hc
      obtain ⟨r, rfl, hr13, hr64⟩ := rec_cells hcl ht
      refine ⟨r, ⟨hr13, hr64⟩, ?_, fun j hj => ?_⟩
      · rintro rfl
        have g0 := hat 0 (by omega)
        rw [map_get (by omega)] at g0
        exact spot_noneS g0
      · have h := hat j hj
        rw [map_get (by omega)] at h
        obtain ⟨b, o, s⟩ := a
        have h2 := cell_add2 h
        rw [Nat.mul_comm i 13] at h2
        exact h2
    obtain ⟨rs, hlen, hrs⟩ := choose_listS len hall
    have hg : ∀ i (h : i < rs.length), (rs[i].length = 13 ∧ ∀ y ∈ rs[i], I64 y) ∧ (i = 0 → a.spot = none) ∧ ∀ j, j < 13 → W.cell? ⟨a.block, a.off + (13 * i + j), none⟩ = some (.int .i64 (rs[i].getD j 0)) := fun i h => hrs i _ (List.getElem?_eq_getElem h)
    have h13 : ∀ r ∈ rs, r.length = 13 := by
      intro r hr
      obtain ⟨i, hi, rfl⟩ := List.mem_iff_getElem.1 hr
      exact (hg i hi).1.1
    have hfl := flat13 h13
    refine ⟨some a, len, cap, rs, rfl, ⟨hlen.symm, h13, ⟨by omega, by simp, ?_⟩⟩, hl, hm, ?_, fun h => by simp at h⟩
    · rintro b o s e hne
      injection e with e
      subst e
      have hpos : 0 < rs.length := by
        have := List.length_pos_iff.2 hne
        omega
      have hs : s = none := (hg 0 hpos).2.1 rfl
      subst hs
      refine ⟨rfl, fun i hi => ?_⟩
      have hq : i / 13 < rs.length := by omega
      have h1 := (hg (i / 13) hq).2.2 (i % 13) (by omega)
      have h2 := flat13_get (i / 13) h13 hq
      have h3 : rs.getD (i / 13) [] = rs[i / 13] := by simp [List.getD, hq]
      rw [h3] at h2
      have h4 : rs[i / 13].getD (i % 13) 0 = rs.flatten.getD i 0 := by
        rw [← h2]
        simp only [List.getD]
        rw [List.getElem?_take, if_pos (by omega), List.getElem?_drop, show 13 * (i / 13) + i % 13 = i by omega]
      rw [h4, show 13 * (i / 13) + i % 13 = i by omega] at h1
      exact h1
    · intro r hr
      obtain ⟨i, hi, rfl⟩ := List.mem_iff_getElem.1 hr
      exact (hg i hi).1.2

end Go.Proofs.YtihpmnnbiabggaaDoor

namespace Go.Proofs.YtihpmnnbiabggaaDoor
open Go.RowKit Go.Shelf
set_option linter.unusedVariables false
set_option linter.unusedSimpArgs false
set_option maxRecDepth 100000

/-- Words that are put are words. -/
theorem puts_words {q : Int} {first : Bool} {rs : List (List Int)} (hn : 1 ≤ rs.length ∧ rs.length ≤ 4) (hq : 0 ≤ q ∧ q ≤ 4294967295) (hp : putsOk q (-1) rs = true) : ∀ x ∈ (putSlots q first rs).flatten, 0 ≤ x ∧ x ≤ 65535 := by
  intro x hx
  obtain ⟨s, hs, hx⟩ := List.mem_flatten.1 hx
  rcases List.mem_append.1 hs with hs | hs
  · obtain ⟨r, hr, rfl⟩ := List.mem_map.1 hs
    exact words_words (puts_mem hp r hr).1 x hx
  · rw [List.mem_singleton] at hs
    rw [hs] at hx
    exact words_words (by rw [right_commit q _ first (by omega)]; simpa using hq) x hx
theorem word_64 {x : Int} (h : 0 ≤ x ∧ x ≤ 65535) : I64 x := by unfold I64; omega
theorem with_64 {xs : List Int} {a : Nat} {ws : List Int} (h : ∀ x ∈ xs, I64 x) (hw : ∀ x ∈ ws, 0 ≤ x ∧ x ≤ 65535) : ∀ x ∈ withB xs a ws, I64 x := by
  intro x hx
  unfold withB at hx
  rcases List.mem_append.1 hx with hx | hx
  · exact h x (List.mem_of_mem_take hx)
  · rcases List.mem_append.1 hx with hx | hx
    · exact word_64 (hw x hx)
    · exact h x (List.mem_of_mem_drop hx)
theorem amongI_word (x : Int) : 0 ≤ amongI x 65536 ∧ amongI x 65536 ≤ 65535 := by
  have := amongI_lt x 65536 (by omega) (by omega)
  omega
theorem allL_64 (n : Int) : ∀ r ∈ allL n, ∀ x ∈ r, I64 x := by
  intro r hr x hx
  obtain ⟨k, hk, rfl⟩ := List.mem_map.1 hr
  simp only [List.mem_cons, List.not_mem_nil, or_false] at hk
  simp only [List.mem_cons, zer, List.mem_replicate] at hx
  have h9 := amongI_word (wrap64 (n + k))
  unfold I64
  rcases hx with rfl | rfl | rfl | ⟨-, rfl⟩ <;> omega

def xs9 : List Int := List.replicate 144 65535
theorem xs9_len : xs9.length = 144 := by simp [xs9]
theorem xs9_scan : scanR xs9 = fnd0 := by
  have h := scan_pad [] 9
  have e : ([] : List Int).take (16 * (([] : List Int).length / 16)) ++ List.replicate (16 * 9) 65535 = xs9 := rfl
  rw [e] at h
  rw [h]
  rfl
theorem xs9_64 : ∀ x ∈ xs9, I64 x := by
  intro x hx
  rw [(List.mem_replicate.1 hx).2]
  unfold I64; omega
theorem xs9_get {j : Nat} (h : j < 144) : xs9.getD (0 + j) 0 = 65535 := by
  unfold xs9
  rw [Nat.zero_add]
  simp only [List.getD]
  rw [List.getElem?_replicate, if_pos h]
  rfl
def P9 : List Int := (putSlots 5 true (allL 7)).flatten
theorem P9_ok : putsOk 5 (-1) (allL 7) = true := by
  have := allL_ok 7 (q := 5) (by omega) (k := 4) (by omega)
  rwa [List.take_of_length_le (by simp [allL])] at this
theorem P9_len : P9.length = 80 := putSlots_flat (allL_len 7)
theorem P9_put : gputR xs9 5 true (allL 7) = (0, P9, 0) := by
  unfold gputR
  rw [if_pos ⟨by simp [allL], by simp [allL], P9_ok⟩, xs9_scan, xs9_len, if_pos (by simp [allL, fnd0])]
  rfl
theorem P9_words : ∀ x ∈ P9, 0 ≤ x ∧ x ≤ 65535 := puts_words (by simp [allL]) (by omega) P9_ok
def F9 : Fnd := scanR (withB xs9 0 P9)
theorem F9_is : F9 = ⟨true, 5, liveRecs (zer 44) (allL 7), 1, 5⟩ := by
  have h := scan_put (xs := xs9) (q := 5) (first := true) (allL_len 7) (by simp [allL]) (by omega) P9_ok (by rw [xs9_scan]; simp [fnd0, allL]) (by rw [xs9_scan, xs9_len]; simp [fnd0, allL])
  rw [xs9_scan] at h
  have e : F9 = scanR (withB xs9 (16 * fnd0.free) (putSlots 5 true (allL 7)).flatten) := rfl
  rw [e, h, live_recs _ (allL_len 7) P9_ok]
  simp [fnd0, allL]
theorem F9_live : F9.live.length = 44 := (fits_scan _).live
theorem F9_nine : F9.live.getD 22 0 = 9 := by
  rw [F9_is]
  have := (live_all (zer 44) (by simp [zer]) 7).2
  rw [this, show wrap64 (7 + 2) = 9 by unfold wrap64; omega]
  exact among_word (by omega)

set_option maxHeartbeats 4000000 in
theorem works_any (w : World) (ht : Turns w) : Calls Tryd.prog 4 #[] w fun e w' => e = .returned (.bool true) ∧ Keeps [] w w' := by
  have HT := Lib.hid ht
  clear ht
  have HL0 := Lib.hid (show fnd0.live.length = 44 by decide)
  go_enter Tryd.func4, Tryd.ntmps4
  go_upto_region 5 with (first
    | (go_at_call 8; refine (gblank_any 9 _ (by omega)).mono ?_; rintro e w1 ⟨g1, c1, rfl, hA, k1, -⟩; simp only [Nat.reduceMul]; have HA1 := Lib.hid (show Arr w1 g1 c1 xs9 from hA); have K1 := Lib.hid k1; clear hA k1)
    | (go_at_call 12; refine (all_any 7 _).mono ?_; rw [kinds_all]; rintro e w2 ⟨a2, c2, rfl, r2, l2, m2, k2⟩; have R2 := Lib.hid r2; have K2 := Lib.hid (K1.out.trans0 k2); have HA2 := Lib.hid (HA1.out.keep k2 (by simp)); clear r2 k2)
    | (go_at_call 11; refine (put_any _ 144 _ xs9 5 true a2 4 c2 (allL 7) _ (HT.out.keep K2.out) (by have h := HA2.out.ints; rw [xs9_len] at h; exact h) (by have h := HA2.out.le; rw [xs9_len] at h; exact h) HA2.out.cm R2.out (by omega) (by unfold I64; omega) (allL_64 7)).mono ?_; rw [P9_put]; rintro e w3 ⟨a3, c3, rfl, i3, k3, l3, m3⟩; (try simp only [P9_len]); have I3 := Lib.hid i3; have L3 := Lib.hid (And.intro l3 m3); have K3 := Lib.hid (K2.out.trans0 k3); have HA3 := Lib.hid (HA2.out.keep k3 (by simp)); clear i3 k3 l3 m3)
    | (go_at_call 6; refine (scan_any _ 144 _ xs9 _ (HT.out.keep K3.out) (by have h := HA3.out.ints; rw [xs9_len] at h; exact h) (by have h := HA3.out.le; rw [xs9_len] at h; exact h) HA3.out.cm xs9_64).mono ?_; rw [xs9_scan]; rintro e w4 ⟨rfl, k4⟩; have K4 := Lib.hid (K3.out.trans0 k4); have HA4 := Lib.hid (HA3.out.keep k4 (by simp)); have I4 := Lib.hid (I3.out.keep0 k4); clear k4)
    | (refine bd_zero1 rfl rfl ?_; simp only [Act.put])
    | (refine ne_fnd _ _ _ HL0.out rfl rfl rfl rfl ?_; simp only [Act.put]))
  clear l2 m2
  go_wp2_with (first
    | (go_at_call 13; refine (with_any _ 144 c1 xs9 0 a3 80 c3 P9 _ (by have h := HA4.out.ints; rw [xs9_len] at h; exact h) (by omega) (by have h := I4.out; rw [P9_len] at h; exact h) (by rw [P9_len, xs9_len]; omega) P9_words (by intro j hj; rw [P9_len] at hj; exact xs9_get (by omega))).mono ?_; rw [xs9_len]; rintro e w5 ⟨g5, c5, rfl, hA, k5, -⟩; have HA5 := Lib.hid hA; have K5 := Lib.hid (K4.out.trans0 k5); clear hA k5)
    | (go_at_call 6; refine (scan_any _ 144 _ (withB xs9 0 P9) _ (HT.out.keep K5.out) (by have h := HA5.out.ints; rw [withB_len (by rw [P9_len, xs9_len]; omega), xs9_len] at h; exact h) (by have h := HA5.out.le; rw [withB_len (by rw [P9_len, xs9_len]; omega), xs9_len] at h; exact h) HA5.out.cm (with_64 xs9_64 P9_words)).mono ?_; rw [show scanR (withB xs9 0 P9) = F9 from rfl]; rintro e w6 ⟨rfl, k6⟩; have K6 := Lib.hid (K5.out.trans0 k6); have h7 : FAt (w6.alloc (.cells (fndV fnd0) 28)) w6.heap.size 28 [] fnd0 := heap_alloc_new w6 _; have K7 := Lib.hid (K6.out.alloc (.cells (fndV fnd0) 28)); clear k6)
    | (simp only [zeros48])
    | (refine st_fnd _ _ h7 HL0.out F9_live rfl rfl rfl rfl ?_; intro w8 h8 k8 s8; simp only [Act.put]; have d0 : w8.cell? ⟨w6.heap.size, 0, none⟩ = some (.bool F9.has) := h8.has; have d1 : w8.cell? ⟨w6.heap.size, 1, none⟩ = some (.int .i64 F9.seq) := h8.seq; have d2 : w8.cell? ⟨w6.heap.size, 24, none⟩ = some (.int .i64 (F9.live.getD 22 0)) := h8.live (i := 22) (by rw [F9_live]; omega); have d3 : w8.cell? ⟨w6.heap.size, 46, none⟩ = some (.int .i64 F9.com) := h8.com F9_live; have d4 : w8.cell? ⟨w6.heap.size, 47, none⟩ = some (.int .i64 (F9.free : Int)) := h8.free F9_live; rw [F9_nine] at d2; rw [F9_is] at d0 d1 d3 d4; have K8 := Lib.hid (K7.out.trans k8 (by intro x hx; right; have := K6.out.size; simp at hx; omega)); clear h8 h7 k8)
    | (go_at_call 7; refine (Slots_any 31 _ (by unfold I64; omega)).mono ?_; rw [show slotsI 31 = 1 by decide]; rintro e w9 ⟨rfl, rfl⟩))
  go_ret
  exact ⟨rfl, K8.out⟩

end Go.Proofs.YtihpmnnbiabggaaDoor
