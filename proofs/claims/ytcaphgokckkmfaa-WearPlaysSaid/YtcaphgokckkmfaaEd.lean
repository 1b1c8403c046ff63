
/- Wear, the program: words and blank of what goes round: their contracts. -/
import Derived.Test.YtcaphgokckkmfaaEc
namespace Go.Proofs.Ytcaphgokckkmfaa
open Go.RowKit
set_option maxRecDepth 100000
set_option linter.unusedVariables false
set_option linter.unusedSimpArgs false
variable {w w' : World} {b bw be : Nat} {dv : Value} {s : FS}

theorem structG : Try.prog.underlying 28 = some (.struct (Try.prog.fieldsOf 28)) := by kernel_rfl
theorem fieldG2 : (Try.prog.fieldsOf 28)[2]?.map (fun f => (f.type, f.offset)) = some (3, 2) := by kernel_rfl
theorem run_geo2 (w : World) (x y z : Int) : (Instr.field 28 (.agg #[.int .i64 x, .int .i64 y, .int .i64 z]) 2).run Try.prog w = .ok (.int .i64 z) w := by
  have hp : Try.prog.plainKey 3 = true := by kernel_rfl
  have h4 := fieldG2
  cases hF : (Try.prog.fieldsOf 28)[2]? with
  | none => rw [hF] at h4; simp at h4
  | some fd =>
    rw [hF] at h4
    simp only [Option.map_some, Option.some.injEq, Prod.mk.injEq] at h4
    unfold Instr.field
    rw [Sem.run_bind, run_underlying structG]
    simp only [Result.andThen_ok, hF, h4.1, h4.2, asAgg, Sem.run_bind, Sem.run_pure]
    exact run_part_plain w hp rfl

/-- A list and a code that a call handed back. -/
def LCOut (w w' : World) (e : Ending) (cd : Int) (l : List Int) : Prop := ∃ v, e = .returned (.tuple #[v, .int .i64 cd]) ∧ LOut w w' v l.length l
theorem LOut.nil {w w' : World} (hk : Keeps [] w w') : LOut w w' (.slice none 0 0) 0 [] := ⟨none, 0, rfl, IntsAt.nil _, Nat.le_refl _, by unfold maxLen; omega, by simp, hk⟩

abbrev boxC (p : Option Addr) (f m : Int) : Obj := .cells #[.pointer p, .int .i64 f, .int .i64 m] 84
/-- Without power no word is read. -/
theorem words_off (hF : Fl w b bw be dv s) (ho : s.off = true) (f m nn B T : Nat) (hn : s.n = (nn : Int)) (hB : B = f * nn) (hT : T = m * nn) (hT1 : 1 ≤ T) (hTl : T ≤ 1000000) (hin : B + T ≤ s.w.length) (hwl : s.w.length ≤ 1000000) :
    Calls Try.prog 52 #[rnd (some ⟨b, 0, none⟩) (f : Int) (m : Int)] w fun e w' => LCOut w w' e 10 [] := by
  have HF := Lib.hid hF
  have e1 : IntKind.i64.wrap ((m : Int) * (nn : Int)) = (T : Int) := by
    have e : (m : Int) * (nn : Int) = (T : Int) := by rw [hT]; exact (Int.natCast_mul m nn).symm
    rw [e]; exact IntWalk.i64_in _ (by omega)
  have e2 : IntKind.i64.wrap ((f : Int) * (nn : Int)) = (B : Int) := by
    have e : (f : Int) * (nn : Int) = (B : Int) := by rw [hB]; exact (Int.natCast_mul f nn).symm
    rw [e]; exact IntWalk.i64_in _ (by omega)
  have HG := Lib.hid (geometry_yes (hF.alloc (boxC (some ⟨b, 0, none⟩) f m)))
  rw [hn] at HG
  have lb := hF.lb
  have rg := run_geo2
  have hT0 : (0 : Int) < (T : Int) := by omega
  clear hF hB hT hn
  go_enter Try.func52, Try.ntmps52
  go_wp2_with (go_at_call 49; refine HG.out.mono ?_; rintro e w2 ⟨rfl, k2⟩; have b2 := k2.held (heap_alloc_new w _) (by simp); have c2 : w2.cell? ⟨w.heap.size, 2, none⟩ = some (.int .i64 (m : Int)) := cell_of_block b2 rfl; have B2 := Lib.hid (show w2.heap[w.heap.size]? = some (boxR (some ⟨b, 0, none⟩) f m) from b2); have K2 := Lib.hid (((Keeps.refl [] w).alloc (boxC (some ⟨b, 0, none⟩) f m)).trans0 k2); clear k2 b2)
  have hw2 : w2.cell? ⟨w.heap.size, 2, none⟩ = some (.int .i64 (m : Int)) := c2
  go_loopw [5, 17] (fun vl vi wr => vi = .int .i64 0 ∧ vl = .slice none 0 0 ∧ wr = w2) (fun _ vi _ => 1 - (intOf vi).toNat)
  case atStart => exact ⟨rfl, rfl, rfl⟩
  case round =>
    obtain ⟨rfl, rfl, rfl⟩ := hrel
    have c0 : wr.cell? ⟨w.heap.size, 0, none⟩ = some (.pointer (some ⟨b, 0, none⟩)) := cell_of_block B2.out rfl
    have c1 : wr.cell? ⟨w.heap.size, 1, none⟩ = some (.int .i64 (f : Int)) := cell_of_block B2.out rfl
    have HR := Lib.hid (read_off (HF.out.keep K2.out (by simp)) B hwl (by omega) ho)
    go_wp2_with (go_at_call 65; refine HR.out.mono ?_; rintro e w' ⟨rfl, rfl⟩)
    go_ret2
    exact ⟨_, rfl, LOut.nil K2.out⟩

set_option maxHeartbeats 1000000 in
theorem words_on (hF : Fl w b bw be dv s) (ho : s.off = false) (f m nn B T : Nat) (hn : s.n = (nn : Int)) (hB : B = f * nn) (hT : T = m * nn) (hTl : T ≤ 1000000) (hin : B + T ≤ s.w.length) (hwl : s.w.length ≤ 1000000) :
    Calls Try.prog 52 #[rnd (some ⟨b, 0, none⟩) (f : Int) (m : Int)] w fun e w' => LCOut w w' e 0 (partL s.w B T) := by
  obtain ⟨i0, hi0, hz0, hz1, hz2⟩ := info_parts Try.info3
  have HF := Lib.hid hF
  have e1 : IntKind.i64.wrap ((m : Int) * (nn : Int)) = (T : Int) := by
    have e : (m : Int) * (nn : Int) = (T : Int) := by rw [hT]; exact (Int.natCast_mul m nn).symm
    rw [e]; exact IntWalk.i64_in _ (by omega)
  have e2 : IntKind.i64.wrap ((f : Int) * (nn : Int)) = (B : Int) := by
    have e : (f : Int) * (nn : Int) = (B : Int) := by rw [hB]; exact (Int.natCast_mul f nn).symm
    rw [e]; exact IntWalk.i64_in _ (by omega)
  have HG := Lib.hid (geometry_yes (hF.alloc (boxC (some ⟨b, 0, none⟩) f m)))
  rw [hn] at HG
  have lb := hF.lb
  have rg := run_geo2
  clear hF hB hT hn
  go_enter Try.func52, Try.ntmps52
  go_wp2_with (go_at_call 49; refine HG.out.mono ?_; rintro e w2 ⟨rfl, k2⟩; have b2 := k2.held (heap_alloc_new w _) (by simp); have c2 : w2.cell? ⟨w.heap.size, 2, none⟩ = some (.int .i64 (m : Int)) := cell_of_block b2 rfl; have B2 := Lib.hid (show w2.heap[w.heap.size]? = some (boxR (some ⟨b, 0, none⟩) f m) from b2); have K2 := Lib.hid (((Keeps.refl [] w).alloc (boxC (some ⟨b, 0, none⟩) f m)).trans0 k2); clear k2 b2)
  go_loopw [5, 17] (fun vl vi wr => ∃ (i : Nat) (va : Option Addr) (vc : Nat), i ≤ T ∧ vi = .int .i64 (i : Int) ∧ vl = .slice va i vc ∧ wr.ownsRow w2.heap.size 3 1 (.slice va i vc) i ((partL s.w B i).map (.int .i64)) ∧ Keeps [] w2 wr) (fun _ vi _ => T - (intOf vi).toNat)
  case atStart => exact ⟨0, none, 0, Nat.zero_le _, rfl, rfl, World.ownsRow_nil _ _ _ _, Keeps.refl _ _⟩
  case round =>
    obtain ⟨i, va, vc, hi, rfl, rfl, hown, hk⟩ := hrel
    have hb := hk.held B2.out (by simp)
    have c0 : wr.cell? ⟨w.heap.size, 0, none⟩ = some (.pointer (some ⟨b, 0, none⟩)) := cell_of_block hb rfl
    have c1 : wr.cell? ⟨w.heap.size, 1, none⟩ = some (.int .i64 (f : Int)) := cell_of_block hb rfl
    have lw := lt_of_block hb
    have HO := Lib.hid hown
    have HK := Lib.hid hk
    have HKw := Lib.hid (K2.out.trans0 hk)
    have hs2 := K2.out.size
    have hs3 := hk.size
    clear hown hk hb
    by_cases hlt : i < T
    · have hlti : (i : Int) < (T : Int) := by omega
      obtain ⟨q, hq⟩ : ∃ q, q = B + i := ⟨_, rfl⟩
      have e3 : IntKind.i64.wrap ((B : Int) + (i : Int)) = (q : Int) := by rw [show (B : Int) + (i : Int) = (q : Int) by omega]; exact IntWalk.i64_in _ (by omega)
      obtain ⟨x, hx⟩ : ∃ x, x = s.w.getD q 0 := ⟨_, rfl⟩
      have HX := Lib.hid (show partL s.w B (i + 1) = partL s.w B i ++ [x] by rw [partL_succ (by omega), hx, hq])
      have HE := Lib.hid (read_in (HF.out.keep HKw.out (by simp)) q hwl (by omega) ho)
      rw [← hx] at HE
      have HO2 := Lib.hid (ownsRow_keep HO.out ((Keeps.refl [] wr).alloc (.cells #[.int .i64 x] 3)) (by simp))
      have HN := Lib.hid (cell_one_new wr (.int .i64 x) 3)
      have hbs : w2.heap.size ≤ (wr.alloc (.cells #[.int .i64 x] 3)).heap.size := by simp; omega
      clear hq hx
      go_wp2_with (first
        | (go_at_call 65; refine HE.out.mono ?_; rintro e w' ⟨rfl, rfl⟩)
        | (at_builtin; refine wpList_append_new _ rfl (.tmp 35) (.tmp 37) 38 rfl w2.heap.size 3 i0 (.int .i64 0) 1 8 Try.underlying38 hi0 hz0 hz1 hz2 rfl (by decide) (.slice va i vc) i _ rfl HO2.out ⟨wr.heap.size, 0, none⟩ 1 1 [.int .i64 x] rfl rfl HN.out (by simp [Value.oneCell']) (by unfold maxLen; omega) (by omega) hbs ?_; intro v' u5 q1 q2 q3 q4; obtain ⟨va', vc', rfl⟩ := own_slice q1; have H1 := Lib.hid q1; have H2 := Lib.hid (grown_facts HO2.out q2 HK.out (Nat.le_refl _)); clear q1 q2 q3 q4))
      go_roundw
      case rel => exact ⟨i + 1, va', vc', by omega, by go_num, rfl, by rw [HX.out, List.map_append]; exact H1.out, H2.out.1⟩
      case measure => simp [intOf]; omega
    · have hin2 : i = T := by omega
      subst hin2
      obtain ⟨a, c, e, h1, h2, h3, h4⟩ := ints_of_own HO.out
      have HE := Lib.hid e
      clear e
      go_wp2_with fail
      go_ret2
      refine ⟨_, rfl, ?_⟩
      rw [partL_len hin]
      exact ⟨a, c, HE.out, h1, h2, h3, fun b o s e => ⟨by have := h4 b o s e; omega, (h4 b o s e).2⟩, HKw.out⟩

/-- Are all words blank? -/
theorem blank_gen (p : Option Addr) (f m cd : Int) (L : List Int) (w : World) (hL : L.length ≤ 1000000) (hcd : cd = 0 ∨ (cd = 10 ∧ L = []))
    (hw : Calls Try.prog 52 #[rnd p f m] (w.alloc (boxC p f m)) fun e w' => LCOut (w.alloc (boxC p f m)) w' e cd L) :
    Calls Try.prog 51 #[rnd p f m] w fun e w' => e = .returned (.tuple #[.bool (decide (cd = 0) && allBlank L), .int .i64 cd]) ∧ Keeps [] w w' := by
  have HW := Lib.hid hw
  clear hw
  by_cases h0 : cd = 0
  · subst h0
    clear hcd
    go_enter Try.func51, Try.ntmps51
    go_wp2_with (go_at_call 52; refine HW.out.mono ?_; rintro e w2 ⟨v, rfl, pa, pc, rfl, pi, p2, p3, p4, k2⟩; have PI := Lib.hid pi; have K2 := Lib.hid (((Keeps.refl [] w).alloc (boxC p f m)).trans0 k2); clear pi p2 p3 p4 k2)
    go_loop [18] (fun vi => ∃ i : Nat, i ≤ L.length ∧ vi = .int .i64 (i : Int) ∧ ∀ j, j < i → L.getD j 0 = 65535) (fun vi => L.length - (intOf vi).toNat)
    case atStart => exact ⟨0, Nat.zero_le _, rfl, fun j h => by omega⟩
    case round =>
      obtain ⟨i, hi, rfl, hall⟩ := hrel
      have HA := Lib.hid hall
      clear hall
      by_cases hlt : i < L.length
      · have hlti : (i : Int) < (L.length : Int) := by omega
        obtain ⟨pb, po, rfl, gx⟩ := list_cell PI.out (Keeps.refl [] w2) hlt
        obtain ⟨x, hx⟩ : ∃ x, x = L.getD i 0 := ⟨_, rfl⟩
        rw [← hx] at gx
        have HX := Lib.hid hx
        clear hx
        by_cases he : x = 65535
        · have hne : (x != 65535) = false := by simp [he]
          have HE := Lib.hid he
          clear he
          go_wp2_with fail
          go_round
          case rel => exact ⟨i + 1, by omega, by go_num, fun j hj => by
            by_cases h : j < i
            · exact HA.out j h
            · obtain rfl : j = i := by omega
              rw [← HX.out]; exact HE.out⟩
          case measure => simp [intOf]; omega
        · have hne : (x != 65535) = true := by simp [he]
          have hfin : allBlank L = false := by
            cases h : allBlank L
            · rfl
            · exact absurd (allBlank_iff.1 h x (by rw [HX.out, List.getD, List.getElem?_eq_getElem hlt]; exact List.getElem_mem _)) he
          have HE := Lib.hid hfin
          clear he hfin
          go_wp2_with fail
          go_ret2
          exact ⟨by rw [HE.out]; rfl, K2.out⟩
      · have hin : i = L.length := by omega
        have hfin : allBlank L = true := allBlank_iff.2 (fun x hx => by
          obtain ⟨j, hj, rfl⟩ := List.mem_iff_getElem.1 hx
          have := HA.out j (by omega)
          rwa [List.getD, List.getElem?_eq_getElem hj] at this)
        have HE := Lib.hid hfin
        clear hfin
        go_wp2_with fail
        go_ret2
        exact ⟨by rw [HE.out]; rfl, K2.out⟩
  · obtain ⟨rfl, rfl⟩ : cd = 10 ∧ L = [] := by rcases hcd with h | h; exact absurd h h0; exact h
    clear hcd h0
    go_enter Try.func51, Try.ntmps51
    go_wp2_with (go_at_call 52; refine HW.out.mono ?_; rintro e w2 ⟨v, rfl, pa, pc, rfl, pi, p2, p3, p4, k2⟩; have K2 := Lib.hid (((Keeps.refl [] w).alloc (boxC p f m)).trans0 k2); clear pi p2 p3 p4 k2)
    go_ret2
    exact ⟨rfl, K2.out⟩

end Go.Proofs.Ytcaphgokckkmfaa
