
/- group: the document's Put: the contract. No condition but lengths, and that all are numbers of 64 bits. -/
import Derived.Test.YtnmblemplkdmaaaDoorRo
import Derived.Test.YtnmblemplkdmaaaDoorRm
import Derived.Test.YtnmblemplkdmaaaDoorIn
namespace Go.Proofs.YtnmblemplkdmaaaDoor
open Go.RowKit Go.Shelf
set_option linter.unusedVariables false
set_option linter.unusedSimpArgs false
set_option maxRecDepth 100000

theorem struct2 : Tryd.prog.underlying 30 = some (.struct (Tryd.prog.fieldsOf 30)) := by kernel_rfl
theorem field4 : (Tryd.prog.fieldsOf 30)[4]?.map (fun f => (f.type, f.offset)) = some (3, 47) := by kernel_rfl
theorem fndV_free {f : Fnd} (hl : f.live.length = 44) : (fndV f)[47]? = some (.int .i64 (f.free : Int)) := by
  have h : (fndC f)[47]? = some (.int .i64 (f.free : Int)) := by
    unfold fndC
    rw [List.getElem?_cons_succ, List.getElem?_cons_succ, List.getElem?_append_right (by simp [hl])]
    simp [hl]
  simpa [fndV] using h
section
variable {ops : Array Oper} {rest : List Oper} {o : Oper} {a : Act} {w : World} {Q : Exit → Act → World → Prop}
theorem fld_free (x : Operand) {f : Fnd} (hl : f.live.length = 44) (hgd : o.guard = none) (ho : o.op = .field 30 x 4) (hx : a.eval x = .agg (fndV f))
    (h : wpList Tryd.prog ops Q rest (a.put o.dst (.int .i64 (f.free : Int))) w) : wpList Tryd.prog ops Q (o :: rest) a w := by
  refine wpList_plain hgd fun K hK => ?_
  have hp : Tryd.prog.plainKey 3 = true := by kernel_rfl
  have h4 := field4
  cases hF : (Tryd.prog.fieldsOf 30)[4]? with
  | none => rw [hF] at h4; simp at h4
  | some fd =>
    rw [hF] at h4
    simp only [Option.map_some, Option.some.injEq, Prod.mk.injEq] at h4
    have hr : (Instr.field 30 (.agg (fndV f)) 4).run Tryd.prog w = .ok (.int .i64 (f.free : Int)) w := by
      unfold Instr.field
      rw [Sem.run_bind, run_underlying struct2]
      simp only [Result.andThen_ok, hF, h4.1, h4.2, asAgg, Sem.run_bind, Sem.run_pure]
      exact run_part_plain w hp (fndV_free hl)
    unfold Oper.wp execOp
    simp only [ho, hx, Sem.run_bind, hr, Result.andThen_ok]
    exact hK _ _ h
end

/-- The last Kind ahead of a record; whether the records up to it may be put. -/
def lastK (rs : List (List Int)) (i : Nat) : Int := if i = 0 then -1 else (rs.getD (i - 1) []).getD 0 0

set_option maxHeartbeats 8000000 in
theorem refPut_any (aw : Option Addr) (nw cw : Nat) (xs : List Int) (q : Int) (first : Bool) (a : Option Addr) (n c : Nat) (rs : List (List Int)) (w : World) (hi : IntsAt w aw nw xs) (hnw : nw ≤ cw) (hcw : cw ≤ maxLen) (hx64 : ∀ x ∈ xs, I64 x)
    (hr : RecsAt w a n rs) (hn : n ≤ 1000) (hq : I64 q) (h64 : ∀ r ∈ rs, ∀ x ∈ r, I64 x) :
    Calls Tryd.prog 19 #[.slice aw nw cw, .int .i64 q, .bool first, .slice a n c] w fun e w' => POut w w' (gputR xs q first rs) e := by
  obtain ⟨i0, hi0, hz0, hz1, hz2⟩ := info_parts Tryd.info3
  have hln := hr.1
  have h13 := hr.2.1
  have hxl := hi.1
  obtain ⟨G, hG⟩ : ∃ G, G = gputR xs q first rs := ⟨_, rfl⟩
  rw [← hG]
  have HI := Lib.hid hi
  have HX64 := Lib.hid hx64
  have HR := Lib.hid hr
  have HL := Lib.hid hln
  have H13 := Lib.hid h13
  have HQ := Lib.hid hq
  have H64 := Lib.hid h64
  have HNW := Lib.hid hnw
  have HCW := Lib.hid hcw
  have HG := Lib.hid hG
  have HXL := Lib.hid hxl
  clear hi hx64 hr hln h13 hq h64 hnw hcw hG hxl
  by_cases hn4 : 1 ≤ n ∧ n ≤ 4
  · have hge : (1 : Int) ≤ (n : Int) := by omega
    have hle : (n : Int) ≤ 4 := by omega
    have HN4 := Lib.hid hn4
    obtain ⟨⟨b, o, s⟩, rfl⟩ : ∃ ad, a = some ad := by
      rcases a with _ | ad
      · have h1 := HR.out.2.2.2.1 rfl
        have h2 := flat13 H13.out
        rw [h1, ← HL.out] at h2
        simp at h2; omega
      · exact ⟨ad, rfl⟩
    obtain ⟨rfl, -⟩ := HR.out.range (i := 0) (by omega)
    clear hn4
    go_enter Tryd.func19, Tryd.ntmps19
    go_wp2_with fail
    have own0 := own_empty w
    have k0 : Keeps [] w (w.alloc (.cells #[] 3)) := (Keeps.refl _ _).alloc _
    have O0 := Lib.hid own0
    have K0 := Lib.hid k0
    clear own0 k0
    go_loopw [11, 12] (fun vs vi wr => ∃ (i g vn vc : Nat), i ≤ n ∧ vi = .int .i64 i ∧ vs = .slice (some ⟨g, 0, none⟩) vn vc ∧ vn = 16 * i ∧ wr.ownsRow w.heap.size 3 1 (.slice (some ⟨g, 0, none⟩) vn vc) vn ((laidW q (rs.take i)).map (.int .i64)) ∧ putsOk q (-1) rs = putsOk q (lastK rs i) (rs.drop i) ∧ Keeps [] w wr) (fun _ vi _ => n - (intOf vi).toNat)
    case atStart => exact ⟨0, w.heap.size, 0, 0, Nat.zero_le _, rfl, rfl, rfl, O0.out, by rw [List.drop_zero]; rfl, K0.out⟩
    case round =>
      obtain ⟨i, g, vn, vc, hi, rfl, rfl, hvn, hown, hpo, hk⟩ := hrel
      have HVN := Lib.hid hvn
      have hvb : vn ≤ 16000 := by omega
      clear hvn
      have HK := Lib.hid hk
      have HO := Lib.hid hown
      have HPO := Lib.hid hpo
      have hws := hk.size
      clear hown hpo hk
      by_cases hlt : i < n
      · have hlt2 : i < rs.length := by rw [← HL.out]; exact hlt
        have hlti : (i : Int) < (n : Int) := by omega
        have hs1 := laidW_snoc (q := q) hlt2
        have hdr := drop_get hlt2
        obtain ⟨r, hrd⟩ : ∃ r, r = rs.getD i [] := ⟨_, rfl⟩
        have hmem : r ∈ rs := by rw [hrd]; exact getD_mem hlt2
        have hr13 : r.length = 13 := H13.out _ hmem
        have hs13 := setSeq_len (q := q) hr13
        have hs64 := setSeq_64 HQ.out (H64.out r hmem)
        have hRw := HR.out.keep0 HK.out
        obtain ⟨-, hrg⟩ := hRw.range hlt
        rw [← hrd] at hrg hs1 hdr
        have e13 : o + i * 13 = o + 13 * i := by omega
        rw [← e13] at hrg
        obtain ⟨kd, hkd⟩ : ∃ kd, kd = r.getD 0 0 := ⟨_, rfl⟩
        obtain ⟨la, hla⟩ : ∃ la, la = lastK rs i := ⟨_, rfl⟩
        obtain ⟨sr, hsr⟩ : ∃ sr, sr = setSeq q r := ⟨_, rfl⟩
        have hstep : putsOk q (-1) rs = ((rightB sr && (decide (kd < 4) && decide (la < kd))) && putsOk q kd (rs.drop (i + 1))) := by
          rw [HPO.out, hdr, ← hla, hsr, hkd]
          rfl
        have hlk : lastK rs (i + 1) = kd := by
          unfold lastK
          rw [if_neg (by omega), show i + 1 - 1 = i by omega, ← hrd, hkd]
        have hset : r.set 1 q = sr := by rw [hsr]; rfl
        have hskd : sr.getD 0 0 = kd := by rw [hsr, setSeq_kind hr13, hkd]
        rw [← hsr] at hs1 hs13 hs64
        have hA : RecAt (wr.alloc (.cells (ints (zer 13)) 46)) wr.heap.size (zer 13) := heap_alloc_new wr _
        have HSET := Lib.hid hset
        have HS1 := Lib.hid hs1
        have HS13 := Lib.hid hs13
        have HS64 := Lib.hid hs64
        have HR13 := Lib.hid hr13
        have HST := Lib.hid hstep
        have HLK := Lib.hid hlk
        have HLA := Lib.hid hla
        have HSKD := Lib.hid hskd
        have HKD := Lib.hid hkd
        have HRW := Lib.hid hRw
        have HMEM := Lib.hid hmem
        clear hrd hr13 e13 hs1 hs13 hs64 hset hmem hsr hstep hlk hdr hla hskd hkd hRw
        have HALLNOT := Lib.hid (fun (h : putsOk q (-1) rs = false) => show G = (2, [], 0) by rw [HG.out]; exact gput_not (by rw [h]; simp))
        cases hrb : rightB sr
        · have HF := Lib.hid (show G = (2, [], 0) from HALLNOT.out (by rw [HST.out, hrb]; rfl))
          have HWR := Lib.hid (show wordsR sr = (2, []) by unfold wordsR; rw [if_neg (by rw [hrb]; simp)])
          have d1 : ((2 : Int) != 0) = true := by decide
          clear hrb
          go_upto_region 10 with (first
            | (refine ld_elem _ hrg HR13.out rfl rfl rfl ?_; simp only [Act.put])
            | (simp only [zeros13])
            | (refine st_rec _ _ hA (zer_len _) HR13.out rfl rfl rfl rfl ?_; intro u3 h3 k3 s3; simp only [Act.put]; have c3 := h3.cell 1 (by rw [HR13.out]; decide); have f3 := h3.frozen 1; have kk3 : Keeps [] wr u3 := (((Keeps.refl [] wr).alloc (.cells (ints (zer 13)) 46)).trans k3 (by intro x hx; right; simp at hx; omega)); have K3 := Lib.hid kk3; have hT : RecAt (u3.setCell ⟨wr.heap.size, 1, none⟩ (.int .i64 q)) wr.heap.size sr := (by rw [← HSET.out]; exact h3.set 1 q); have KT := Lib.hid (K3.out.setCell (p := ⟨wr.heap.size, 1, none⟩) (.inr (Nat.le_refl _)) (.int .i64 q)); clear hA k3 h3 kk3)
            | (refine ld_rec _ hT HS13.out rfl rfl rfl ?_; simp only [Act.put])
            | (go_at_call 35; refine (refWords_any sr _ HS13.out HS64.out).mono ?_; rw [HWR.out]; rintro e u4 ⟨g4, cc4, rfl, i4, k4, l4, m4⟩; (try rw [HWL.out]); have kk4 := KT.out.trans0 k4; have K4 := Lib.hid (HK.out.trans0 kk4); have O4 := Lib.hid (ownsRow_keep HO.out kk4 (by simp)); have I4 := Lib.hid i4; have hT4 := hT.keep k4 (by simp); have c0 := hT4.cell 0 (by rw [HS13.out]; decide); rw [HSKD.out] at c0; (try have hcp := (kk4.cell (World.block_lt_of_cell? _ _ HCP.out) (by simp)).trans HCP.out); have hu4 := K4.out.size; clear k4 kk4 i4 l4 m4 hT))
          go_quiet (fail)
          go_wp2_with fail
          go_ret3
          rw [HF.out]
          exact POut.of_nil (K4.out.drewN _)
        · have HWR := Lib.hid (show wordsR sr = (0, wordsL sr) by unfold wordsR; rw [if_pos hrb])
          have hkd0 : 0 ≤ kd := by have := (right_out hrb).1; rw [HSKD.out] at this; exact this.1
          have HWL := Lib.hid (wordsL_len HS13.out)
          by_cases h4 : kd < 4
          · have d2 : decide (4 ≤ kd) = false := by simpa using h4
            rcases Nat.eq_zero_or_pos i with hi0' | hip
            · have hla1 : la = -1 := by rw [HLA.out, hi0']; rfl
              have HNX := Lib.hid (show putsOk q (-1) rs = putsOk q (lastK rs (i + 1)) (rs.drop (i + 1)) by rw [HLK.out, HST.out, hrb, decide_eq_true h4, decide_eq_true (show la < kd by omega)]; rfl)
              subst hi0'
              clear hrb h4 hla1
              go_upto_region 10 with (first
            | (refine ld_elem _ hrg HR13.out rfl rfl rfl ?_; simp only [Act.put])
            | (simp only [zeros13])
            | (refine st_rec _ _ hA (zer_len _) HR13.out rfl rfl rfl rfl ?_; intro u3 h3 k3 s3; simp only [Act.put]; have c3 := h3.cell 1 (by rw [HR13.out]; decide); have f3 := h3.frozen 1; have kk3 : Keeps [] wr u3 := (((Keeps.refl [] wr).alloc (.cells (ints (zer 13)) 46)).trans k3 (by intro x hx; right; simp at hx; omega)); have K3 := Lib.hid kk3; have hT : RecAt (u3.setCell ⟨wr.heap.size, 1, none⟩ (.int .i64 q)) wr.heap.size sr := (by rw [← HSET.out]; exact h3.set 1 q); have KT := Lib.hid (K3.out.setCell (p := ⟨wr.heap.size, 1, none⟩) (.inr (Nat.le_refl _)) (.int .i64 q)); clear hA k3 h3 kk3)
            | (refine ld_rec _ hT HS13.out rfl rfl rfl ?_; simp only [Act.put])
            | (go_at_call 35; refine (refWords_any sr _ HS13.out HS64.out).mono ?_; rw [HWR.out]; rintro e u4 ⟨g4, cc4, rfl, i4, k4, l4, m4⟩; (try rw [HWL.out]); have kk4 := KT.out.trans0 k4; have K4 := Lib.hid (HK.out.trans0 kk4); have O4 := Lib.hid (ownsRow_keep HO.out kk4 (by simp)); have I4 := Lib.hid i4; have hT4 := hT.keep k4 (by simp); have c0 := hT4.cell 0 (by rw [HS13.out]; decide); rw [HSKD.out] at c0; (try have hcp := (kk4.cell (World.block_lt_of_cell? _ _ HCP.out) (by simp)).trans HCP.out); have hu4 := K4.out.size; clear k4 kk4 i4 l4 m4 hT))
              go_quiet (fail)
              generalize hwd : World.drewN _ _ = ud
              have kud : Keeps [] u4 ud := by rw [← hwd]; exact (Keeps.refl _ _).drewN _
              have OD := Lib.hid (ownsRow_keep O4.out kud (by simp))
              obtain ⟨b4, o4, hg4⟩ := IntsAt.addr I4.out (by show 1 ≤ (wordsL sr).length; rw [HWL.out]; omega)
              subst hg4
              have ID := Lib.hid (IntsAt.news (I4.out.keep0 kud))
              have KD := Lib.hid (K4.out.trans0 kud)
              have hud := KD.out.size
              clear kud hwd
              go_wp2_with (at_builtin; refine wpList_append_new _ rfl (.tmp 69) (.tmp 70) 22 rfl w.heap.size 3 i0 (.int .i64 0) 1 8 Tryd.underlying22 hi0 hz0 hz1 hz2 rfl (by decide) (.slice (some ⟨g, 0, none⟩) vn vc) vn _ rfl OD.out ⟨b4, o4, none⟩ 16 cc4 ((wordsL sr).map (.int .i64)) rfl (by rw [List.length_map, HWL.out]) ID.out (map_one _) (by unfold maxLen; omega) (by omega) hud ?_; intro v' u5 q1 q2 q3 q4)
              have q1' : u5.ownsRow w.heap.size 3 1 v' (vn + 16) ((laidW q (rs.take (0 + 1))).map (.int .i64)) := by
                rw [HS1.out, List.map_append]
                exact q1
              obtain ⟨g', c'', rfl⟩ : ∃ g' c'', v' = .slice (some ⟨g', 0, none⟩) (vn + 16) c'' := by
                rcases q1'.2 with ⟨e, -⟩ | ⟨g', cap, cur, e, -⟩
                · have := (q3.1 e).2
                  omega
                · exact ⟨g', cap, e⟩
              have HKU := Lib.hid (KD.out.grown q2 (fun j e => .inr (own_block OD.out j e)))
              have HA' := Lib.hid q1'
              clear q1 q1' q2 q3 q4
              go_wp2_with fail
              go_roundw
              case rel => exact ⟨0 + 1, g', vn + 16, c'', by omega, by go_num, rfl, by have := HVN.out; omega, HA'.out, HNX.out, HKU.out⟩
              case measure => simp [intOf]; omega
            · have hip1 : (0 : Int) < (i : Int) := by omega
              have hgp := HRW.out.range (i := i - 1) (by omega)
              obtain ⟨pr, hpr⟩ : ∃ pr, pr = rs.getD (i - 1) [] := ⟨_, rfl⟩
              have hla1 : la = pr.getD 0 0 := by rw [HLA.out, hpr]; unfold lastK; rw [if_neg (by omega)]
              have hp13 : pr.length = 13 := by rw [hpr]; exact H13.out _ (getD_mem (by omega))
              have hcp := hgp.2 0 (.int .i64 la) (by rw [← hpr, map_get (by omega), hla1])
              have e14 : o + (i - 1) * 13 = o + 13 * (i - 1) + 0 := by omega
              rw [← e14] at hcp
              have e15 : IntKind.i64.wrap ((i : Int) - 1) = ((i - 1 : Nat) : Int) := by rw [IntKind.wrap_i64]; omega
              have hin : (i : Int) - 1 = ((i - 1 : Nat) : Int) := by omega
              have HCP := Lib.hid hcp
              clear hgp hpr hla1 hp13 e14 hcp
              obtain ⟨i1, hi1⟩ : ∃ i1, i1 = i - 1 := ⟨_, rfl⟩
              rw [← hi1] at e15 HCP hin
              have hi1n : (i1 : Int) < (n : Int) := by omega
              have hi1n' : i1 < n := by omega
              clear hi1 hin
              by_cases hl : la < kd
              · have d3 : decide (kd ≤ la) = false := by simpa using hl
                have HNX := Lib.hid (show putsOk q (-1) rs = putsOk q (lastK rs (i + 1)) (rs.drop (i + 1)) by rw [HLK.out, HST.out, hrb, decide_eq_true h4, decide_eq_true hl]; rfl)
                clear hrb h4 hl
                go_upto_region 10 with (first
            | (refine ld_elem _ hrg HR13.out rfl rfl rfl ?_; simp only [Act.put])
            | (simp only [zeros13])
            | (refine st_rec _ _ hA (zer_len _) HR13.out rfl rfl rfl rfl ?_; intro u3 h3 k3 s3; simp only [Act.put]; have c3 := h3.cell 1 (by rw [HR13.out]; decide); have f3 := h3.frozen 1; have kk3 : Keeps [] wr u3 := (((Keeps.refl [] wr).alloc (.cells (ints (zer 13)) 46)).trans k3 (by intro x hx; right; simp at hx; omega)); have K3 := Lib.hid kk3; have hT : RecAt (u3.setCell ⟨wr.heap.size, 1, none⟩ (.int .i64 q)) wr.heap.size sr := (by rw [← HSET.out]; exact h3.set 1 q); have KT := Lib.hid (K3.out.setCell (p := ⟨wr.heap.size, 1, none⟩) (.inr (Nat.le_refl _)) (.int .i64 q)); clear hA k3 h3 kk3)
            | (refine ld_rec _ hT HS13.out rfl rfl rfl ?_; simp only [Act.put])
            | (go_at_call 35; refine (refWords_any sr _ HS13.out HS64.out).mono ?_; rw [HWR.out]; rintro e u4 ⟨g4, cc4, rfl, i4, k4, l4, m4⟩; (try rw [HWL.out]); have kk4 := KT.out.trans0 k4; have K4 := Lib.hid (HK.out.trans0 kk4); have O4 := Lib.hid (ownsRow_keep HO.out kk4 (by simp)); have I4 := Lib.hid i4; have hT4 := hT.keep k4 (by simp); have c0 := hT4.cell 0 (by rw [HS13.out]; decide); rw [HSKD.out] at c0; (try have hcp := (kk4.cell (World.block_lt_of_cell? _ _ HCP.out) (by simp)).trans HCP.out); have hu4 := K4.out.size; clear k4 kk4 i4 l4 m4 hT))
                go_quiet (fail)
                generalize hwd : World.drewN _ _ = ud
                have kud : Keeps [] u4 ud := by rw [← hwd]; exact (Keeps.refl _ _).drewN _
                have OD := Lib.hid (ownsRow_keep O4.out kud (by simp))
                obtain ⟨b4, o4, hg4⟩ := IntsAt.addr I4.out (by show 1 ≤ (wordsL sr).length; rw [HWL.out]; omega)
                subst hg4
                have ID := Lib.hid (IntsAt.news (I4.out.keep0 kud))
                have KD := Lib.hid (K4.out.trans0 kud)
                have hud := KD.out.size
                clear kud hwd
                go_wp2_with (at_builtin; refine wpList_append_new _ rfl (.tmp 69) (.tmp 70) 22 rfl w.heap.size 3 i0 (.int .i64 0) 1 8 Tryd.underlying22 hi0 hz0 hz1 hz2 rfl (by decide) (.slice (some ⟨g, 0, none⟩) vn vc) vn _ rfl OD.out ⟨b4, o4, none⟩ 16 cc4 ((wordsL sr).map (.int .i64)) rfl (by rw [List.length_map, HWL.out]) ID.out (map_one _) (by unfold maxLen; omega) (by omega) hud ?_; intro v' u5 q1 q2 q3 q4)
                have q1' : u5.ownsRow w.heap.size 3 1 v' (vn + 16) ((laidW q (rs.take (i + 1))).map (.int .i64)) := by
                  rw [HS1.out, List.map_append]
                  exact q1
                obtain ⟨g', c'', rfl⟩ : ∃ g' c'', v' = .slice (some ⟨g', 0, none⟩) (vn + 16) c'' := by
                  rcases q1'.2 with ⟨e, -⟩ | ⟨g', cap, cur, e, -⟩
                  · have := (q3.1 e).2
                    omega
                  · exact ⟨g', cap, e⟩
                have HKU := Lib.hid (KD.out.grown q2 (fun j e => .inr (own_block OD.out j e)))
                have HA' := Lib.hid q1'
                clear q1 q1' q2 q3 q4
                go_wp2_with fail
                go_roundw
                case rel => exact ⟨i + 1, g', vn + 16, c'', by omega, by go_num, rfl, by have := HVN.out; omega, HA'.out, HNX.out, HKU.out⟩
                case measure => simp [intOf]; omega
              · have d3 : decide (kd ≤ la) = true := by simpa using hl
                have HF := Lib.hid (show G = (2, [], 0) from HALLNOT.out (by rw [HST.out, decide_eq_false hl]; simp))
                clear hrb h4 hl
                go_upto_region 10 with (first
            | (refine ld_elem _ hrg HR13.out rfl rfl rfl ?_; simp only [Act.put])
            | (simp only [zeros13])
            | (refine st_rec _ _ hA (zer_len _) HR13.out rfl rfl rfl rfl ?_; intro u3 h3 k3 s3; simp only [Act.put]; have c3 := h3.cell 1 (by rw [HR13.out]; decide); have f3 := h3.frozen 1; have kk3 : Keeps [] wr u3 := (((Keeps.refl [] wr).alloc (.cells (ints (zer 13)) 46)).trans k3 (by intro x hx; right; simp at hx; omega)); have K3 := Lib.hid kk3; have hT : RecAt (u3.setCell ⟨wr.heap.size, 1, none⟩ (.int .i64 q)) wr.heap.size sr := (by rw [← HSET.out]; exact h3.set 1 q); have KT := Lib.hid (K3.out.setCell (p := ⟨wr.heap.size, 1, none⟩) (.inr (Nat.le_refl _)) (.int .i64 q)); clear hA k3 h3 kk3)
            | (refine ld_rec _ hT HS13.out rfl rfl rfl ?_; simp only [Act.put])
            | (go_at_call 35; refine (refWords_any sr _ HS13.out HS64.out).mono ?_; rw [HWR.out]; rintro e u4 ⟨g4, cc4, rfl, i4, k4, l4, m4⟩; (try rw [HWL.out]); have kk4 := KT.out.trans0 k4; have K4 := Lib.hid (HK.out.trans0 kk4); have O4 := Lib.hid (ownsRow_keep HO.out kk4 (by simp)); have I4 := Lib.hid i4; have hT4 := hT.keep k4 (by simp); have c0 := hT4.cell 0 (by rw [HS13.out]; decide); rw [HSKD.out] at c0; (try have hcp := (kk4.cell (World.block_lt_of_cell? _ _ HCP.out) (by simp)).trans HCP.out); have hu4 := K4.out.size; clear k4 kk4 i4 l4 m4 hT))
                go_quiet (fail)
                go_wp2_with fail
                go_ret3
                rw [HF.out]
                exact POut.of_nil (K4.out.drewN _)
          · have d2 : decide (4 ≤ kd) = true := by simpa using h4
            have HF := Lib.hid (show G = (2, [], 0) from HALLNOT.out (by rw [HST.out, decide_eq_false h4]; simp))
            clear hrb h4
            go_upto_region 10 with (first
            | (refine ld_elem _ hrg HR13.out rfl rfl rfl ?_; simp only [Act.put])
            | (simp only [zeros13])
            | (refine st_rec _ _ hA (zer_len _) HR13.out rfl rfl rfl rfl ?_; intro u3 h3 k3 s3; simp only [Act.put]; have c3 := h3.cell 1 (by rw [HR13.out]; decide); have f3 := h3.frozen 1; have kk3 : Keeps [] wr u3 := (((Keeps.refl [] wr).alloc (.cells (ints (zer 13)) 46)).trans k3 (by intro x hx; right; simp at hx; omega)); have K3 := Lib.hid kk3; have hT : RecAt (u3.setCell ⟨wr.heap.size, 1, none⟩ (.int .i64 q)) wr.heap.size sr := (by rw [← HSET.out]; exact h3.set 1 q); have KT := Lib.hid (K3.out.setCell (p := ⟨wr.heap.size, 1, none⟩) (.inr (Nat.le_refl _)) (.int .i64 q)); clear hA k3 h3 kk3)
            | (refine ld_rec _ hT HS13.out rfl rfl rfl ?_; simp only [Act.put])
            | (go_at_call 35; refine (refWords_any sr _ HS13.out HS64.out).mono ?_; rw [HWR.out]; rintro e u4 ⟨g4, cc4, rfl, i4, k4, l4, m4⟩; (try rw [HWL.out]); have kk4 := KT.out.trans0 k4; have K4 := Lib.hid (HK.out.trans0 kk4); have O4 := Lib.hid (ownsRow_keep HO.out kk4 (by simp)); have I4 := Lib.hid i4; have hT4 := hT.keep k4 (by simp); have c0 := hT4.cell 0 (by rw [HS13.out]; decide); rw [HSKD.out] at c0; (try have hcp := (kk4.cell (World.block_lt_of_cell? _ _ HCP.out) (by simp)).trans HCP.out); have hu4 := K4.out.size; clear k4 kk4 i4 l4 m4 hT))
            go_quiet (fail)
            go_wp2_with fail
            go_ret3
            rw [HF.out]
            exact POut.of_nil (K4.out.drewN _)
      · have hin : i = n := by omega
        have hpt : putsOk q (-1) rs = true := by rw [HPO.out, List.drop_eq_nil_of_le (by rw [← HL.out]; omega)]; rfl
        have hqb := puts_seq H13.out (by rw [← HL.out]; exact HN4.out.1) hpt
        have hra : rightAll q rs = true := by
          rw [puts_split] at hpt
          simp only [Bool.and_eq_true] at hpt
          exact hpt.2
        have hcr : commitR q (n : Int) first = (0, commitL q (n : Int) first) := by unfold commitR; rw [if_pos ⟨hqb, by omega⟩]
        have hcR : rightB (commitL q (n : Int) first) = true := by rw [right_commit q _ first (by omega)]; simpa using hqb
        have hcw : wordsR (commitL q (n : Int) first) = (0, wordsL (commitL q (n : Int) first)) := by unfold wordsR; rw [if_pos hcR]
        obtain ⟨cl, hcl⟩ : ∃ cl, cl = commitL q (n : Int) first := ⟨_, rfl⟩
        have hc13 : cl.length = 13 := by rw [hcl]; exact commitL_len _ _ _
        have hc64 : ∀ x ∈ cl, I64 x := by rw [hcl]; exact commit_64 q _ first HQ.out (by unfold I64; omega)
        have hP : (putSlots q first rs).flatten = laidW q rs ++ wordsL cl := by
          unfold putSlots laidW
          rw [List.flatten_append, hcl, HL.out]
          simp
        rw [← hcl] at hcr hcw
        have hG2 : G = if (scanR xs).free + n + 1 ≤ nw / 16 then (0, laidW q rs ++ wordsL cl, 16 * ((scanR xs).free : Int)) else (4, [], 0) := by
          rw [HG.out, ← hP, HL.out, HXL.out]
          unfold gputR
          rw [if_pos ⟨by rw [← HL.out]; exact HN4.out.1, by rw [← HL.out]; exact HN4.out.2, hpt⟩]
        have hfit := fits_scan xs
        have hfl := hfit.live
        have hfr := scan_free xs
        rw [← HXL.out] at hfr
        obtain ⟨S, hS⟩ : ∃ S, S = scanR xs := ⟨_, rfl⟩
        rw [← hS] at hG2 hfr hfl
        obtain ⟨F, hF⟩ : ∃ F, F = S.free := ⟨_, rfl⟩
        rw [← hF] at hG2 hfr
        have hs1 := slotsI_nat nw
        obtain ⟨N, hN⟩ : ∃ N, N = nw / 16 := ⟨_, rfl⟩
        rw [← hN] at hG2 hfr hs1
        have hNb : N ≤ 576460752303423487 := by have q1 := HNW.out; have q2 := HCW.out; unfold maxLen at q2; omega
        have e1 : IntKind.i64.wrap ((F : Int) + (n : Int)) = (F : Int) + n := by rw [IntKind.wrap_i64]; omega
        have e2 : IntKind.i64.wrap ((F : Int) + (n : Int) + 1) = (F : Int) + n + 1 := by rw [IntKind.wrap_i64]; omega
        have e3 : IntKind.i64.wrap ((F : Int) * 16) = 16 * (F : Int) := by rw [IntKind.wrap_i64]; omega
        have hown := HO.out
        rw [hin, HL.out, List.take_length] at hown
        obtain ⟨U, hU⟩ : ∃ U, U = laidW q rs := ⟨_, rfl⟩
        have hUl : U.length = vn := by rw [hU, laidW_len H13.out, ← HL.out]; have := HVN.out; omega
        rw [← hU] at hG2 hown
        have hni : (n : Int) ≤ (i : Int) := by omega
        have HOW := Lib.hid hown
        have HUL := Lib.hid hUl
        have HS1 := Lib.hid hs1
        have HFL := Lib.hid hfl
        have HSS := Lib.hid hS
        have HFF := Lib.hid hF
        have HCR := Lib.hid hcr
        have HCWR := Lib.hid hcw
        have HC13 := Lib.hid hc13
        have HC64 := Lib.hid hc64
        have HWL := Lib.hid (wordsL_len hc13)
        have HI64 := Lib.hid (show I64 (nw : Int) by have q1 := HNW.out; have q2 := HCW.out; unfold maxLen at q2; unfold I64; omega)
        have HIN := Lib.hid (show I64 (n : Int) by unfold I64; omega)
        clear hin hpt hqb hra hcr hcR hcw hcl hc13 hc64 hP hfit hfl hS hF hs1 hN hown hU hUl
        by_cases hroom : F + n + 1 ≤ N
        · have d1 : decide ((N : Int) < (F : Int) + n + 1) = false := by rw [decide_eq_false_iff_not]; omega
          have HG2 := Lib.hid (show G = (0, U ++ wordsL cl, 16 * (F : Int)) by rw [hG2, if_pos hroom])
          clear hG2 hroom
          go_wp2_with (first
            | (go_at_call 36; refine (refCommit_any q (n : Int) first _ HQ.out HIN.out).mono ?_; rw [HCR.out]; rintro e u2 ⟨rfl, k2⟩; have hA : RecAt (u2.alloc (.cells (ints (zer 13)) 46)) u2.heap.size (zer 13) := heap_alloc_new u2 _; have KA := Lib.hid (k2.alloc (.cells (ints (zer 13)) 46)); have hu2 := k2.size; clear k2)
            | (simp only [zeros13])
            | (refine st_rec _ _ hA (zer_len _) HC13.out rfl rfl rfl rfl ?_; intro u3 h3 k3 s3; simp only [Act.put]; have K3 := Lib.hid (KA.out.trans k3 (by intro x hx; right; simp at hx; omega)); clear hA k3)
            | (refine ld_rec _ h3 HC13.out rfl rfl rfl ?_; simp only [Act.put])
            | (go_at_call 35; refine (refWords_any cl _ HC13.out HC64.out).mono ?_; rw [HCWR.out]; rintro e u4 ⟨g4, cc4, rfl, i4, k4, l4, m4⟩; (try rw [HWL.out]); have kk4 := K3.out.trans0 k4; obtain ⟨b4, o4, hg4⟩ := IntsAt.addr i4 (by show 1 ≤ (wordsL cl).length; rw [HWL.out]; omega); subst hg4; have K4 := Lib.hid (HK.out.trans0 kk4); have O4 := Lib.hid (ownsRow_keep HOW.out kk4 (by simp)); have I4 := Lib.hid (IntsAt.news i4); have hu4 := K4.out.size; clear k4 kk4 i4 l4 m4 h3)
            | (at_builtin; refine wpList_append_new _ rfl (.tmp 85) (.tmp 86) 22 rfl w.heap.size 3 i0 (.int .i64 0) 1 8 Tryd.underlying22 hi0 hz0 hz1 hz2 rfl (by decide) (.slice (some ⟨g, 0, none⟩) vn vc) vn _ rfl O4.out ⟨b4, o4, none⟩ 16 cc4 ((wordsL cl).map (.int .i64)) rfl (by rw [List.length_map, HWL.out]) I4.out (map_one _) (by unfold maxLen; omega) (by omega) hu4 ?_; intro v' u5 q1 q2 q3 q4; obtain ⟨g', c'', rfl⟩ := ownsRow_succ q1; have HA5 := Lib.hid (show u5.ownsRow w.heap.size 3 1 (.slice (some ⟨g', 0, none⟩) (vn + 16) c'') (vn + 16) ((U ++ wordsL cl).map (.int .i64)) by rw [List.map_append]; exact q1); have K5 := Lib.hid (K4.out.grown q2 (fun j e => .inr (own_block O4.out j e))); clear q1 q2 q3 q4)
            | (go_at_call 13; refine (refScan_any _ _ _ xs _ (HI.out.keep0 K5.out) HNW.out HCW.out HX64.out).mono ?_; rw [← HSS.out]; rintro e u6 ⟨rfl, k6⟩; have K6 := Lib.hid k6; have K7 := Lib.hid (K5.out.trans0 k6); clear k6)
            | (refine fld_free _ HFL.out rfl rfl rfl ?_; simp only [Act.put]; rw [← HFF.out])
            | (go_at_call 15; refine (refSlots_any (nw : Int) _ HI64.out).mono ?_; rw [HS1.out]; rintro e u9 ⟨rfl, rfl⟩))
          go_ret3
          rw [HG2.out]
          have hlen : (U ++ wordsL cl).length = vn + 16 := by rw [List.length_append, HUL.out, HWL.out]
          obtain ⟨g2, c2, e2', hg2, hA2⟩ := Arr.of_own (HA5.out) (by simp)
          injection e2' with f1 f2 f3
          injection f1 with f1
          injection f1 with f1
          subst f1; subst f3
          have hIa := (hA2.keep K6.out (by simp)).ints
          refine ⟨some ⟨g', 0, none⟩, c'', ?_, ?_, K7.out, ?_, hA2.cm⟩
          · show _ = Ending.returned (.tuple #[.slice (some ⟨g', 0, none⟩) (U ++ wordsL cl).length c'', _, _])
            rw [hlen]; rfl
          · exact hIa
          · exact hA2.le
        · have d1 : decide ((N : Int) < (F : Int) + n + 1) = true := by rw [decide_eq_true_iff]; omega
          have HG2 := Lib.hid (show G = (4, [], 0) by rw [hG2, if_neg hroom])
          clear hG2 hroom
          go_wp2_with (first
            | (go_at_call 36; refine (refCommit_any q (n : Int) first _ HQ.out HIN.out).mono ?_; rw [HCR.out]; rintro e u2 ⟨rfl, k2⟩; have hA : RecAt (u2.alloc (.cells (ints (zer 13)) 46)) u2.heap.size (zer 13) := heap_alloc_new u2 _; have KA := Lib.hid (k2.alloc (.cells (ints (zer 13)) 46)); have hu2 := k2.size; clear k2)
            | (simp only [zeros13])
            | (refine st_rec _ _ hA (zer_len _) HC13.out rfl rfl rfl rfl ?_; intro u3 h3 k3 s3; simp only [Act.put]; have K3 := Lib.hid (KA.out.trans k3 (by intro x hx; right; simp at hx; omega)); clear hA k3)
            | (refine ld_rec _ h3 HC13.out rfl rfl rfl ?_; simp only [Act.put])
            | (go_at_call 35; refine (refWords_any cl _ HC13.out HC64.out).mono ?_; rw [HCWR.out]; rintro e u4 ⟨g4, cc4, rfl, i4, k4, l4, m4⟩; (try rw [HWL.out]); have kk4 := K3.out.trans0 k4; obtain ⟨b4, o4, hg4⟩ := IntsAt.addr i4 (by show 1 ≤ (wordsL cl).length; rw [HWL.out]; omega); subst hg4; have K4 := Lib.hid (HK.out.trans0 kk4); have O4 := Lib.hid (ownsRow_keep HOW.out kk4 (by simp)); have I4 := Lib.hid (IntsAt.news i4); have hu4 := K4.out.size; clear k4 kk4 i4 l4 m4 h3)
            | (at_builtin; refine wpList_append_new _ rfl (.tmp 85) (.tmp 86) 22 rfl w.heap.size 3 i0 (.int .i64 0) 1 8 Tryd.underlying22 hi0 hz0 hz1 hz2 rfl (by decide) (.slice (some ⟨g, 0, none⟩) vn vc) vn _ rfl O4.out ⟨b4, o4, none⟩ 16 cc4 ((wordsL cl).map (.int .i64)) rfl (by rw [List.length_map, HWL.out]) I4.out (map_one _) (by unfold maxLen; omega) (by omega) hu4 ?_; intro v' u5 q1 q2 q3 q4; obtain ⟨g', c'', rfl⟩ := ownsRow_succ q1; have HA5 := Lib.hid (show u5.ownsRow w.heap.size 3 1 (.slice (some ⟨g', 0, none⟩) (vn + 16) c'') (vn + 16) ((U ++ wordsL cl).map (.int .i64)) by rw [List.map_append]; exact q1); have K5 := Lib.hid (K4.out.grown q2 (fun j e => .inr (own_block O4.out j e))); clear q1 q2 q3 q4)
            | (go_at_call 13; refine (refScan_any _ _ _ xs _ (HI.out.keep0 K5.out) HNW.out HCW.out HX64.out).mono ?_; rw [← HSS.out]; rintro e u6 ⟨rfl, k6⟩; have K6 := Lib.hid k6; have K7 := Lib.hid (K5.out.trans0 k6); clear k6)
            | (refine fld_free _ HFL.out rfl rfl rfl ?_; simp only [Act.put]; rw [← HFF.out])
            | (go_at_call 15; refine (refSlots_any (nw : Int) _ HI64.out).mono ?_; rw [HS1.out]; rintro e u9 ⟨rfl, rfl⟩))
          go_ret3
          rw [HG2.out]
          exact POut.of_nil K7.out
  · have HF := Lib.hid (show G = (2, [], 0) by rw [HG.out]; exact gput_not (by rw [← HL.out]; rintro ⟨h1, h2, -⟩; exact hn4 ⟨h1, h2⟩))
    have HW := Lib.hid (Keeps.refl [] w)
    by_cases h1 : (n : Int) < 1
    · clear hn4
      go_enter Tryd.func19, Tryd.ntmps19
      go_wp2_with fail
      go_ret3
      rw [HF.out]
      exact POut.of_nil HW.out
    · have h2 : (1 : Int) ≤ (n : Int) := by omega
      have h3 : (4 : Int) < (n : Int) := by omega
      clear hn4 h1
      go_enter Tryd.func19, Tryd.ntmps19
      go_wp2_with fail
      go_ret3
      rw [HF.out]
      exact POut.of_nil HW.out

end Go.Proofs.YtnmblemplkdmaaaDoor
