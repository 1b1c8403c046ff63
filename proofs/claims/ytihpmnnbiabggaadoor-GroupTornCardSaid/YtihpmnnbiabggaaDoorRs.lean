
/- GroupTorn walked. No condition but lengths, that all are numbers of 64 bits, and the table of the sums. -/
import Derived.Test.YtihpmnnbiabggaaDoorRz
import Derived.Test.YtihpmnnbiabggaaDoorRp
import Derived.Test.YtihpmnnbiabggaaDoorGt
import Derived.IntWalk
import Derived.ArgAppend
import Derived.Deep.AppendLies
import Derived.Deep.RegionHeld3
import Derived.StillTailTactics
import Derived.Deep.CutBlock
import Derived.Deep.RegionHeld3
namespace Go.Proofs.YtihpmnnbiabggaaDoor
open Go.RowKit Go.Shelf
set_option linter.unusedVariables false
set_option linter.unusedSimpArgs false
set_option maxRecDepth 100000

theorem flipF {P : Program} {f : FuncId} {args : Array Value} {w : World} {v : Value} (h : Calls P f args w fun e w' => e = .returned v ∧ w = w') : Calls P f args w fun e w' => e = .returned v ∧ w' = w := h.mono fun _ _ h => ⟨h.1, h.2.symm⟩
theorem recs_front {w : World} {a : Option Addr} {n k : Nat} {rs : List (List Int)} (h : RecsAt w a n rs) (hk : k ≤ n) : RecsAt w a k (rs.take k) := by
  have h13 := h.2.1
  have hn := h.1
  have hlt : (rs.take k).length = k := by rw [List.length_take]; omega
  have t13 : ∀ r ∈ rs.take k, r.length = 13 := fun r hr => h13 r (List.mem_of_mem_take hr)
  refine ⟨hlt.symm, t13, ?_⟩
  have e : (rs.take k).flatten = rs.flatten.take (13 * k) := by
    have h1 : rs.flatten = (rs.take k).flatten ++ (rs.drop k).flatten := by rw [← List.flatten_append, List.take_append_drop]
    have h2 : (rs.take k).flatten.length = 13 * k := by rw [flat13 t13, hlt]
    conv => rhs; rw [h1]
    rw [List.take_append_of_le_length (by omega)]
    exact (List.take_of_length_le (by omega)).symm
  rw [e]
  exact h.2.2.take (by omega)
theorem take_64F {xs : List Int} {k : Nat} (h : ∀ x ∈ xs, I64 x) : ∀ x ∈ xs.take k, I64 x := fun x hx => h x (List.mem_of_mem_take hx)
theorem slotsN_any (M D : Nat) (w : World) (h : slotsI (M : Int) = (D : Int)) (hM : M ≤ 480) : Calls Tryd.prog 7 #[.int .i64 (M : Int)] w fun e w' => e = .returned (.int .i64 (D : Int)) ∧ w = w' := by
  have hh := Slots_any (M : Int) w (by unfold I64; omega)
  rw [h] at hh
  exact hh
theorem gput_zero {xs : List Int} {q : Int} {first : Bool} {rs : List (List Int)} {gc ga : Int} {gl : List Int} (h : (gc, gl, ga) = gputR xs q first rs) (h0 : gc = 0) :
    (1 ≤ rs.length ∧ rs.length ≤ 4) ∧ putsOk q (-1) rs = true ∧ (scanR xs).free + rs.length + 1 ≤ xs.length / 16 ∧ gl = (putSlots q first rs).flatten ∧ ga = 16 * ((scanR xs).free : Int) := by
  unfold gputR at h
  split at h
  · rename_i h1
    split at h
    · rename_i h2
      simp only [Prod.mk.injEq] at h
      exact ⟨⟨h1.1, h1.2.1⟩, h1.2.2, h2, h.2.1, h.2.2⟩
    · simp only [Prod.mk.injEq] at h
      omega
  · simp only [Prod.mk.injEq] at h
    omega
theorem gput_err {xs : List Int} {q : Int} {first : Bool} {rs : List (List Int)} {gc ga : Int} {gl : List Int} (h : (gc, gl, ga) = gputR xs q first rs) (h0 : ¬ gc = 0) : gl = [] ∧ ga = 0 := by
  unfold gputR at h
  split at h
  · split at h
    · simp only [Prod.mk.injEq] at h
      exact absurd h.1 h0
    · simp only [Prod.mk.injEq] at h
      exact h.2
  · simp only [Prod.mk.injEq] at h
    exact h.2
theorem step_append_grows {P : Program} {ops : Array Oper} {w : World} {o : Oper} {a : Act} {K : Act → World → Prop} {Q : Exit → Act → World → Prop} {E : Prop} (hg : o.guard = none) (s x : Operand) (t : TypeId)
    (ho : o.op = .call { callee := .builtin .append, args := #[s, x], argTypes := #[t, t] })
    (e : TypeId) (i : TypeInfo) (z : Value) (size bytes : Nat) (h1 : P.underlying t = some (.slice e)) (h2 : P.info? e = some i) (h3 : i.zero = some z) (h4 : i.size = size) (h5 : i.bytes = bytes) (h6 : z.cells.size = size) (h7 : 0 < size)
    (b : Addr) (n cap : Nat) (olds : List Value) (hs : a.eval s = .slice (some b) n cap) (hlo : olds.length = n * size) (holds : ∀ j u, olds[j]? = some u → w.cell? (b.add j) = some u)
    (ad : Addr) (m c : Nat) (news : List Value) (hx : a.eval x = .slice (some ad) m c) (hn : news.length = m * size) (hc : ∀ j u, news[j]? = some u → w.cell? (ad.add j) = some u)
    (hfull : cap < n + m) (b1 : n + m ≤ maxLen) (b2 : (n + m) * bytes ≤ 140737488355328)
    (h : ∀ v' w', w'.ownsRow w.heap.size e size v' (n + m) (olds ++ news) → w.grownBy w' none → K (a.put o.dst v') w') :
    if Region.wanted o (yielded ops a.tmps) = true then Oper.wp P o a w K Q else E := by
  have hw : Region.wanted o (yielded ops a.tmps) = true := by simp [Region.wanted, hg]
  rw [if_pos hw]
  obtain ⟨v', w', hrun, r1, r2⟩ := run_append_arg_grows (P := P) w t o.type e i z size bytes h1 h2 h3 h4 h5 h6 h7 b n cap olds hlo holds ad m c news hn hc hfull b1 b2
  unfold Oper.wp
  simp [execOp, ho, resolve, invoke, builtin, hs, hx, hrun, Result.andThen]
  exact h v' w' r1 r2
theorem slotsN_anyT (M D : Nat) (w : World) (h : slotsI (M : Int) = (D : Int)) (hM : M ≤ 480) : Calls Tryd.prog 7 #[.int .i64 (M : Int)] w fun e w' => e = .returned (.int .i64 (D : Int)) ∧ w' = w := by
  have hh := Slots_any (M : Int) w (by unfold I64; omega)
  rw [h] at hh
  exact flipF hh
theorem ints_lt {w : World} {a : Option Addr} {n : Nat} {xs : List Int} (h : IntsAt w a n xs) (h1 : 1 ≤ n) : ∀ b o s, a = some ⟨b, o, s⟩ → b < w.heap.size := by
  rintro b o s rfl
  have hn := h.1
  obtain ⟨rfl, hc⟩ := h.2.2 b o s rfl (List.ne_nil_of_length_pos (by omega))
  exact World.block_lt_of_cell? w _ (hc 0 (by omega))
theorem among_pos (x : Int) (P : Nat) (w : World) (h : amongI x 16 = (P : Int)) : Calls Tryd.prog 10 #[.int .i64 x, .int .i64 16] w fun e w' => e = .returned (.int .i64 (P : Int)) ∧ w' = w := by
  rw [← h]
  exact flipF (among_any x 16 w (by omega) (by omega))
theorem among_val (x V : Int) (w : World) (h : amongI x 65535 = V) : Calls Tryd.prog 10 #[.int .i64 x, .int .i64 65535] w fun e w' => e = .returned (.int .i64 V) ∧ w' = w := by
  rw [← h]
  exact flipF (among_any x 65535 w (by omega) (by omega))
theorem among_bd : ∀ x : Int, (0 ≤ amongI x 16 ∧ amongI x 16 < 16) ∧ (0 ≤ amongI x 65535 ∧ amongI x 65535 < 65535) := fun x => ⟨amongI_lt x 16 (by omega) (by omega), amongI_lt x 65535 (by omega) (by omega)⟩
theorem torn_word {ts : List Int} (hb : ∀ x : Int, (0 ≤ amongI x 16 ∧ amongI x 16 < 16) ∧ (0 ≤ amongI x 65535 ∧ amongI x 65535 < 65535)) : ∀ x ∈ (tornsL ts).flatten, 0 ≤ x ∧ x ≤ 65535 := by
  intro x hx
  obtain ⟨s, hs, hx⟩ := List.mem_flatten.1 hx
  obtain ⟨y, -, rfl⟩ := List.mem_map.1 hs
  have h := hb y
  rcases List.mem_or_eq_of_mem_set hx with hx | rfl
  · rw [(List.mem_replicate.1 hx).2]; omega
  · omega
theorem torn_facts (ys ts : List Int) (hb : ∀ x : Int, (0 ≤ amongI x 16 ∧ amongI x 16 < 16) ∧ (0 ≤ amongI x 65535 ∧ amongI x 65535 < 65535)) (h : ∀ x ∈ ys, I64 x) : ∀ x ∈ tornW ys ts, I64 x := with_64 (padW_64 h) (torn_word hb)
theorem allL_kind (n : Int) : ∀ r ∈ allL n, r.length = 13 ∧ 0 ≤ r.getD 0 0 ∧ r.getD 0 0 < 4 := by
  intro r hr
  refine ⟨allL_len n r hr, ?_⟩
  obtain ⟨k, hk, rfl⟩ := List.mem_map.1 hr
  simp only [List.mem_cons, List.not_mem_nil, or_false] at hk
  simp
  omega
theorem wrapT_64 {x : Int} (h : I64 x) : wrap64 x = x := by
  unfold I64 at h
  unfold wrap64
  omega
theorem among_at65 (x V : Int) (w : World) (h : amongI x 65536 = V) : Calls Tryd.prog 10 #[.int .i64 x, .int .i64 65536] w fun e w' => e = .returned (.int .i64 V) ∧ w' = w := by
  rw [← h]
  exact flipF (among_any x 65536 w (by omega) (by omega))

set_option maxHeartbeats 4000000 in
theorem gtorn_top (a : Option Addr) (n c : Nat) (xs : List Int) (ta : Option Addr) (nt ct : Nat) (ts : List Int) (more : Int) (w : World) (ht : Turns w) (hi : IntsAt w a n xs) (hn : n ≤ c) (hc : c ≤ maxLen) (h64 : ∀ x ∈ xs, I64 x)
    (hti : IntsAt w ta nt ts) (hnt : nt ≤ ct) (hct : ct ≤ maxLen) (hm : I64 more) (hne : (scanR (xs.take (fewN n))).seq = 4294967295) :
    Calls Tryd.prog 3 #[.slice a n c, .slice ta nt ct, .int .i64 more] w fun e w' => e = .returned (.bool true) ∧ Keeps [] w w' := by
  have hfn := fewN_le n
  have hit := hi.take (k := fewN n) hfn.1
  have h64t := take_64F (k := fewN n) h64
  obtain ⟨ys, hys⟩ : ∃ ys, ys = xs.take (fewN n) := ⟨_, rfl⟩
  rw [← hys] at hit h64t hne
  obtain ⟨M, hM⟩ : ∃ M, M = fewN n := ⟨_, rfl⟩
  have hMb : M ≤ n ∧ M ≤ 480 := by rw [hM]; exact hfn
  rw [← hM] at hit
  obtain ⟨S, hS⟩ : ∃ S, S = scanR ys := ⟨_, rfl⟩
  have hSL : S.live.length = 44 := by rw [hS]; exact (fits_scan ys).live
  rw [← hS] at hne
  have HT := Lib.hid ht
  have HI := Lib.hid hit
  have H64 := Lib.hid h64t
  have HMB := Lib.hid hMb
  have HM := Lib.hid hM
  have HN := Lib.hid hn
  have HC := Lib.hid hc
  have HS := Lib.hid hS
  have HSL := Lib.hid hSL
  have HL0 := Lib.hid (show fnd0.live.length = 44 by decide)
  clear ht hi hit h64 h64t hys hfn hMb hM hn hc hS hSL hti hnt hct hm
  go_enter Tryd.func3, Tryd.ntmps3
  go_wp2_with (first
    | (go_at_call 4; refine (works_any _ HT.out).mono ?_; rintro e w1 ⟨rfl, k1⟩; have HT1 := Lib.hid (HT.out.keep k1); have HI1 := Lib.hid (HI.out.keep0 k1); have K1 := Lib.hid k1; clear k1)
    | (go_at_call 5; refine (few_any _ _ _ _ HN.out HC.out).mono ?_; rw [← HM.out]; rintro e w' ⟨rfl, rfl⟩)
    | (go_at_call 6; refine (scan_any _ M c ys _ HT1.out HI1.out (by have := HMB.out; have := HN.out; omega) HC.out H64.out).mono ?_; rw [← HS.out]; rintro e w2 ⟨rfl, k2⟩; have h7 : FAt (w2.alloc (.cells (fndV fnd0) 28)) w2.heap.size 28 [] fnd0 := heap_alloc_new w2 _; have HT2 := Lib.hid (HT1.out.keep (k2.alloc (.cells (fndV fnd0) 28))); have HI2 := Lib.hid (HI1.out.keep0 (k2.alloc (.cells (fndV fnd0) 28))); have K2 := Lib.hid (K1.out.trans0 k2); clear k2)
    | (simp only [zeros48])
    | (refine st_fnd _ _ h7 HL0.out HSL.out rfl rfl rfl rfl ?_; intro w8 h8 k8 s8; simp only [Act.put]; have d0 : w8.cell? ⟨w2.heap.size, 0, none⟩ = some (.bool S.has) := h8.has; have d1 : w8.cell? ⟨w2.heap.size, 1, none⟩ = some (.int .i64 S.seq) := h8.seq; have d3 : w8.cell? ⟨w2.heap.size, 46, none⟩ = some (.int .i64 S.com) := h8.com HSL.out; have d4 : w8.cell? ⟨w2.heap.size, 47, none⟩ = some (.int .i64 (S.free : Int)) := h8.free HSL.out; have HF := Lib.hid h8; have K8 := Lib.hid ((K2.out.alloc (.cells (fndV fnd0) 28)).trans k8 (by intro x hx; right; have := K2.out.size; simp at hx; omega)); have HT8 := Lib.hid (HT.out.keep K8.out); have HI8 := Lib.hid (HI.out.keep0 K8.out); clear h8 h7 k8)
    | (go_at_call 10; refine (among_any _ 4 _ (by omega) (by omega)).mono ?_; rw [HA4.out]; rintro e w' ⟨rfl, rfl⟩))
  go_ret
  exact ⟨rfl, K8.out⟩

set_option maxHeartbeats 4000000 in
theorem gtorn_t (a : Option Addr) (n c : Nat) (xs : List Int) (ta : Option Addr) (nt ct : Nat) (ts : List Int) (more : Int) (w : World) (ht : Turns w) (hi : IntsAt w a n xs) (hn : n ≤ c) (hc : c ≤ maxLen) (h64 : ∀ x ∈ xs, I64 x)
    (hti : IntsAt w ta nt ts) (hnt : nt ≤ ct) (hct : ct ≤ maxLen) (hm : I64 more) (hb : (scanR (xs.take (fewN n))).has = true) (hne : ¬ (scanR (xs.take (fewN n))).seq = 4294967295) :
    Calls Tryd.prog 3 #[.slice a n c, .slice ta nt ct, .int .i64 more] w fun e w' => e = .returned (.bool true) ∧ Keeps [] w w' := by
  obtain ⟨i0, hi0, hz0, hz1, hz2⟩ := info_parts Tryd.info3
  have hfn := fewN_le n
  have hit := hi.take (k := fewN n) hfn.1
  have h64t := take_64F (k := fewN n) h64
  obtain ⟨ys, hys⟩ : ∃ ys, ys = xs.take (fewN n) := ⟨_, rfl⟩
  rw [← hys] at hit h64t hb hne
  obtain ⟨M, hM⟩ : ∃ M, M = fewN n := ⟨_, rfl⟩
  have hMb : M ≤ n ∧ M ≤ 480 := by rw [hM]; exact hfn
  rw [← hM] at hit
  have hyl : ys.length = M := hit.1.symm
  have hfits : Fits (scanR ys) (ys.length / 16) := fits_scan ys
  have hTP := torn_put ys ts more among_bd (by have := hfits.seq; omega)
  have hTS := torns_scan ys ts among_bd
  have hTL := tornW_len ys ts
  have hTB := fun j (h1 : 16 * (scanR ys).free ≤ j) => padW_blank ys (j := j) h1
  obtain ⟨S, hS⟩ : ∃ S, S = scanR ys := ⟨_, rfl⟩
  obtain ⟨D, hD⟩ : ∃ D, D = M / 16 := ⟨_, rfl⟩
  rw [hyl, ← hD] at hfits hTL hTB
  rw [← hS] at hb hne hfits hTP hTS hTB
  have hD30 : D ≤ 30 := by omega
  have hSD : S.free ≤ D := hfits.free
  have hs0 : 0 ≤ S.seq := hfits.seq.1
  have hs1 : S.seq < 4294967295 := by have := hfits.seq.2; omega
  have hc0 : 0 ≤ S.com ∧ S.com ≤ 30 := by have := hfits.com; omega
  have hSL : S.live.length = 44 := hfits.live
  rw [hb] at hTP
  have hntl : nt = ts.length := hti.1
  obtain ⟨TN, hTN⟩ : ∃ TN, TN = min 3 ts.length := ⟨_, rfl⟩
  rw [← hTN] at hTP hTS
  have hTN3 : TN ≤ 3 ∧ TN ≤ nt := by omega
  have hDs : slotsI (M : Int) = (D : Int) := by rw [slotsI_nat, hD]
  have HT := Lib.hid ht
  have HI := Lib.hid hit
  have H64 := Lib.hid h64t
  have HMB := Lib.hid hMb
  have HM := Lib.hid hM
  have HN := Lib.hid hn
  have HC := Lib.hid hc
  have HS := Lib.hid hS
  have HSL := Lib.hid hSL
  have HB := Lib.hid hb
  have HYL := Lib.hid hyl
  have HD := Lib.hid hD
  have HDs := Lib.hid hDs
  have HTI := Lib.hid hti
  have HTP := Lib.hid hTP
  have HTS := Lib.hid hTS
  have HTL := Lib.hid hTL
  have HTB := Lib.hid hTB
  have HTN := Lib.hid hTN
  have HNTL := Lib.hid hntl
  have HM64 := Lib.hid hm
  have HL0 := Lib.hid (show fnd0.live.length = 44 by decide)
  have hneb : (S.seq == 4294967295) = false := by simp [hne]
  have hnt' := hnt
  have hct' := hct
  unfold maxLen at hct'
  have hmx := hMb.1
  have hDM : 16 * D ≤ M := by omega
  have hMc : M ≤ c := by omega
  clear ht hi hit h64 h64t hys hfn hMb hM hn hc hS hSL hb hyl hD hDs hti hTP hTS hTL hTB hTN hntl hm hfits hnt hct
  go_enter Tryd.func3, Tryd.ntmps3
  go_upto_region 7 with (first
    | (go_at_call 4; refine (works_any _ HT.out).mono ?_; rintro e w1 ⟨rfl, k1⟩; have K3 := Lib.hid k1; clear k1)
    | (go_at_call 5; refine (few_any _ _ _ _ HN.out HC.out).mono ?_; rw [← HM.out]; rintro e w' ⟨rfl, rfl⟩)
    | (go_at_call 6; refine (scan_any _ M c ys _ (HT.out.keep K3.out) (HI.out.keep0 K3.out) (by have := HMB.out; have := HN.out; omega) HC.out H64.out).mono ?_; rw [← HS.out]; rintro e w2 ⟨rfl, k2⟩; have h7 : FAt (w2.alloc (.cells (fndV fnd0) 28)) w2.heap.size 28 [] fnd0 := heap_alloc_new w2 _; have K2 := Lib.hid (K3.out.trans0 k2); clear k2)
    | (simp only [zeros48])
    | (refine st_fnd _ _ h7 HL0.out HSL.out rfl rfl rfl rfl ?_; intro w8 h8 k8 s8; simp only [Act.put]; have d0 : w8.cell? ⟨w2.heap.size, 0, none⟩ = some (.bool true) := (by rw [← HB.out]; exact h8.has); have d1 : w8.cell? ⟨w2.heap.size, 1, none⟩ = some (.int .i64 S.seq) := h8.seq; have d4 : w8.cell? ⟨w2.heap.size, 47, none⟩ = some (.int .i64 (S.free : Int)) := h8.free HSL.out; have HF := Lib.hid h8; have K8 := Lib.hid ((K2.out.alloc (.cells (fndV fnd0) 28)).trans k8 (by intro x hx; right; have := K2.out.size; simp at hx; omega)); clear h8 h7 k8))
  have hw1 : IntKind.i64.wrap ((D : Int) * 16) = (D : Int) * 16 := IntWalk.i64_in _ (by omega)
  have hd0 : (0 : Int) ≤ (D : Int) * 16 := by omega
  have hd1 : (D : Int) * 16 ≤ (c : Int) := by omega
  have hd2 : ((D : Int) * 16).toNat = 16 * D := by omega
  go_cut [0] from 25 to 36 (fun s0 wx => ∃ g c', s0 = .slice (some ⟨g, 0, none⟩) (16 * (D + 12)) c' ∧ Arr wx g c' (padW ys) ∧ Keeps [] w8 wx)
  case first =>
    rcases a with _ | ad
    · have hM0 : M = 0 := by have h1 := HI.out.1; have h2 := HI.out.2.1 rfl; rw [h2] at h1; simpa using h1
      have hD0 : D = 0 := by have := HD.out; omega
      subst hM0
      subst hD0
      have hw0 : IntKind.i64.wrap 0 = 0 := IntWalk.i64_in 0 (by omega)
      have HP0 := Lib.hid (show padW ys = List.replicate 192 65535 by have h2 := HI.out.2.1 rfl; rw [h2]; rfl)
      go_region_law (first
        | (refine step_append_new rfl (.tmp 34) (.tmp 35) 22 rfl w20.heap.size 3 i0 (.int .i64 0) 1 8 Tryd.underlying22 hi0 hz0 hz1 hz2 rfl (by decide) (.slice none 0 0) 0 [] rfl (World.ownsRow_nil _ _ _ _) ⟨g20, 0, none⟩ 192 c20 ((List.replicate 192 65535).map (.int .i64)) rfl (by simp) (IntsAt.news (HA20.out.ints)) (by simp [Value.oneCell']) (by unfold maxLen; omega) (by omega) (Nat.le_refl _) ?_; intro v' w21 q1 q2 q3 q4; obtain ⟨g22, c22, rfl, -, ha22⟩ := Arr.of_own (xs := padW ys) (base := w20.heap.size) (n := 192) (by rw [HP0.out]; simpa using q1) (fun hn => by have h := (q3.1 hn).2; omega); rw [show (padW ys).length = 16 * (0 + 12) by rw [HP0.out]; simp]; have HA22 := Lib.hid ha22; have K22 := Lib.hid ((((Keeps.refl [] w8).drewN 1).trans0 K20.out).grown q2 (fun k e => by cases e)); clear q1 q2 q3 q4 ha22)
        | (go_simp; go_at_call 7; refine (slotsN_anyT 0 0 _ HDs.out (by omega)).mono ?_; rintro e w' ⟨rfl, rfl⟩)
        | (go_simp; go_at_call 8; refine (gblank_any 12 _ (by omega)).mono ?_; rintro e w20 ⟨g20, c20, rfl, hA, k20, hg20⟩; simp only [Nat.reduceMul]; have HA20 := Lib.hid (show Arr w20 g20 c20 (List.replicate 192 65535) from hA); have K20 := Lib.hid (show Keeps [] w8.drew w20 from k20); clear hA k20))
      all_goals (go_wp2_with fail; go_meet; exact ⟨g22, c22, rfl, HA22.out, K22.out⟩)
    · go_region_law (first
        | (refine step_append_grows rfl (.tmp 34) (.tmp 35) 22 rfl 3 i0 (.int .i64 0) 1 8 Tryd.underlying22 hi0 hz0 hz1 hz2 rfl (by decide) ad (16 * D) (16 * D) ((ys.take (16 * D)).map (.int .i64)) rfl (by rw [List.length_map, List.length_take, HYL.out]; omega) (IntsAt.news (((HI.out.keep0 (K8.out.trans0 ((Keeps.refl [] w8).drewN 1))).take hDM).keep0 K20.out)) ⟨g20, 0, none⟩ 192 c20 ((List.replicate 192 65535).map (.int .i64)) rfl (by simp) (IntsAt.news (HA20.out.ints)) (by omega) (by unfold maxLen; omega) (by omega) ?_; intro v' w21 q1 q2; obtain ⟨g22, c22, rfl, -, ha22⟩ := Arr.of_own (xs := padW ys) (base := w20.heap.size) (n := 16 * D + 192) (by have h := q1; rw [← List.map_append] at h; rw [show padW ys = ys.take (16 * D) ++ List.replicate 192 65535 from by unfold padW; rw [HYL.out, HD.out]]; exact h) (by intro hn; rw [hn] at q1; obtain ⟨_, _, h⟩ := ownsRow_succ (k := 16 * D + 191) q1; cases h); rw [show (padW ys).length = 16 * (D + 12) by rw [padW_len, HYL.out, HD.out]]; have HA22 := Lib.hid ha22; have K22 := Lib.hid ((((Keeps.refl [] w8).drewN 1).trans0 K20.out).grown q2 (fun k e => by cases e)); clear q1 q2 ha22)
        | (go_simp; go_at_call 7; refine (slotsN_anyT M D _ HDs.out HMB.out.2).mono ?_; rintro e w' ⟨rfl, rfl⟩)
        | (go_simp; go_at_call 8; refine (gblank_any 12 _ (by omega)).mono ?_; rintro e w20 ⟨g20, c20, rfl, hA, k20, hg20⟩; simp only [Nat.reduceMul]; have HA20 := Lib.hid (show Arr w20 g20 c20 (List.replicate 192 65535) from hA); have K20 := Lib.hid (show Keeps [] w8.drew w20 from k20); clear hA k20))
      all_goals (go_wp2_with fail; go_meet; exact ⟨g22, c22, rfl, HA22.out, K22.out⟩)
  case rest =>
  obtain ⟨g8, c8, rfl, ha8, k8⟩ := hcut
  have HA8 := Lib.hid ha8
  have HF8 := Lib.hid (HF.out.keep k8 (by simp))
  have K9 := Lib.hid (K8.out.trans0 k8)
  clear ha8 k8 d0 d1 d4 hw1 hd0 hd1 hd2
  generalize wc = w9 at *
  have HPL := Lib.hid (show (padW ys).length = 16 * (D + 12) by rw [padW_len, HYL.out, HD.out])
  go_upto_region 9 with (go_at_call 9; refine (ints_any _ _ _ (padW ys) _ (by have h := HA8.out.ints; rw [HPL.out] at h; exact h) (by omega)).mono ?_; rw [HPL.out]; rintro e w10 ⟨v, rfl, g, c', rfl, hg, hA, k1⟩; have HM0 := Lib.hid hA; have HGS := Lib.hid hg; have K10 := Lib.hid (K9.out.trans0 k1); have KM := Lib.hid k1; have HF10 := Lib.hid (HF8.out.keep k1 (by simp)); clear hg hA k1)
  have hGs : w2.heap.size < g := by have h1 := HF8.out.lt; have h2 := HGS.out; omega
  have hgw : w.heap.size ≤ g := by have h1 := K9.out.size; have h2 := HGS.out; omega
  have HGs := Lib.hid hGs
  have HGw := Lib.hid hgw
  clear hGs hgw
  go_wp2_with fail
  go_loopw [9] (fun vi wr => ∃ (i : Nat), i ≤ TN ∧ vi = .int .i64 i ∧ Arr wr g c' (withB (padW ys) (16 * S.free) ((tornsL ts).take i).flatten) ∧ Keeps [g] w10 wr) (fun vi _ => TN - (intOf vi).toNat)
  case atStart =>
    refine ⟨0, Nat.zero_le _, rfl, ?_, Keeps.refl _ _⟩
    have h := HM0.out
    rw [show withB (padW ys) (16 * S.free) ((tornsL ts).take 0).flatten = padW ys from by
      have h2 := withB_nil (padW ys) (16 * S.free) [] (by rw [HPL.out]; omega)
      simpa using h2]
    exact h
  case round =>
    obtain ⟨i, hi, rfl, har, hkk⟩ := hrel
    have HKK := Lib.hid hkk
    have HAR := Lib.hid har
    clear har hkk
    by_cases hlt : i < TN
    · have hl1 : (i : Int) < (nt : Int) := by omega
      have hl2 : (i : Int) < 3 := by omega
      obtain ⟨x, hx⟩ : ∃ x, x = ts.getD i 0 := ⟨_, rfl⟩
      have hbd := among_bd x
      obtain ⟨p, hp⟩ := Int.eq_ofNat_of_zero_le hbd.1.1
      obtain ⟨V, hV⟩ : ∃ V, V = amongI x 65535 := ⟨_, rfl⟩
      have hp16 : p < 16 := by omega
      obtain ⟨tb, to', rfl⟩ := HTI.out.addr (by omega)
      have htb : tb ∉ [g] := by
        have h1 := ints_lt HTI.out (by omega) tb to' none rfl
        have h2 := HGw.out
        intro hb
        rw [List.mem_singleton] at hb
        omega
      have hcx : wr.cell? ⟨tb, to' + i, none⟩ = some (.int .i64 x) := by
        have h := ((HTI.out.keep0 K10.out).keep HKK.out (by rintro b o s e; injection e with e; injection e with e1 e2 e3; subst e1; exact htb)).2.2 tb to' none rfl (List.ne_nil_of_length_pos (by have := HNTL.out; omega))
        rw [hx]
        exact h.2 i (by have := HNTL.out; omega)
      have hTi : ((tornsL ts).take i).length = i := by rw [List.length_take, tornsL_len]; have := HTN.out; omega
      have hTt := torns_take (ts := ts) (i := i) (by have := HTN.out; omega)
      have h16 : ∀ s ∈ (tornsL ts).take i, s.length = 16 := fun s hs => tornsL_16 ts s (List.mem_of_mem_take hs)
      have hset := torn_set (zs := padW ys) (F := S.free) (p := p) (v := V) h16 hp16 (by rw [hTi, HPL.out]; omega) (fun j hj => HTB.out _ (by omega) (by rw [hTi]; omega))
      rw [hTi] at hset
      have htt : (tornsL ts).take (i + 1) = (tornsL ts).take i ++ [tornS p V] := by rw [hTt, ← hx, hp, ← hV]; rfl
      rw [← htt] at hset
      have hwl : (withB (padW ys) (16 * S.free) ((tornsL ts).take i).flatten).length = 16 * (D + 12) := by rw [withB_len (by rw [flat16 h16, hTi, HPL.out]; omega), HPL.out]
      have hpl : 16 * (S.free + i) + p < (withB (padW ys) (16 * S.free) ((tornsL ts).take i).flatten).length := by rw [hwl]; omega
      have hcm : wr.cell? ⟨g, 16 * (S.free + i) + p, none⟩ = some (.int .i64 ((withB (padW ys) (16 * S.free) ((tornsL ts).take i).flatten).getD (16 * (S.free + i) + p) 0)) := HAR.out.cell hpl
      have hfm := HAR.out.frozen (16 * (S.free + i) + p)
      have HSET := Lib.hid (show Arr (wr.setCell ⟨g, 16 * (S.free + i) + p, none⟩ (.int .i64 V)) g c' (withB (padW ys) (16 * S.free) ((tornsL ts).take (i + 1)).flatten) from by have h := HAR.out.set hpl V; rw [hset] at h; exact h)
      have HKS := Lib.hid (HKK.out.setCell (p := ⟨g, 16 * (S.free + i) + p, none⟩) (.inl (by simp)) (.int .i64 V))
      have hcf : wr.cell? ⟨w2.heap.size, 47, none⟩ = some (.int .i64 (S.free : Int)) := ((HF10.out.keep HKK.out (by have := HGs.out; simp; omega)).free HSL.out)
      obtain ⟨Y, hY⟩ : ∃ Y, Y = (withB (padW ys) (16 * S.free) ((tornsL ts).take i).flatten).getD (16 * (S.free + i) + p) 0 := ⟨_, rfl⟩
      rw [← hY] at hcm
      have HP := Lib.hid hp
      have HV := Lib.hid hV.symm
      have hs1' : IntKind.i64.wrap ((S.free : Int) + (i : Int)) = (S.free : Int) + (i : Int) := IntWalk.i64_in _ (by omega)
      have hs2 : IntKind.i64.wrap (((S.free : Int) + (i : Int)) * 16) = ((S.free : Int) + (i : Int)) * 16 := IntWalk.i64_in _ (by omega)
      have hs3 : IntKind.i64.wrap (((S.free : Int) + (i : Int)) * 16 + (p : Int)) = ((S.free : Int) + (i : Int)) * 16 + (p : Int) := IntWalk.i64_in _ (by omega)
      have hs4 : (((S.free : Int) + (i : Int)) * 16 + (p : Int)).toNat = 16 * (S.free + i) + p := by omega
      have hs5 : (0 : Int) ≤ ((S.free : Int) + (i : Int)) * 16 + (p : Int) := by omega
      have hs6 : ((S.free : Int) + (i : Int)) * 16 + (p : Int) < 16 * ((D : Int) + 12) := by omega
      clear hx hbd hp hV htb hTi hTt h16 hset htt hwl hpl hY
      go_upto_region 12 with fail
      go_still_tail 18, (by kernel_rfl)
      still_call (among_pos x p _ HP.out)
      repeat still_step
      still_call (among_val x V _ HV.out)
      repeat still_step
      refine wpStill_nil ?_
      go_wp2_with fail
      go_roundw
      case rel => exact ⟨i + 1, by omega, by go_num, HSET.out.keep (F := []) (Keeps.refl _ _).drew (by simp), HKS.out.drew⟩
      case measure => simp [intOf]; omega
    · have hiT : i = TN := by omega
      subst hiT
      clear hlt
      have HX := Lib.hid (torn_facts ys ts among_bd H64.out)
      obtain ⟨zs, hzs⟩ : ∃ zs, zs = tornW ys ts := ⟨_, rfl⟩
      have hzr := HAR.out
      rw [List.take_of_length_le (by rw [tornsL_len]; have := HTN.out; omega), HS.out, show withB (padW ys) (16 * (scanR ys).free) (tornsL ts).flatten = tornW ys ts from rfl, ← hzs] at hzr
      have hzl : zs.length = 16 * (D + 12) := by rw [hzs]; exact HTL.out
      have hsz : scanR zs = { S with free := S.free + i } := by rw [hzs]; have h := HTS.out; rw [HS.out] at h; rw [HS.out]; exact h
      have HR := Lib.hid hzr
      have HZL := Lib.hid hzl
      have H64Z := Lib.hid (show ∀ x ∈ zs, I64 x by rw [hzs]; exact HX.out)
      obtain ⟨S2, hS2⟩ : ∃ S2, S2 = ({ S with free := S.free + i } : Fnd) := ⟨_, rfl⟩
      have HSC := Lib.hid (hsz.trans hS2.symm)
      have HSL2 := Lib.hid (show S2.live.length = 44 by rw [hS2]; exact HSL.out)
      obtain ⟨F2, hF2⟩ : ∃ F2, F2 = S2.free := ⟨_, rfl⟩
      have hF2v : F2 = S.free + i := by rw [hF2, hS2]
      have HF2 := Lib.hid hF2
      have HS2 := Lib.hid hS2
      have IZ := Lib.hid (show IntsAt wr (some ⟨g, 0, none⟩) (16 * (D + 12)) zs by have h := hzr.ints; rw [hzl] at h; exact h)
      have LZ := Lib.hid (show 16 * (D + 12) ≤ c' ∧ c' ≤ maxLen by have h := hzr.le; rw [hzl] at h; exact ⟨h, hzr.cm⟩)
      have HFR := Lib.hid (HF10.out.keep HKK.out (by have := HGs.out; simp; omega))
      have KR := Lib.hid (K10.out.trans HKK.out (by intro x hx; right; rw [List.mem_singleton] at hx; subst hx; exact HGw.out))
      obtain ⟨AT, hAT⟩ : ∃ AT, AT = 16 * (S.free + i) := ⟨_, rfl⟩
      obtain ⟨gl, hgl⟩ : ∃ gl, gl = (putSlots (S.seq + 1) false (allL more)).flatten := ⟨_, rfl⟩
      have hlen : (allL more).length = 4 := by simp [allL]
      have hglL : gl.length = 80 := by rw [hgl, putSlots_flat (allL_len more), hlen]
      have HG := Lib.hid (show (0, gl, (AT : Int)) = gputR zs (S.seq + 1) false (allL more) by
        have h := HTP.out.1
        rw [hzs, hgl, hAT]
        rw [show (((16 * (S.free + i) : Nat)) : Int) = 16 * ((S.free + i : Nat) : Int) by omega]
        exact h.symm)
      have hq2 : 0 ≤ S.seq + 1 ∧ S.seq + 1 ≤ 4294967295 := by omega
      have HWS := Lib.hid (show ∀ x ∈ gl, 0 ≤ x ∧ x ≤ 65535 by rw [hgl]; exact puts_words (by omega) hq2 (by have h := allL_ok more hq2 (k := 4) (by omega); rwa [List.take_of_length_le (by omega)] at h))
      have HBL := Lib.hid (show ∀ j, j < gl.length → zs.getD (AT + j) 0 = 65535 from fun j hj => free_words zs (by rw [hsz, hAT]; show 16 * (S.free + i) ≤ _; omega) (by rw [hzl]; omega))
      obtain ⟨S3, hS3⟩ : ∃ S3, S3 = (⟨true, S.seq + 1, liveRecs S.live (allL more), S.com + 1, S.free + i + 4 + 1⟩ : Fnd) := ⟨_, rfl⟩
      have HSC3 := Lib.hid (show scanR (withB zs AT gl) = S3 by
        have h := HTP.out.2
        rw [hzs, hgl, hAT, hS3]
        exact h)
      have HSL3 := Lib.hid (show S3.live.length = 44 by rw [hS3]; exact liveRecs_len HSL.out (allL_kind more))
      obtain ⟨V, hV⟩ : ∃ V, V = amongI more 65536 := ⟨_, rfl⟩
      have HLV := Lib.hid (show S3.live.getD 0 0 = V by
        rw [hS3, hV]
        have h := (live_all S.live HSL.out more).1
        rw [show wrap64 more = more from wrapT_64 HM64.out] at h
        exact h)
      have HV := Lib.hid hV.symm
      have HS3 := Lib.hid (show S3.has = true ∧ S3.com = S.com + 1 by rw [hS3]; exact ⟨rfl, rfl⟩)
      have HGL := Lib.hid hglL
      have HQ := Lib.hid (show I64 (S.seq + 1) by unfold I64; omega)
      have HFIT := Lib.hid (show AT + gl.length ≤ zs.length by rw [hglL, hzl, hAT]; omega)
      have hgs := HGs.out
      have hgs2 : g ≠ w2.heap.size := by omega
      clear hzs hzr hzl hsz hS2 hF2 hAT hgl hlen hglL hq2 hS3 hV hgs
      have hcases : (nt = 0 ∧ i = 0) ∨ (nt = 1 ∧ i = 1) ∨ (nt = 2 ∧ i = 2) ∨ (nt = 3 ∧ i = 3) ∨ (3 < nt ∧ i = 3) := by have h1 := HTN.out; have h2 := HNTL.out; omega
      rcases hcases with h | h | h | h | h
      · obtain ⟨rfl, rfl⟩ := h
        as_aux_lemma =>
          have hf2 : (F2 : Int) = (S.free : Int) + 0 := by omega
          have HF2I := Lib.hid hf2
          have hF64 : (F2 : Int) ≤ 1000 := by omega
          have hneF : ((F2 : Int) != (S.free : Int)) = false := by rw [hf2]; simp
          have hwF : IntKind.i64.wrap ((S.free : Int) + 0) = (S.free : Int) + 0 := IntWalk.i64_in _ (by omega)
          clear hF2v hf2
          go_upto_region 15 with (first
            | (go_at_call 6; refine (scan_any _ (16 * (D + 12)) c' zs _ (HT.out.keep KR.out) IZ.out LZ.out.1 LZ.out.2 H64Z.out).mono ?_; rw [HSC.out]; rintro e w12 ⟨rfl, k12⟩; have h7 : FAt (w12.alloc (.cells (fndV fnd0) 28)) w12.heap.size 28 [] fnd0 := heap_alloc_new w12 _; have hv7 : FAt (w12.alloc (.cells (fndV fnd0) 28)) w2.heap.size 28 [] S := heap_alloc_held (HFR.out.keep k12 (by simp)) _; have hl7 : w2.heap.size < w12.heap.size := (HFR.out.keep k12 (by simp)).lt; have K12 := Lib.hid k12; clear k12)
            | (simp only [zeros48])
            | (refine st_fnd _ _ h7 HL0.out HSL2.out rfl rfl rfl rfl ?_; intro w13 h13 k13 s13; simp only [Act.put]; have HV13 := Lib.hid (hv7.keep k13 (by simp; omega)); have HU := Lib.hid h13; have x4 : w13.cell? ⟨w12.heap.size, 47, none⟩ = some (.int .i64 (F2 : Int)) := (by rw [HF2.out]; exact h13.free HSL2.out); have d4 : w13.cell? ⟨w2.heap.size, 47, none⟩ = some (.int .i64 (S.free : Int)) := HV13.out.free HSL.out; have ff := HU.out.frozen 47; have K13 := Lib.hid ((K12.out.alloc (.cells (fndV fnd0) 28)).trans k13 (by intro x hx; right; have := K12.out.size; simp at hx; omega)); have HLT := Lib.hid hl7; clear h13 hv7 h7 hl7 k13))
          go_upto_region 16 with fail
          have hU : FAt (w13.setCell ⟨w12.heap.size, 47, none⟩ (.int .i64 (S.free : Int))) w12.heap.size 28 [] S := (by
            have h := HU.out.setFree HSL2.out S.free
            have e : ({ S2 with free := S.free } : Fnd) = S := by rw [HS2.out]
            rw [e] at h
            exact h)
          have hV : FAt (w13.setCell ⟨w12.heap.size, 47, none⟩ (.int .i64 (S.free : Int))) w2.heap.size 28 [] S := HV13.out.keep (F := [w12.heap.size]) ((Keeps.refl _ _).setCell (.inl (by simp)) _) (by have := HLT.out; simp; omega)
          have kU : Keeps [] wr (w13.setCell ⟨w12.heap.size, 47, none⟩ (.int .i64 (S.free : Int))) := K13.out.setCell (.inr (by have := K12.out.size; simpa using this)) _
          clear x4 d4 ff
          generalize w13.setCell ⟨w12.heap.size, 47, none⟩ (.int .i64 (S.free : Int)) = w14 at *
          have d4 : w14.cell? ⟨w2.heap.size, 47, none⟩ = some (.int .i64 (S.free : Int)) := hV.free HSL.out
          have HUU := Lib.hid hU
          have HVV := Lib.hid hV
          have KU := Lib.hid kU
          clear hU hV kU
          go_upto_region 18 with (first
            | (refine ld_fnd _ HUU.out HSL.out rfl rfl rfl ?_; simp only [Act.put])
            | (refine ld_fnd _ HVV.out HSL.out rfl rfl rfl ?_; simp only [Act.put])
            | (refine ne_fnd _ _ _ HSL.out rfl rfl rfl rfl ?_; simp only [Act.put]))
          clear hneF hwF
          have d1 : w14.cell? ⟨w2.heap.size, 1, none⟩ = some (.int .i64 S.seq) := HVV.out.seq
          have d0 : w14.cell? ⟨w2.heap.size, 0, none⟩ = some (.bool true) := (by rw [← HB.out]; exact HVV.out.has)
          have hw1 : IntKind.i64.wrap (S.seq + 1) = S.seq + 1 := IntWalk.i64_in _ (by omega)
          go_cut [12, 13, 14] from 87 to 100 (fun s7 s8 s9 wx => ∃ A3 c3, s7 = .slice A3 80 c3 ∧ s8 = .int .i64 (AT : Int) ∧ s9 = .int .i64 0 ∧ IntsAt wx A3 80 gl ∧ 80 ≤ c3 ∧ c3 ≤ maxLen ∧ Keeps [] w14 wx)
          case first =>
            go_region_held3 (fun wz => wz.cell? ⟨w2.heap.size, 1, none⟩ = some (.int .i64 S.seq) ∧ wz.cell? ⟨w2.heap.size, 0, none⟩ = some (.bool true)) (first | exact ⟨d1, d0⟩ | exact ⟨p1, p0⟩ | exact ⟨q1, q0⟩ | go_keep) (first
              | (go_at_call 12; refine (all_any more _).mono ?_; rw [kinds_all]; rintro e w9 ⟨a2, c2, rfl, r2, l2, m2, k9⟩; have R2 := Lib.hid r2; have k9' := ((Keeps.refl [] w14).drewN 1).trans0 k9; have K9' := Lib.hid (show Keeps [] w14 w9 from k9'); have HF9 := Lib.hid (HVV.out.keep k9' (by simp)); have p1 : w9.cell? ⟨w2.heap.size, 1, none⟩ = some (.int .i64 S.seq) := HF9.out.seq; have p0 : w9.cell? ⟨w2.heap.size, 0, none⟩ = some (.bool true) := (by rw [← HB.out]; exact HF9.out.has); clear r2 k9 k9')
              | (go_at_call 11; refine (put_any (some ⟨g, 0, none⟩) (16 * (D + 12)) c' zs (S.seq + 1) false a2 4 c2 (allL more) _ (HT.out.keep (KR.out.trans0 (KU.out.trans0 K9'.out))) (IZ.out.keep0 (KU.out.trans0 K9'.out)) LZ.out.1 LZ.out.2 R2.out (by omega) HQ.out (allL_64 more)).mono ?_; rw [← HG.out]; rintro e w10' ⟨A3, c3, rfl, i3, k3, l3, m3⟩; have K10' := Lib.hid (K9'.out.trans0 k3); have I3 := Lib.hid i3; have L3 := Lib.hid (And.intro l3 m3); have q1 : w10'.cell? ⟨w2.heap.size, 1, none⟩ = some (.int .i64 S.seq) := (HF9.out.keep k3 (by simp)).seq; have q0 : w10'.cell? ⟨w2.heap.size, 0, none⟩ = some (.bool true) := (by rw [← HB.out]; exact (HF9.out.keep k3 (by simp)).has); clear i3 k3 l3 m3))
            all_goals (go_wp2_with fail; go_meet; exact ⟨A3, c3, (by rw [← HGL.out]), rfl, rfl, (by have h := I3.out; simp only [HGL.out] at h; exact h), (by have h := L3.out.1; simp only [HGL.out] at h; exact h), L3.out.2, K10'.out⟩)
          case rest =>
          obtain ⟨A3, c3, rfl, rfl, rfl, i3, l3, m3, k9⟩ := hcut
          have KW := Lib.hid (KU.out.trans0 k9)
          have HF15 := Lib.hid (HVV.out.keep k9 (by simp))
          have I3 := Lib.hid i3
          unfold maxLen at m3
          clear hw1 i3 k9 d0 d1 d4
          generalize wc = w15 at *
          go_upto_region 20 with (first
            | (go_at_call 13; refine (with_any (some ⟨g, 0, none⟩) (16 * (D + 12)) c' zs AT A3 80 c3 gl w15 (IZ.out.keep0 KW.out) (by omega) I3.out HFIT.out HWS.out HBL.out).mono ?_; rw [HZL.out]; rintro e w16 ⟨g5, c5, rfl, hA, k5, -⟩; have IW := Lib.hid (show IntsAt w16 (some ⟨g5, 0, none⟩) (16 * (D + 12)) (withB zs AT gl) by have h := hA.ints; rw [withB_len HFIT.out, HZL.out] at h; exact h); have LW := Lib.hid (show 16 * (D + 12) ≤ c5 ∧ c5 ≤ maxLen by have h := hA.le; rw [withB_len HFIT.out, HZL.out] at h; exact ⟨h, hA.cm⟩); have K16 := Lib.hid (KW.out.trans0 k5); have HF16 := Lib.hid (HF15.out.keep k5 (by simp)); clear hA k5)
            | (go_at_call 6; refine (scan_any _ (16 * (D + 12)) c5 (withB zs AT gl) _ (HT.out.keep (KR.out.trans0 K16.out)) IW.out LW.out.1 LW.out.2 (with_64 H64Z.out HWS.out)).mono ?_; rw [HSC3.out]; rintro e w17 ⟨rfl, k17⟩; have h7 : FAt (w17.alloc (.cells (fndV fnd0) 28)) w17.heap.size 28 [] fnd0 := heap_alloc_new w17 _; have hv7 : FAt (w17.alloc (.cells (fndV fnd0) 28)) w2.heap.size 28 [] S := heap_alloc_held (HF16.out.keep k17 (by simp)) _; have hl7 : w2.heap.size < w17.heap.size := (HF16.out.keep k17 (by simp)).lt; have K17 := Lib.hid (K16.out.trans0 k17); clear k17)
            | (simp only [zeros48])
            | (refine st_fnd _ _ h7 HL0.out HSL3.out rfl rfl rfl rfl ?_; intro w18 h18 k18 s18; simp only [Act.put]; have hv18 := hv7.keep k18 (by simp; omega); have y0 : w18.cell? ⟨w17.heap.size, 0, none⟩ = some (.bool true) := (by rw [← HS3.out.1]; exact h18.has); have y3 : w18.cell? ⟨w17.heap.size, 46, none⟩ = some (.int .i64 (S.com + 1)) := (by rw [← HS3.out.2]; exact h18.com HSL3.out); have z3 : w18.cell? ⟨w2.heap.size, 46, none⟩ = some (.int .i64 S.com) := hv18.com HSL.out; have y2 : w18.cell? ⟨w17.heap.size, 2, none⟩ = some (.int .i64 V) := (by have h := h18.live (i := 0) (by rw [HSL3.out]; omega); rw [HLV.out] at h; exact h); have K18 := Lib.hid ((K17.out.alloc (.cells (fndV fnd0) 28)).trans k18 (by intro x hx; right; have := K17.out.size; simp at hx; omega)); clear h18 hv18 hv7 h7 hl7 k18 s18))
          have hw3 : IntKind.i64.wrap (S.com + 1) = S.com + 1 := IntWalk.i64_in _ (by omega)
          go_quiet ((go_at_call 10; refine Calls.quiet_of_same (among_at65 more V _ HV.out)))
          go_wp2_with fail
          all_goals (go_ret; exact ⟨rfl, KR.out.trans0 (K18.out.drewN _)⟩)
      · obtain ⟨rfl, rfl⟩ := h
        as_aux_lemma =>
          have hf2 : (F2 : Int) = (S.free : Int) + 1 := by omega
          have HF2I := Lib.hid hf2
          have hF64 : (F2 : Int) ≤ 1000 := by omega
          have hneF : ((F2 : Int) != (S.free : Int) + 1) = false := by rw [hf2]; simp
          have hwF : IntKind.i64.wrap ((S.free : Int) + 1) = (S.free : Int) + 1 := IntWalk.i64_in _ (by omega)
          clear hF2v hf2
          go_upto_region 15 with (first
            | (go_at_call 6; refine (scan_any _ (16 * (D + 12)) c' zs _ (HT.out.keep KR.out) IZ.out LZ.out.1 LZ.out.2 H64Z.out).mono ?_; rw [HSC.out]; rintro e w12 ⟨rfl, k12⟩; have h7 : FAt (w12.alloc (.cells (fndV fnd0) 28)) w12.heap.size 28 [] fnd0 := heap_alloc_new w12 _; have hv7 : FAt (w12.alloc (.cells (fndV fnd0) 28)) w2.heap.size 28 [] S := heap_alloc_held (HFR.out.keep k12 (by simp)) _; have hl7 : w2.heap.size < w12.heap.size := (HFR.out.keep k12 (by simp)).lt; have K12 := Lib.hid k12; clear k12)
            | (simp only [zeros48])
            | (refine st_fnd _ _ h7 HL0.out HSL2.out rfl rfl rfl rfl ?_; intro w13 h13 k13 s13; simp only [Act.put]; have HV13 := Lib.hid (hv7.keep k13 (by simp; omega)); have HU := Lib.hid h13; have x4 : w13.cell? ⟨w12.heap.size, 47, none⟩ = some (.int .i64 (F2 : Int)) := (by rw [HF2.out]; exact h13.free HSL2.out); have d4 : w13.cell? ⟨w2.heap.size, 47, none⟩ = some (.int .i64 (S.free : Int)) := HV13.out.free HSL.out; have ff := HU.out.frozen 47; have K13 := Lib.hid ((K12.out.alloc (.cells (fndV fnd0) 28)).trans k13 (by intro x hx; right; have := K12.out.size; simp at hx; omega)); have HLT := Lib.hid hl7; clear h13 hv7 h7 hl7 k13))
          go_upto_region 16 with fail
          have hU : FAt (w13.setCell ⟨w12.heap.size, 47, none⟩ (.int .i64 (S.free : Int))) w12.heap.size 28 [] S := (by
            have h := HU.out.setFree HSL2.out S.free
            have e : ({ S2 with free := S.free } : Fnd) = S := by rw [HS2.out]
            rw [e] at h
            exact h)
          have hV : FAt (w13.setCell ⟨w12.heap.size, 47, none⟩ (.int .i64 (S.free : Int))) w2.heap.size 28 [] S := HV13.out.keep (F := [w12.heap.size]) ((Keeps.refl _ _).setCell (.inl (by simp)) _) (by have := HLT.out; simp; omega)
          have kU : Keeps [] wr (w13.setCell ⟨w12.heap.size, 47, none⟩ (.int .i64 (S.free : Int))) := K13.out.setCell (.inr (by have := K12.out.size; simpa using this)) _
          clear x4 d4 ff
          generalize w13.setCell ⟨w12.heap.size, 47, none⟩ (.int .i64 (S.free : Int)) = w14 at *
          have d4 : w14.cell? ⟨w2.heap.size, 47, none⟩ = some (.int .i64 (S.free : Int)) := hV.free HSL.out
          have HUU := Lib.hid hU
          have HVV := Lib.hid hV
          have KU := Lib.hid kU
          clear hU hV kU
          go_upto_region 18 with (first
            | (refine ld_fnd _ HUU.out HSL.out rfl rfl rfl ?_; simp only [Act.put])
            | (refine ld_fnd _ HVV.out HSL.out rfl rfl rfl ?_; simp only [Act.put])
            | (refine ne_fnd _ _ _ HSL.out rfl rfl rfl rfl ?_; simp only [Act.put]))
          clear hneF hwF
          have d1 : w14.cell? ⟨w2.heap.size, 1, none⟩ = some (.int .i64 S.seq) := HVV.out.seq
          have d0 : w14.cell? ⟨w2.heap.size, 0, none⟩ = some (.bool true) := (by rw [← HB.out]; exact HVV.out.has)
          have hw1 : IntKind.i64.wrap (S.seq + 1) = S.seq + 1 := IntWalk.i64_in _ (by omega)
          go_cut [12, 13, 14] from 87 to 100 (fun s7 s8 s9 wx => ∃ A3 c3, s7 = .slice A3 80 c3 ∧ s8 = .int .i64 (AT : Int) ∧ s9 = .int .i64 0 ∧ IntsAt wx A3 80 gl ∧ 80 ≤ c3 ∧ c3 ≤ maxLen ∧ Keeps [] w14 wx)
          case first =>
            go_region_held3 (fun wz => wz.cell? ⟨w2.heap.size, 1, none⟩ = some (.int .i64 S.seq) ∧ wz.cell? ⟨w2.heap.size, 0, none⟩ = some (.bool true)) (first | exact ⟨d1, d0⟩ | exact ⟨p1, p0⟩ | exact ⟨q1, q0⟩ | go_keep) (first
              | (go_at_call 12; refine (all_any more _).mono ?_; rw [kinds_all]; rintro e w9 ⟨a2, c2, rfl, r2, l2, m2, k9⟩; have R2 := Lib.hid r2; have k9' := ((Keeps.refl [] w14).drewN 1).trans0 k9; have K9' := Lib.hid (show Keeps [] w14 w9 from k9'); have HF9 := Lib.hid (HVV.out.keep k9' (by simp)); have p1 : w9.cell? ⟨w2.heap.size, 1, none⟩ = some (.int .i64 S.seq) := HF9.out.seq; have p0 : w9.cell? ⟨w2.heap.size, 0, none⟩ = some (.bool true) := (by rw [← HB.out]; exact HF9.out.has); clear r2 k9 k9')
              | (go_at_call 11; refine (put_any (some ⟨g, 0, none⟩) (16 * (D + 12)) c' zs (S.seq + 1) false a2 4 c2 (allL more) _ (HT.out.keep (KR.out.trans0 (KU.out.trans0 K9'.out))) (IZ.out.keep0 (KU.out.trans0 K9'.out)) LZ.out.1 LZ.out.2 R2.out (by omega) HQ.out (allL_64 more)).mono ?_; rw [← HG.out]; rintro e w10' ⟨A3, c3, rfl, i3, k3, l3, m3⟩; have K10' := Lib.hid (K9'.out.trans0 k3); have I3 := Lib.hid i3; have L3 := Lib.hid (And.intro l3 m3); have q1 : w10'.cell? ⟨w2.heap.size, 1, none⟩ = some (.int .i64 S.seq) := (HF9.out.keep k3 (by simp)).seq; have q0 : w10'.cell? ⟨w2.heap.size, 0, none⟩ = some (.bool true) := (by rw [← HB.out]; exact (HF9.out.keep k3 (by simp)).has); clear i3 k3 l3 m3))
            all_goals (go_wp2_with fail; go_meet; exact ⟨A3, c3, (by rw [← HGL.out]), rfl, rfl, (by have h := I3.out; simp only [HGL.out] at h; exact h), (by have h := L3.out.1; simp only [HGL.out] at h; exact h), L3.out.2, K10'.out⟩)
          case rest =>
          obtain ⟨A3, c3, rfl, rfl, rfl, i3, l3, m3, k9⟩ := hcut
          have KW := Lib.hid (KU.out.trans0 k9)
          have HF15 := Lib.hid (HVV.out.keep k9 (by simp))
          have I3 := Lib.hid i3
          unfold maxLen at m3
          clear hw1 i3 k9 d0 d1 d4
          generalize wc = w15 at *
          go_upto_region 20 with (first
            | (go_at_call 13; refine (with_any (some ⟨g, 0, none⟩) (16 * (D + 12)) c' zs AT A3 80 c3 gl w15 (IZ.out.keep0 KW.out) (by omega) I3.out HFIT.out HWS.out HBL.out).mono ?_; rw [HZL.out]; rintro e w16 ⟨g5, c5, rfl, hA, k5, -⟩; have IW := Lib.hid (show IntsAt w16 (some ⟨g5, 0, none⟩) (16 * (D + 12)) (withB zs AT gl) by have h := hA.ints; rw [withB_len HFIT.out, HZL.out] at h; exact h); have LW := Lib.hid (show 16 * (D + 12) ≤ c5 ∧ c5 ≤ maxLen by have h := hA.le; rw [withB_len HFIT.out, HZL.out] at h; exact ⟨h, hA.cm⟩); have K16 := Lib.hid (KW.out.trans0 k5); have HF16 := Lib.hid (HF15.out.keep k5 (by simp)); clear hA k5)
            | (go_at_call 6; refine (scan_any _ (16 * (D + 12)) c5 (withB zs AT gl) _ (HT.out.keep (KR.out.trans0 K16.out)) IW.out LW.out.1 LW.out.2 (with_64 H64Z.out HWS.out)).mono ?_; rw [HSC3.out]; rintro e w17 ⟨rfl, k17⟩; have h7 : FAt (w17.alloc (.cells (fndV fnd0) 28)) w17.heap.size 28 [] fnd0 := heap_alloc_new w17 _; have hv7 : FAt (w17.alloc (.cells (fndV fnd0) 28)) w2.heap.size 28 [] S := heap_alloc_held (HF16.out.keep k17 (by simp)) _; have hl7 : w2.heap.size < w17.heap.size := (HF16.out.keep k17 (by simp)).lt; have K17 := Lib.hid (K16.out.trans0 k17); clear k17)
            | (simp only [zeros48])
            | (refine st_fnd _ _ h7 HL0.out HSL3.out rfl rfl rfl rfl ?_; intro w18 h18 k18 s18; simp only [Act.put]; have hv18 := hv7.keep k18 (by simp; omega); have y0 : w18.cell? ⟨w17.heap.size, 0, none⟩ = some (.bool true) := (by rw [← HS3.out.1]; exact h18.has); have y3 : w18.cell? ⟨w17.heap.size, 46, none⟩ = some (.int .i64 (S.com + 1)) := (by rw [← HS3.out.2]; exact h18.com HSL3.out); have z3 : w18.cell? ⟨w2.heap.size, 46, none⟩ = some (.int .i64 S.com) := hv18.com HSL.out; have y2 : w18.cell? ⟨w17.heap.size, 2, none⟩ = some (.int .i64 V) := (by have h := h18.live (i := 0) (by rw [HSL3.out]; omega); rw [HLV.out] at h; exact h); have K18 := Lib.hid ((K17.out.alloc (.cells (fndV fnd0) 28)).trans k18 (by intro x hx; right; have := K17.out.size; simp at hx; omega)); clear h18 hv18 hv7 h7 hl7 k18 s18))
          have hw3 : IntKind.i64.wrap (S.com + 1) = S.com + 1 := IntWalk.i64_in _ (by omega)
          go_quiet ((go_at_call 10; refine Calls.quiet_of_same (among_at65 more V _ HV.out)))
          go_wp2_with fail
          all_goals (go_ret; exact ⟨rfl, KR.out.trans0 (K18.out.drewN _)⟩)
      · obtain ⟨rfl, rfl⟩ := h
        as_aux_lemma =>
          have hf2 : (F2 : Int) = (S.free : Int) + 2 := by omega
          have HF2I := Lib.hid hf2
          have hF64 : (F2 : Int) ≤ 1000 := by omega
          have hneF : ((F2 : Int) != (S.free : Int) + 2) = false := by rw [hf2]; simp
          have hwF : IntKind.i64.wrap ((S.free : Int) + 2) = (S.free : Int) + 2 := IntWalk.i64_in _ (by omega)
          clear hF2v hf2
          go_upto_region 15 with (first
            | (go_at_call 6; refine (scan_any _ (16 * (D + 12)) c' zs _ (HT.out.keep KR.out) IZ.out LZ.out.1 LZ.out.2 H64Z.out).mono ?_; rw [HSC.out]; rintro e w12 ⟨rfl, k12⟩; have h7 : FAt (w12.alloc (.cells (fndV fnd0) 28)) w12.heap.size 28 [] fnd0 := heap_alloc_new w12 _; have hv7 : FAt (w12.alloc (.cells (fndV fnd0) 28)) w2.heap.size 28 [] S := heap_alloc_held (HFR.out.keep k12 (by simp)) _; have hl7 : w2.heap.size < w12.heap.size := (HFR.out.keep k12 (by simp)).lt; have K12 := Lib.hid k12; clear k12)
            | (simp only [zeros48])
            | (refine st_fnd _ _ h7 HL0.out HSL2.out rfl rfl rfl rfl ?_; intro w13 h13 k13 s13; simp only [Act.put]; have HV13 := Lib.hid (hv7.keep k13 (by simp; omega)); have HU := Lib.hid h13; have x4 : w13.cell? ⟨w12.heap.size, 47, none⟩ = some (.int .i64 (F2 : Int)) := (by rw [HF2.out]; exact h13.free HSL2.out); have d4 : w13.cell? ⟨w2.heap.size, 47, none⟩ = some (.int .i64 (S.free : Int)) := HV13.out.free HSL.out; have ff := HU.out.frozen 47; have K13 := Lib.hid ((K12.out.alloc (.cells (fndV fnd0) 28)).trans k13 (by intro x hx; right; have := K12.out.size; simp at hx; omega)); have HLT := Lib.hid hl7; clear h13 hv7 h7 hl7 k13))
          go_upto_region 16 with fail
          have hU : FAt (w13.setCell ⟨w12.heap.size, 47, none⟩ (.int .i64 (S.free : Int))) w12.heap.size 28 [] S := (by
            have h := HU.out.setFree HSL2.out S.free
            have e : ({ S2 with free := S.free } : Fnd) = S := by rw [HS2.out]
            rw [e] at h
            exact h)
          have hV : FAt (w13.setCell ⟨w12.heap.size, 47, none⟩ (.int .i64 (S.free : Int))) w2.heap.size 28 [] S := HV13.out.keep (F := [w12.heap.size]) ((Keeps.refl _ _).setCell (.inl (by simp)) _) (by have := HLT.out; simp; omega)
          have kU : Keeps [] wr (w13.setCell ⟨w12.heap.size, 47, none⟩ (.int .i64 (S.free : Int))) := K13.out.setCell (.inr (by have := K12.out.size; simpa using this)) _
          clear x4 d4 ff
          generalize w13.setCell ⟨w12.heap.size, 47, none⟩ (.int .i64 (S.free : Int)) = w14 at *
          have d4 : w14.cell? ⟨w2.heap.size, 47, none⟩ = some (.int .i64 (S.free : Int)) := hV.free HSL.out
          have HUU := Lib.hid hU
          have HVV := Lib.hid hV
          have KU := Lib.hid kU
          clear hU hV kU
          go_upto_region 18 with (first
            | (refine ld_fnd _ HUU.out HSL.out rfl rfl rfl ?_; simp only [Act.put])
            | (refine ld_fnd _ HVV.out HSL.out rfl rfl rfl ?_; simp only [Act.put])
            | (refine ne_fnd _ _ _ HSL.out rfl rfl rfl rfl ?_; simp only [Act.put]))
          clear hneF hwF
          have d1 : w14.cell? ⟨w2.heap.size, 1, none⟩ = some (.int .i64 S.seq) := HVV.out.seq
          have d0 : w14.cell? ⟨w2.heap.size, 0, none⟩ = some (.bool true) := (by rw [← HB.out]; exact HVV.out.has)
          have hw1 : IntKind.i64.wrap (S.seq + 1) = S.seq + 1 := IntWalk.i64_in _ (by omega)
          go_cut [12, 13, 14] from 87 to 100 (fun s7 s8 s9 wx => ∃ A3 c3, s7 = .slice A3 80 c3 ∧ s8 = .int .i64 (AT : Int) ∧ s9 = .int .i64 0 ∧ IntsAt wx A3 80 gl ∧ 80 ≤ c3 ∧ c3 ≤ maxLen ∧ Keeps [] w14 wx)
          case first =>
            go_region_held3 (fun wz => wz.cell? ⟨w2.heap.size, 1, none⟩ = some (.int .i64 S.seq) ∧ wz.cell? ⟨w2.heap.size, 0, none⟩ = some (.bool true)) (first | exact ⟨d1, d0⟩ | exact ⟨p1, p0⟩ | exact ⟨q1, q0⟩ | go_keep) (first
              | (go_at_call 12; refine (all_any more _).mono ?_; rw [kinds_all]; rintro e w9 ⟨a2, c2, rfl, r2, l2, m2, k9⟩; have R2 := Lib.hid r2; have k9' := ((Keeps.refl [] w14).drewN 1).trans0 k9; have K9' := Lib.hid (show Keeps [] w14 w9 from k9'); have HF9 := Lib.hid (HVV.out.keep k9' (by simp)); have p1 : w9.cell? ⟨w2.heap.size, 1, none⟩ = some (.int .i64 S.seq) := HF9.out.seq; have p0 : w9.cell? ⟨w2.heap.size, 0, none⟩ = some (.bool true) := (by rw [← HB.out]; exact HF9.out.has); clear r2 k9 k9')
              | (go_at_call 11; refine (put_any (some ⟨g, 0, none⟩) (16 * (D + 12)) c' zs (S.seq + 1) false a2 4 c2 (allL more) _ (HT.out.keep (KR.out.trans0 (KU.out.trans0 K9'.out))) (IZ.out.keep0 (KU.out.trans0 K9'.out)) LZ.out.1 LZ.out.2 R2.out (by omega) HQ.out (allL_64 more)).mono ?_; rw [← HG.out]; rintro e w10' ⟨A3, c3, rfl, i3, k3, l3, m3⟩; have K10' := Lib.hid (K9'.out.trans0 k3); have I3 := Lib.hid i3; have L3 := Lib.hid (And.intro l3 m3); have q1 : w10'.cell? ⟨w2.heap.size, 1, none⟩ = some (.int .i64 S.seq) := (HF9.out.keep k3 (by simp)).seq; have q0 : w10'.cell? ⟨w2.heap.size, 0, none⟩ = some (.bool true) := (by rw [← HB.out]; exact (HF9.out.keep k3 (by simp)).has); clear i3 k3 l3 m3))
            all_goals (go_wp2_with fail; go_meet; exact ⟨A3, c3, (by rw [← HGL.out]), rfl, rfl, (by have h := I3.out; simp only [HGL.out] at h; exact h), (by have h := L3.out.1; simp only [HGL.out] at h; exact h), L3.out.2, K10'.out⟩)
          case rest =>
          obtain ⟨A3, c3, rfl, rfl, rfl, i3, l3, m3, k9⟩ := hcut
          have KW := Lib.hid (KU.out.trans0 k9)
          have HF15 := Lib.hid (HVV.out.keep k9 (by simp))
          have I3 := Lib.hid i3
          unfold maxLen at m3
          clear hw1 i3 k9 d0 d1 d4
          generalize wc = w15 at *
          go_upto_region 20 with (first
            | (go_at_call 13; refine (with_any (some ⟨g, 0, none⟩) (16 * (D + 12)) c' zs AT A3 80 c3 gl w15 (IZ.out.keep0 KW.out) (by omega) I3.out HFIT.out HWS.out HBL.out).mono ?_; rw [HZL.out]; rintro e w16 ⟨g5, c5, rfl, hA, k5, -⟩; have IW := Lib.hid (show IntsAt w16 (some ⟨g5, 0, none⟩) (16 * (D + 12)) (withB zs AT gl) by have h := hA.ints; rw [withB_len HFIT.out, HZL.out] at h; exact h); have LW := Lib.hid (show 16 * (D + 12) ≤ c5 ∧ c5 ≤ maxLen by have h := hA.le; rw [withB_len HFIT.out, HZL.out] at h; exact ⟨h, hA.cm⟩); have K16 := Lib.hid (KW.out.trans0 k5); have HF16 := Lib.hid (HF15.out.keep k5 (by simp)); clear hA k5)
            | (go_at_call 6; refine (scan_any _ (16 * (D + 12)) c5 (withB zs AT gl) _ (HT.out.keep (KR.out.trans0 K16.out)) IW.out LW.out.1 LW.out.2 (with_64 H64Z.out HWS.out)).mono ?_; rw [HSC3.out]; rintro e w17 ⟨rfl, k17⟩; have h7 : FAt (w17.alloc (.cells (fndV fnd0) 28)) w17.heap.size 28 [] fnd0 := heap_alloc_new w17 _; have hv7 : FAt (w17.alloc (.cells (fndV fnd0) 28)) w2.heap.size 28 [] S := heap_alloc_held (HF16.out.keep k17 (by simp)) _; have hl7 : w2.heap.size < w17.heap.size := (HF16.out.keep k17 (by simp)).lt; have K17 := Lib.hid (K16.out.trans0 k17); clear k17)
            | (simp only [zeros48])
            | (refine st_fnd _ _ h7 HL0.out HSL3.out rfl rfl rfl rfl ?_; intro w18 h18 k18 s18; simp only [Act.put]; have hv18 := hv7.keep k18 (by simp; omega); have y0 : w18.cell? ⟨w17.heap.size, 0, none⟩ = some (.bool true) := (by rw [← HS3.out.1]; exact h18.has); have y3 : w18.cell? ⟨w17.heap.size, 46, none⟩ = some (.int .i64 (S.com + 1)) := (by rw [← HS3.out.2]; exact h18.com HSL3.out); have z3 : w18.cell? ⟨w2.heap.size, 46, none⟩ = some (.int .i64 S.com) := hv18.com HSL.out; have y2 : w18.cell? ⟨w17.heap.size, 2, none⟩ = some (.int .i64 V) := (by have h := h18.live (i := 0) (by rw [HSL3.out]; omega); rw [HLV.out] at h; exact h); have K18 := Lib.hid ((K17.out.alloc (.cells (fndV fnd0) 28)).trans k18 (by intro x hx; right; have := K17.out.size; simp at hx; omega)); clear h18 hv18 hv7 h7 hl7 k18 s18))
          have hw3 : IntKind.i64.wrap (S.com + 1) = S.com + 1 := IntWalk.i64_in _ (by omega)
          go_quiet ((go_at_call 10; refine Calls.quiet_of_same (among_at65 more V _ HV.out)))
          go_wp2_with fail
          all_goals (go_ret; exact ⟨rfl, KR.out.trans0 (K18.out.drewN _)⟩)
      · obtain ⟨rfl, rfl⟩ := h
        as_aux_lemma =>
          have hf2 : (F2 : Int) = (S.free : Int) + 3 := by omega
          have HF2I := Lib.hid hf2
          have hF64 : (F2 : Int) ≤ 1000 := by omega
          have hneF : ((F2 : Int) != (S.free : Int) + 3) = false := by rw [hf2]; simp
          have hwF : IntKind.i64.wrap ((S.free : Int) + 3) = (S.free : Int) + 3 := IntWalk.i64_in _ (by omega)
          clear hF2v hf2
          go_upto_region 15 with (first
            | (go_at_call 6; refine (scan_any _ (16 * (D + 12)) c' zs _ (HT.out.keep KR.out) IZ.out LZ.out.1 LZ.out.2 H64Z.out).mono ?_; rw [HSC.out]; rintro e w12 ⟨rfl, k12⟩; have h7 : FAt (w12.alloc (.cells (fndV fnd0) 28)) w12.heap.size 28 [] fnd0 := heap_alloc_new w12 _; have hv7 : FAt (w12.alloc (.cells (fndV fnd0) 28)) w2.heap.size 28 [] S := heap_alloc_held (HFR.out.keep k12 (by simp)) _; have hl7 : w2.heap.size < w12.heap.size := (HFR.out.keep k12 (by simp)).lt; have K12 := Lib.hid k12; clear k12)
            | (simp only [zeros48])
            | (refine st_fnd _ _ h7 HL0.out HSL2.out rfl rfl rfl rfl ?_; intro w13 h13 k13 s13; simp only [Act.put]; have HV13 := Lib.hid (hv7.keep k13 (by simp; omega)); have HU := Lib.hid h13; have x4 : w13.cell? ⟨w12.heap.size, 47, none⟩ = some (.int .i64 (F2 : Int)) := (by rw [HF2.out]; exact h13.free HSL2.out); have d4 : w13.cell? ⟨w2.heap.size, 47, none⟩ = some (.int .i64 (S.free : Int)) := HV13.out.free HSL.out; have ff := HU.out.frozen 47; have K13 := Lib.hid ((K12.out.alloc (.cells (fndV fnd0) 28)).trans k13 (by intro x hx; right; have := K12.out.size; simp at hx; omega)); have HLT := Lib.hid hl7; clear h13 hv7 h7 hl7 k13))
          go_upto_region 16 with fail
          have hU : FAt (w13.setCell ⟨w12.heap.size, 47, none⟩ (.int .i64 (S.free : Int))) w12.heap.size 28 [] S := (by
            have h := HU.out.setFree HSL2.out S.free
            have e : ({ S2 with free := S.free } : Fnd) = S := by rw [HS2.out]
            rw [e] at h
            exact h)
          have hV : FAt (w13.setCell ⟨w12.heap.size, 47, none⟩ (.int .i64 (S.free : Int))) w2.heap.size 28 [] S := HV13.out.keep (F := [w12.heap.size]) ((Keeps.refl _ _).setCell (.inl (by simp)) _) (by have := HLT.out; simp; omega)
          have kU : Keeps [] wr (w13.setCell ⟨w12.heap.size, 47, none⟩ (.int .i64 (S.free : Int))) := K13.out.setCell (.inr (by have := K12.out.size; simpa using this)) _
          clear x4 d4 ff
          generalize w13.setCell ⟨w12.heap.size, 47, none⟩ (.int .i64 (S.free : Int)) = w14 at *
          have d4 : w14.cell? ⟨w2.heap.size, 47, none⟩ = some (.int .i64 (S.free : Int)) := hV.free HSL.out
          have HUU := Lib.hid hU
          have HVV := Lib.hid hV
          have KU := Lib.hid kU
          clear hU hV kU
          go_upto_region 18 with (first
            | (refine ld_fnd _ HUU.out HSL.out rfl rfl rfl ?_; simp only [Act.put])
            | (refine ld_fnd _ HVV.out HSL.out rfl rfl rfl ?_; simp only [Act.put])
            | (refine ne_fnd _ _ _ HSL.out rfl rfl rfl rfl ?_; simp only [Act.put]))
          clear hneF hwF
          have d1 : w14.cell? ⟨w2.heap.size, 1, none⟩ = some (.int .i64 S.seq) := HVV.out.seq
          have d0 : w14.cell? ⟨w2.heap.size, 0, none⟩ = some (.bool true) := (by rw [← HB.out]; exact HVV.out.has)
          have hw1 : IntKind.i64.wrap (S.seq + 1) = S.seq + 1 := IntWalk.i64_in _ (by omega)
          go_cut [12, 13, 14] from 87 to 100 (fun s7 s8 s9 wx => ∃ A3 c3, s7 = .slice A3 80 c3 ∧ s8 = .int .i64 (AT : Int) ∧ s9 = .int .i64 0 ∧ IntsAt wx A3 80 gl ∧ 80 ≤ c3 ∧ c3 ≤ maxLen ∧ Keeps [] w14 wx)
          case first =>
            go_region_held3 (fun wz => wz.cell? ⟨w2.heap.size, 1, none⟩ = some (.int .i64 S.seq) ∧ wz.cell? ⟨w2.heap.size, 0, none⟩ = some (.bool true)) (first | exact ⟨d1, d0⟩ | exact ⟨p1, p0⟩ | exact ⟨q1, q0⟩ | go_keep) (first
              | (go_at_call 12; refine (all_any more _).mono ?_; rw [kinds_all]; rintro e w9 ⟨a2, c2, rfl, r2, l2, m2, k9⟩; have R2 := Lib.hid r2; have k9' := ((Keeps.refl [] w14).drewN 1).trans0 k9; have K9' := Lib.hid (show Keeps [] w14 w9 from k9'); have HF9 := Lib.hid (HVV.out.keep k9' (by simp)); have p1 : w9.cell? ⟨w2.heap.size, 1, none⟩ = some (.int .i64 S.seq) := HF9.out.seq; have p0 : w9.cell? ⟨w2.heap.size, 0, none⟩ = some (.bool true) := (by rw [← HB.out]; exact HF9.out.has); clear r2 k9 k9')
              | (go_at_call 11; refine (put_any (some ⟨g, 0, none⟩) (16 * (D + 12)) c' zs (S.seq + 1) false a2 4 c2 (allL more) _ (HT.out.keep (KR.out.trans0 (KU.out.trans0 K9'.out))) (IZ.out.keep0 (KU.out.trans0 K9'.out)) LZ.out.1 LZ.out.2 R2.out (by omega) HQ.out (allL_64 more)).mono ?_; rw [← HG.out]; rintro e w10' ⟨A3, c3, rfl, i3, k3, l3, m3⟩; have K10' := Lib.hid (K9'.out.trans0 k3); have I3 := Lib.hid i3; have L3 := Lib.hid (And.intro l3 m3); have q1 : w10'.cell? ⟨w2.heap.size, 1, none⟩ = some (.int .i64 S.seq) := (HF9.out.keep k3 (by simp)).seq; have q0 : w10'.cell? ⟨w2.heap.size, 0, none⟩ = some (.bool true) := (by rw [← HB.out]; exact (HF9.out.keep k3 (by simp)).has); clear i3 k3 l3 m3))
            all_goals (go_wp2_with fail; go_meet; exact ⟨A3, c3, (by rw [← HGL.out]), rfl, rfl, (by have h := I3.out; simp only [HGL.out] at h; exact h), (by have h := L3.out.1; simp only [HGL.out] at h; exact h), L3.out.2, K10'.out⟩)
          case rest =>
          obtain ⟨A3, c3, rfl, rfl, rfl, i3, l3, m3, k9⟩ := hcut
          have KW := Lib.hid (KU.out.trans0 k9)
          have HF15 := Lib.hid (HVV.out.keep k9 (by simp))
          have I3 := Lib.hid i3
          unfold maxLen at m3
          clear hw1 i3 k9 d0 d1 d4
          generalize wc = w15 at *
          go_upto_region 20 with (first
            | (go_at_call 13; refine (with_any (some ⟨g, 0, none⟩) (16 * (D + 12)) c' zs AT A3 80 c3 gl w15 (IZ.out.keep0 KW.out) (by omega) I3.out HFIT.out HWS.out HBL.out).mono ?_; rw [HZL.out]; rintro e w16 ⟨g5, c5, rfl, hA, k5, -⟩; have IW := Lib.hid (show IntsAt w16 (some ⟨g5, 0, none⟩) (16 * (D + 12)) (withB zs AT gl) by have h := hA.ints; rw [withB_len HFIT.out, HZL.out] at h; exact h); have LW := Lib.hid (show 16 * (D + 12) ≤ c5 ∧ c5 ≤ maxLen by have h := hA.le; rw [withB_len HFIT.out, HZL.out] at h; exact ⟨h, hA.cm⟩); have K16 := Lib.hid (KW.out.trans0 k5); have HF16 := Lib.hid (HF15.out.keep k5 (by simp)); clear hA k5)
            | (go_at_call 6; refine (scan_any _ (16 * (D + 12)) c5 (withB zs AT gl) _ (HT.out.keep (KR.out.trans0 K16.out)) IW.out LW.out.1 LW.out.2 (with_64 H64Z.out HWS.out)).mono ?_; rw [HSC3.out]; rintro e w17 ⟨rfl, k17⟩; have h7 : FAt (w17.alloc (.cells (fndV fnd0) 28)) w17.heap.size 28 [] fnd0 := heap_alloc_new w17 _; have hv7 : FAt (w17.alloc (.cells (fndV fnd0) 28)) w2.heap.size 28 [] S := heap_alloc_held (HF16.out.keep k17 (by simp)) _; have hl7 : w2.heap.size < w17.heap.size := (HF16.out.keep k17 (by simp)).lt; have K17 := Lib.hid (K16.out.trans0 k17); clear k17)
            | (simp only [zeros48])
            | (refine st_fnd _ _ h7 HL0.out HSL3.out rfl rfl rfl rfl ?_; intro w18 h18 k18 s18; simp only [Act.put]; have hv18 := hv7.keep k18 (by simp; omega); have y0 : w18.cell? ⟨w17.heap.size, 0, none⟩ = some (.bool true) := (by rw [← HS3.out.1]; exact h18.has); have y3 : w18.cell? ⟨w17.heap.size, 46, none⟩ = some (.int .i64 (S.com + 1)) := (by rw [← HS3.out.2]; exact h18.com HSL3.out); have z3 : w18.cell? ⟨w2.heap.size, 46, none⟩ = some (.int .i64 S.com) := hv18.com HSL.out; have y2 : w18.cell? ⟨w17.heap.size, 2, none⟩ = some (.int .i64 V) := (by have h := h18.live (i := 0) (by rw [HSL3.out]; omega); rw [HLV.out] at h; exact h); have K18 := Lib.hid ((K17.out.alloc (.cells (fndV fnd0) 28)).trans k18 (by intro x hx; right; have := K17.out.size; simp at hx; omega)); clear h18 hv18 hv7 h7 hl7 k18 s18))
          have hw3 : IntKind.i64.wrap (S.com + 1) = S.com + 1 := IntWalk.i64_in _ (by omega)
          go_quiet ((go_at_call 10; refine Calls.quiet_of_same (among_at65 more V _ HV.out)))
          go_wp2_with fail
          all_goals (go_ret; exact ⟨rfl, KR.out.trans0 (K18.out.drewN _)⟩)
      · obtain ⟨h3, rfl⟩ := h
        have h3' : (3 : Int) < (nt : Int) := by omega
        have h3'' : ¬ (nt : Int) < 3 := by omega
        as_aux_lemma =>
          have hf2 : (F2 : Int) = (S.free : Int) + 3 := by omega
          have HF2I := Lib.hid hf2
          have hF64 : (F2 : Int) ≤ 1000 := by omega
          have hneF : ((F2 : Int) != (S.free : Int) + 3) = false := by rw [hf2]; simp
          have hwF : IntKind.i64.wrap ((S.free : Int) + 3) = (S.free : Int) + 3 := IntWalk.i64_in _ (by omega)
          clear hF2v hf2
          go_upto_region 15 with (first
            | (go_at_call 6; refine (scan_any _ (16 * (D + 12)) c' zs _ (HT.out.keep KR.out) IZ.out LZ.out.1 LZ.out.2 H64Z.out).mono ?_; rw [HSC.out]; rintro e w12 ⟨rfl, k12⟩; have h7 : FAt (w12.alloc (.cells (fndV fnd0) 28)) w12.heap.size 28 [] fnd0 := heap_alloc_new w12 _; have hv7 : FAt (w12.alloc (.cells (fndV fnd0) 28)) w2.heap.size 28 [] S := heap_alloc_held (HFR.out.keep k12 (by simp)) _; have hl7 : w2.heap.size < w12.heap.size := (HFR.out.keep k12 (by simp)).lt; have K12 := Lib.hid k12; clear k12)
            | (simp only [zeros48])
            | (refine st_fnd _ _ h7 HL0.out HSL2.out rfl rfl rfl rfl ?_; intro w13 h13 k13 s13; simp only [Act.put]; have HV13 := Lib.hid (hv7.keep k13 (by simp; omega)); have HU := Lib.hid h13; have x4 : w13.cell? ⟨w12.heap.size, 47, none⟩ = some (.int .i64 (F2 : Int)) := (by rw [HF2.out]; exact h13.free HSL2.out); have d4 : w13.cell? ⟨w2.heap.size, 47, none⟩ = some (.int .i64 (S.free : Int)) := HV13.out.free HSL.out; have ff := HU.out.frozen 47; have K13 := Lib.hid ((K12.out.alloc (.cells (fndV fnd0) 28)).trans k13 (by intro x hx; right; have := K12.out.size; simp at hx; omega)); have HLT := Lib.hid hl7; clear h13 hv7 h7 hl7 k13))
          go_upto_region 16 with fail
          have hU : FAt (w13.setCell ⟨w12.heap.size, 47, none⟩ (.int .i64 (S.free : Int))) w12.heap.size 28 [] S := (by
            have h := HU.out.setFree HSL2.out S.free
            have e : ({ S2 with free := S.free } : Fnd) = S := by rw [HS2.out]
            rw [e] at h
            exact h)
          have hV : FAt (w13.setCell ⟨w12.heap.size, 47, none⟩ (.int .i64 (S.free : Int))) w2.heap.size 28 [] S := HV13.out.keep (F := [w12.heap.size]) ((Keeps.refl _ _).setCell (.inl (by simp)) _) (by have := HLT.out; simp; omega)
          have kU : Keeps [] wr (w13.setCell ⟨w12.heap.size, 47, none⟩ (.int .i64 (S.free : Int))) := K13.out.setCell (.inr (by have := K12.out.size; simpa using this)) _
          clear x4 d4 ff
          generalize w13.setCell ⟨w12.heap.size, 47, none⟩ (.int .i64 (S.free : Int)) = w14 at *
          have d4 : w14.cell? ⟨w2.heap.size, 47, none⟩ = some (.int .i64 (S.free : Int)) := hV.free HSL.out
          have HUU := Lib.hid hU
          have HVV := Lib.hid hV
          have KU := Lib.hid kU
          clear hU hV kU
          go_upto_region 18 with (first
            | (refine ld_fnd _ HUU.out HSL.out rfl rfl rfl ?_; simp only [Act.put])
            | (refine ld_fnd _ HVV.out HSL.out rfl rfl rfl ?_; simp only [Act.put])
            | (refine ne_fnd _ _ _ HSL.out rfl rfl rfl rfl ?_; simp only [Act.put]))
          clear hneF hwF
          have d1 : w14.cell? ⟨w2.heap.size, 1, none⟩ = some (.int .i64 S.seq) := HVV.out.seq
          have d0 : w14.cell? ⟨w2.heap.size, 0, none⟩ = some (.bool true) := (by rw [← HB.out]; exact HVV.out.has)
          have hw1 : IntKind.i64.wrap (S.seq + 1) = S.seq + 1 := IntWalk.i64_in _ (by omega)
          go_cut [12, 13, 14] from 87 to 100 (fun s7 s8 s9 wx => ∃ A3 c3, s7 = .slice A3 80 c3 ∧ s8 = .int .i64 (AT : Int) ∧ s9 = .int .i64 0 ∧ IntsAt wx A3 80 gl ∧ 80 ≤ c3 ∧ c3 ≤ maxLen ∧ Keeps [] w14 wx)
          case first =>
            go_region_held3 (fun wz => wz.cell? ⟨w2.heap.size, 1, none⟩ = some (.int .i64 S.seq) ∧ wz.cell? ⟨w2.heap.size, 0, none⟩ = some (.bool true)) (first | exact ⟨d1, d0⟩ | exact ⟨p1, p0⟩ | exact ⟨q1, q0⟩ | go_keep) (first
              | (go_at_call 12; refine (all_any more _).mono ?_; rw [kinds_all]; rintro e w9 ⟨a2, c2, rfl, r2, l2, m2, k9⟩; have R2 := Lib.hid r2; have k9' := ((Keeps.refl [] w14).drewN 1).trans0 k9; have K9' := Lib.hid (show Keeps [] w14 w9 from k9'); have HF9 := Lib.hid (HVV.out.keep k9' (by simp)); have p1 : w9.cell? ⟨w2.heap.size, 1, none⟩ = some (.int .i64 S.seq) := HF9.out.seq; have p0 : w9.cell? ⟨w2.heap.size, 0, none⟩ = some (.bool true) := (by rw [← HB.out]; exact HF9.out.has); clear r2 k9 k9')
              | (go_at_call 11; refine (put_any (some ⟨g, 0, none⟩) (16 * (D + 12)) c' zs (S.seq + 1) false a2 4 c2 (allL more) _ (HT.out.keep (KR.out.trans0 (KU.out.trans0 K9'.out))) (IZ.out.keep0 (KU.out.trans0 K9'.out)) LZ.out.1 LZ.out.2 R2.out (by omega) HQ.out (allL_64 more)).mono ?_; rw [← HG.out]; rintro e w10' ⟨A3, c3, rfl, i3, k3, l3, m3⟩; have K10' := Lib.hid (K9'.out.trans0 k3); have I3 := Lib.hid i3; have L3 := Lib.hid (And.intro l3 m3); have q1 : w10'.cell? ⟨w2.heap.size, 1, none⟩ = some (.int .i64 S.seq) := (HF9.out.keep k3 (by simp)).seq; have q0 : w10'.cell? ⟨w2.heap.size, 0, none⟩ = some (.bool true) := (by rw [← HB.out]; exact (HF9.out.keep k3 (by simp)).has); clear i3 k3 l3 m3))
            all_goals (go_wp2_with fail; go_meet; exact ⟨A3, c3, (by rw [← HGL.out]), rfl, rfl, (by have h := I3.out; simp only [HGL.out] at h; exact h), (by have h := L3.out.1; simp only [HGL.out] at h; exact h), L3.out.2, K10'.out⟩)
          case rest =>
          obtain ⟨A3, c3, rfl, rfl, rfl, i3, l3, m3, k9⟩ := hcut
          have KW := Lib.hid (KU.out.trans0 k9)
          have HF15 := Lib.hid (HVV.out.keep k9 (by simp))
          have I3 := Lib.hid i3
          unfold maxLen at m3
          clear hw1 i3 k9 d0 d1 d4
          generalize wc = w15 at *
          go_upto_region 20 with (first
            | (go_at_call 13; refine (with_any (some ⟨g, 0, none⟩) (16 * (D + 12)) c' zs AT A3 80 c3 gl w15 (IZ.out.keep0 KW.out) (by omega) I3.out HFIT.out HWS.out HBL.out).mono ?_; rw [HZL.out]; rintro e w16 ⟨g5, c5, rfl, hA, k5, -⟩; have IW := Lib.hid (show IntsAt w16 (some ⟨g5, 0, none⟩) (16 * (D + 12)) (withB zs AT gl) by have h := hA.ints; rw [withB_len HFIT.out, HZL.out] at h; exact h); have LW := Lib.hid (show 16 * (D + 12) ≤ c5 ∧ c5 ≤ maxLen by have h := hA.le; rw [withB_len HFIT.out, HZL.out] at h; exact ⟨h, hA.cm⟩); have K16 := Lib.hid (KW.out.trans0 k5); have HF16 := Lib.hid (HF15.out.keep k5 (by simp)); clear hA k5)
            | (go_at_call 6; refine (scan_any _ (16 * (D + 12)) c5 (withB zs AT gl) _ (HT.out.keep (KR.out.trans0 K16.out)) IW.out LW.out.1 LW.out.2 (with_64 H64Z.out HWS.out)).mono ?_; rw [HSC3.out]; rintro e w17 ⟨rfl, k17⟩; have h7 : FAt (w17.alloc (.cells (fndV fnd0) 28)) w17.heap.size 28 [] fnd0 := heap_alloc_new w17 _; have hv7 : FAt (w17.alloc (.cells (fndV fnd0) 28)) w2.heap.size 28 [] S := heap_alloc_held (HF16.out.keep k17 (by simp)) _; have hl7 : w2.heap.size < w17.heap.size := (HF16.out.keep k17 (by simp)).lt; have K17 := Lib.hid (K16.out.trans0 k17); clear k17)
            | (simp only [zeros48])
            | (refine st_fnd _ _ h7 HL0.out HSL3.out rfl rfl rfl rfl ?_; intro w18 h18 k18 s18; simp only [Act.put]; have hv18 := hv7.keep k18 (by simp; omega); have y0 : w18.cell? ⟨w17.heap.size, 0, none⟩ = some (.bool true) := (by rw [← HS3.out.1]; exact h18.has); have y3 : w18.cell? ⟨w17.heap.size, 46, none⟩ = some (.int .i64 (S.com + 1)) := (by rw [← HS3.out.2]; exact h18.com HSL3.out); have z3 : w18.cell? ⟨w2.heap.size, 46, none⟩ = some (.int .i64 S.com) := hv18.com HSL.out; have y2 : w18.cell? ⟨w17.heap.size, 2, none⟩ = some (.int .i64 V) := (by have h := h18.live (i := 0) (by rw [HSL3.out]; omega); rw [HLV.out] at h; exact h); have K18 := Lib.hid ((K17.out.alloc (.cells (fndV fnd0) 28)).trans k18 (by intro x hx; right; have := K17.out.size; simp at hx; omega)); clear h18 hv18 hv7 h7 hl7 k18 s18))
          have hw3 : IntKind.i64.wrap (S.com + 1) = S.com + 1 := IntWalk.i64_in _ (by omega)
          go_quiet ((go_at_call 10; refine Calls.quiet_of_same (among_at65 more V _ HV.out)))
          go_wp2_with fail
          all_goals (go_ret; exact ⟨rfl, KR.out.trans0 (K18.out.drewN _)⟩)

set_option maxHeartbeats 4000000 in
theorem gtorn_f (a : Option Addr) (n c : Nat) (xs : List Int) (ta : Option Addr) (nt ct : Nat) (ts : List Int) (more : Int) (w : World) (ht : Turns w) (hi : IntsAt w a n xs) (hn : n ≤ c) (hc : c ≤ maxLen) (h64 : ∀ x ∈ xs, I64 x)
    (hti : IntsAt w ta nt ts) (hnt : nt ≤ ct) (hct : ct ≤ maxLen) (hm : I64 more) (hb : (scanR (xs.take (fewN n))).has = false) (hne : ¬ (scanR (xs.take (fewN n))).seq = 4294967295) :
    Calls Tryd.prog 3 #[.slice a n c, .slice ta nt ct, .int .i64 more] w fun e w' => e = .returned (.bool true) ∧ Keeps [] w w' := by
  obtain ⟨i0, hi0, hz0, hz1, hz2⟩ := info_parts Tryd.info3
  have hfn := fewN_le n
  have hit := hi.take (k := fewN n) hfn.1
  have h64t := take_64F (k := fewN n) h64
  obtain ⟨ys, hys⟩ : ∃ ys, ys = xs.take (fewN n) := ⟨_, rfl⟩
  rw [← hys] at hit h64t hb hne
  obtain ⟨M, hM⟩ : ∃ M, M = fewN n := ⟨_, rfl⟩
  have hMb : M ≤ n ∧ M ≤ 480 := by rw [hM]; exact hfn
  rw [← hM] at hit
  have hyl : ys.length = M := hit.1.symm
  have hfits : Fits (scanR ys) (ys.length / 16) := fits_scan ys
  have hTP := torn_put ys ts more among_bd (by have := hfits.seq; omega)
  have hTS := torns_scan ys ts among_bd
  have hTL := tornW_len ys ts
  have hTB := fun j (h1 : 16 * (scanR ys).free ≤ j) => padW_blank ys (j := j) h1
  obtain ⟨S, hS⟩ : ∃ S, S = scanR ys := ⟨_, rfl⟩
  obtain ⟨D, hD⟩ : ∃ D, D = M / 16 := ⟨_, rfl⟩
  rw [hyl, ← hD] at hfits hTL hTB
  rw [← hS] at hb hne hfits hTP hTS hTB
  have hD30 : D ≤ 30 := by omega
  have hSD : S.free ≤ D := hfits.free
  have hs0 : 0 ≤ S.seq := hfits.seq.1
  have hs1 : S.seq < 4294967295 := by have := hfits.seq.2; omega
  have hc0 : 0 ≤ S.com ∧ S.com ≤ 30 := by have := hfits.com; omega
  have hSL : S.live.length = 44 := hfits.live
  rw [hb] at hTP
  have hntl : nt = ts.length := hti.1
  obtain ⟨TN, hTN⟩ : ∃ TN, TN = min 3 ts.length := ⟨_, rfl⟩
  rw [← hTN] at hTP hTS
  have hTN3 : TN ≤ 3 ∧ TN ≤ nt := by omega
  have hDs : slotsI (M : Int) = (D : Int) := by rw [slotsI_nat, hD]
  have HT := Lib.hid ht
  have HI := Lib.hid hit
  have H64 := Lib.hid h64t
  have HMB := Lib.hid hMb
  have HM := Lib.hid hM
  have HN := Lib.hid hn
  have HC := Lib.hid hc
  have HS := Lib.hid hS
  have HSL := Lib.hid hSL
  have HB := Lib.hid hb
  have HYL := Lib.hid hyl
  have HD := Lib.hid hD
  have HDs := Lib.hid hDs
  have HTI := Lib.hid hti
  have HTP := Lib.hid hTP
  have HTS := Lib.hid hTS
  have HTL := Lib.hid hTL
  have HTB := Lib.hid hTB
  have HTN := Lib.hid hTN
  have HNTL := Lib.hid hntl
  have HM64 := Lib.hid hm
  have HL0 := Lib.hid (show fnd0.live.length = 44 by decide)
  have hneb : (S.seq == 4294967295) = false := by simp [hne]
  have hnt' := hnt
  have hct' := hct
  unfold maxLen at hct'
  have hmx := hMb.1
  have hDM : 16 * D ≤ M := by omega
  have hMc : M ≤ c := by omega
  clear ht hi hit h64 h64t hys hfn hMb hM hn hc hS hSL hb hyl hD hDs hti hTP hTS hTL hTB hTN hntl hm hfits hnt hct
  go_enter Tryd.func3, Tryd.ntmps3
  go_upto_region 7 with (first
    | (go_at_call 4; refine (works_any _ HT.out).mono ?_; rintro e w1 ⟨rfl, k1⟩; have K3 := Lib.hid k1; clear k1)
    | (go_at_call 5; refine (few_any _ _ _ _ HN.out HC.out).mono ?_; rw [← HM.out]; rintro e w' ⟨rfl, rfl⟩)
    | (go_at_call 6; refine (scan_any _ M c ys _ (HT.out.keep K3.out) (HI.out.keep0 K3.out) (by have := HMB.out; have := HN.out; omega) HC.out H64.out).mono ?_; rw [← HS.out]; rintro e w2 ⟨rfl, k2⟩; have h7 : FAt (w2.alloc (.cells (fndV fnd0) 28)) w2.heap.size 28 [] fnd0 := heap_alloc_new w2 _; have K2 := Lib.hid (K3.out.trans0 k2); clear k2)
    | (simp only [zeros48])
    | (refine st_fnd _ _ h7 HL0.out HSL.out rfl rfl rfl rfl ?_; intro w8 h8 k8 s8; simp only [Act.put]; have d0 : w8.cell? ⟨w2.heap.size, 0, none⟩ = some (.bool false) := (by rw [← HB.out]; exact h8.has); have d1 : w8.cell? ⟨w2.heap.size, 1, none⟩ = some (.int .i64 S.seq) := h8.seq; have d4 : w8.cell? ⟨w2.heap.size, 47, none⟩ = some (.int .i64 (S.free : Int)) := h8.free HSL.out; have HF := Lib.hid h8; have K8 := Lib.hid ((K2.out.alloc (.cells (fndV fnd0) 28)).trans k8 (by intro x hx; right; have := K2.out.size; simp at hx; omega)); clear h8 h7 k8))
  have hw1 : IntKind.i64.wrap ((D : Int) * 16) = (D : Int) * 16 := IntWalk.i64_in _ (by omega)
  have hd0 : (0 : Int) ≤ (D : Int) * 16 := by omega
  have hd1 : (D : Int) * 16 ≤ (c : Int) := by omega
  have hd2 : ((D : Int) * 16).toNat = 16 * D := by omega
  go_cut [0] from 25 to 36 (fun s0 wx => ∃ g c', s0 = .slice (some ⟨g, 0, none⟩) (16 * (D + 12)) c' ∧ Arr wx g c' (padW ys) ∧ Keeps [] w8 wx)
  case first =>
    rcases a with _ | ad
    · have hM0 : M = 0 := by have h1 := HI.out.1; have h2 := HI.out.2.1 rfl; rw [h2] at h1; simpa using h1
      have hD0 : D = 0 := by have := HD.out; omega
      subst hM0
      subst hD0
      have hw0 : IntKind.i64.wrap 0 = 0 := IntWalk.i64_in 0 (by omega)
      have HP0 := Lib.hid (show padW ys = List.replicate 192 65535 by have h2 := HI.out.2.1 rfl; rw [h2]; rfl)
      go_region_law (first
        | (refine step_append_new rfl (.tmp 34) (.tmp 35) 22 rfl w20.heap.size 3 i0 (.int .i64 0) 1 8 Tryd.underlying22 hi0 hz0 hz1 hz2 rfl (by decide) (.slice none 0 0) 0 [] rfl (World.ownsRow_nil _ _ _ _) ⟨g20, 0, none⟩ 192 c20 ((List.replicate 192 65535).map (.int .i64)) rfl (by simp) (IntsAt.news (HA20.out.ints)) (by simp [Value.oneCell']) (by unfold maxLen; omega) (by omega) (Nat.le_refl _) ?_; intro v' w21 q1 q2 q3 q4; obtain ⟨g22, c22, rfl, -, ha22⟩ := Arr.of_own (xs := padW ys) (base := w20.heap.size) (n := 192) (by rw [HP0.out]; simpa using q1) (fun hn => by have h := (q3.1 hn).2; omega); rw [show (padW ys).length = 16 * (0 + 12) by rw [HP0.out]; simp]; have HA22 := Lib.hid ha22; have K22 := Lib.hid ((((Keeps.refl [] w8).drewN 1).trans0 K20.out).grown q2 (fun k e => by cases e)); clear q1 q2 q3 q4 ha22)
        | (go_simp; go_at_call 7; refine (slotsN_anyT 0 0 _ HDs.out (by omega)).mono ?_; rintro e w' ⟨rfl, rfl⟩)
        | (go_simp; go_at_call 8; refine (gblank_any 12 _ (by omega)).mono ?_; rintro e w20 ⟨g20, c20, rfl, hA, k20, hg20⟩; simp only [Nat.reduceMul]; have HA20 := Lib.hid (show Arr w20 g20 c20 (List.replicate 192 65535) from hA); have K20 := Lib.hid (show Keeps [] w8.drew w20 from k20); clear hA k20))
      all_goals (go_wp2_with fail; go_meet; exact ⟨g22, c22, rfl, HA22.out, K22.out⟩)
    · go_region_law (first
        | (refine step_append_grows rfl (.tmp 34) (.tmp 35) 22 rfl 3 i0 (.int .i64 0) 1 8 Tryd.underlying22 hi0 hz0 hz1 hz2 rfl (by decide) ad (16 * D) (16 * D) ((ys.take (16 * D)).map (.int .i64)) rfl (by rw [List.length_map, List.length_take, HYL.out]; omega) (IntsAt.news (((HI.out.keep0 (K8.out.trans0 ((Keeps.refl [] w8).drewN 1))).take hDM).keep0 K20.out)) ⟨g20, 0, none⟩ 192 c20 ((List.replicate 192 65535).map (.int .i64)) rfl (by simp) (IntsAt.news (HA20.out.ints)) (by omega) (by unfold maxLen; omega) (by omega) ?_; intro v' w21 q1 q2; obtain ⟨g22, c22, rfl, -, ha22⟩ := Arr.of_own (xs := padW ys) (base := w20.heap.size) (n := 16 * D + 192) (by have h := q1; rw [← List.map_append] at h; rw [show padW ys = ys.take (16 * D) ++ List.replicate 192 65535 from by unfold padW; rw [HYL.out, HD.out]]; exact h) (by intro hn; rw [hn] at q1; obtain ⟨_, _, h⟩ := ownsRow_succ (k := 16 * D + 191) q1; cases h); rw [show (padW ys).length = 16 * (D + 12) by rw [padW_len, HYL.out, HD.out]]; have HA22 := Lib.hid ha22; have K22 := Lib.hid ((((Keeps.refl [] w8).drewN 1).trans0 K20.out).grown q2 (fun k e => by cases e)); clear q1 q2 ha22)
        | (go_simp; go_at_call 7; refine (slotsN_anyT M D _ HDs.out HMB.out.2).mono ?_; rintro e w' ⟨rfl, rfl⟩)
        | (go_simp; go_at_call 8; refine (gblank_any 12 _ (by omega)).mono ?_; rintro e w20 ⟨g20, c20, rfl, hA, k20, hg20⟩; simp only [Nat.reduceMul]; have HA20 := Lib.hid (show Arr w20 g20 c20 (List.replicate 192 65535) from hA); have K20 := Lib.hid (show Keeps [] w8.drew w20 from k20); clear hA k20))
      all_goals (go_wp2_with fail; go_meet; exact ⟨g22, c22, rfl, HA22.out, K22.out⟩)
  case rest =>
  obtain ⟨g8, c8, rfl, ha8, k8⟩ := hcut
  have HA8 := Lib.hid ha8
  have HF8 := Lib.hid (HF.out.keep k8 (by simp))
  have K9 := Lib.hid (K8.out.trans0 k8)
  clear ha8 k8 d0 d1 d4 hw1 hd0 hd1 hd2
  generalize wc = w9 at *
  have HPL := Lib.hid (show (padW ys).length = 16 * (D + 12) by rw [padW_len, HYL.out, HD.out])
  go_upto_region 9 with (go_at_call 9; refine (ints_any _ _ _ (padW ys) _ (by have h := HA8.out.ints; rw [HPL.out] at h; exact h) (by omega)).mono ?_; rw [HPL.out]; rintro e w10 ⟨v, rfl, g, c', rfl, hg, hA, k1⟩; have HM0 := Lib.hid hA; have HGS := Lib.hid hg; have K10 := Lib.hid (K9.out.trans0 k1); have KM := Lib.hid k1; have HF10 := Lib.hid (HF8.out.keep k1 (by simp)); clear hg hA k1)
  have hGs : w2.heap.size < g := by have h1 := HF8.out.lt; have h2 := HGS.out; omega
  have hgw : w.heap.size ≤ g := by have h1 := K9.out.size; have h2 := HGS.out; omega
  have HGs := Lib.hid hGs
  have HGw := Lib.hid hgw
  clear hGs hgw
  go_wp2_with fail
  go_loopw [9] (fun vi wr => ∃ (i : Nat), i ≤ TN ∧ vi = .int .i64 i ∧ Arr wr g c' (withB (padW ys) (16 * S.free) ((tornsL ts).take i).flatten) ∧ Keeps [g] w10 wr) (fun vi _ => TN - (intOf vi).toNat)
  case atStart =>
    refine ⟨0, Nat.zero_le _, rfl, ?_, Keeps.refl _ _⟩
    have h := HM0.out
    rw [show withB (padW ys) (16 * S.free) ((tornsL ts).take 0).flatten = padW ys from by
      have h2 := withB_nil (padW ys) (16 * S.free) [] (by rw [HPL.out]; omega)
      simpa using h2]
    exact h
  case round =>
    obtain ⟨i, hi, rfl, har, hkk⟩ := hrel
    have HKK := Lib.hid hkk
    have HAR := Lib.hid har
    clear har hkk
    by_cases hlt : i < TN
    · have hl1 : (i : Int) < (nt : Int) := by omega
      have hl2 : (i : Int) < 3 := by omega
      obtain ⟨x, hx⟩ : ∃ x, x = ts.getD i 0 := ⟨_, rfl⟩
      have hbd := among_bd x
      obtain ⟨p, hp⟩ := Int.eq_ofNat_of_zero_le hbd.1.1
      obtain ⟨V, hV⟩ : ∃ V, V = amongI x 65535 := ⟨_, rfl⟩
      have hp16 : p < 16 := by omega
      obtain ⟨tb, to', rfl⟩ := HTI.out.addr (by omega)
      have htb : tb ∉ [g] := by
        have h1 := ints_lt HTI.out (by omega) tb to' none rfl
        have h2 := HGw.out
        intro hb
        rw [List.mem_singleton] at hb
        omega
      have hcx : wr.cell? ⟨tb, to' + i, none⟩ = some (.int .i64 x) := by
        have h := ((HTI.out.keep0 K10.out).keep HKK.out (by rintro b o s e; injection e with e; injection e with e1 e2 e3; subst e1; exact htb)).2.2 tb to' none rfl (List.ne_nil_of_length_pos (by have := HNTL.out; omega))
        rw [hx]
        exact h.2 i (by have := HNTL.out; omega)
      have hTi : ((tornsL ts).take i).length = i := by rw [List.length_take, tornsL_len]; have := HTN.out; omega
      have hTt := torns_take (ts := ts) (i := i) (by have := HTN.out; omega)
      have h16 : ∀ s ∈ (tornsL ts).take i, s.length = 16 := fun s hs => tornsL_16 ts s (List.mem_of_mem_take hs)
      have hset := torn_set (zs := padW ys) (F := S.free) (p := p) (v := V) h16 hp16 (by rw [hTi, HPL.out]; omega) (fun j hj => HTB.out _ (by omega) (by rw [hTi]; omega))
      rw [hTi] at hset
      have htt : (tornsL ts).take (i + 1) = (tornsL ts).take i ++ [tornS p V] := by rw [hTt, ← hx, hp, ← hV]; rfl
      rw [← htt] at hset
      have hwl : (withB (padW ys) (16 * S.free) ((tornsL ts).take i).flatten).length = 16 * (D + 12) := by rw [withB_len (by rw [flat16 h16, hTi, HPL.out]; omega), HPL.out]
      have hpl : 16 * (S.free + i) + p < (withB (padW ys) (16 * S.free) ((tornsL ts).take i).flatten).length := by rw [hwl]; omega
      have hcm : wr.cell? ⟨g, 16 * (S.free + i) + p, none⟩ = some (.int .i64 ((withB (padW ys) (16 * S.free) ((tornsL ts).take i).flatten).getD (16 * (S.free + i) + p) 0)) := HAR.out.cell hpl
      have hfm := HAR.out.frozen (16 * (S.free + i) + p)
      have HSET := Lib.hid (show Arr (wr.setCell ⟨g, 16 * (S.free + i) + p, none⟩ (.int .i64 V)) g c' (withB (padW ys) (16 * S.free) ((tornsL ts).take (i + 1)).flatten) from by have h := HAR.out.set hpl V; rw [hset] at h; exact h)
      have HKS := Lib.hid (HKK.out.setCell (p := ⟨g, 16 * (S.free + i) + p, none⟩) (.inl (by simp)) (.int .i64 V))
      have hcf : wr.cell? ⟨w2.heap.size, 47, none⟩ = some (.int .i64 (S.free : Int)) := ((HF10.out.keep HKK.out (by have := HGs.out; simp; omega)).free HSL.out)
      obtain ⟨Y, hY⟩ : ∃ Y, Y = (withB (padW ys) (16 * S.free) ((tornsL ts).take i).flatten).getD (16 * (S.free + i) + p) 0 := ⟨_, rfl⟩
      rw [← hY] at hcm
      have HP := Lib.hid hp
      have HV := Lib.hid hV.symm
      have hs1' : IntKind.i64.wrap ((S.free : Int) + (i : Int)) = (S.free : Int) + (i : Int) := IntWalk.i64_in _ (by omega)
      have hs2 : IntKind.i64.wrap (((S.free : Int) + (i : Int)) * 16) = ((S.free : Int) + (i : Int)) * 16 := IntWalk.i64_in _ (by omega)
      have hs3 : IntKind.i64.wrap (((S.free : Int) + (i : Int)) * 16 + (p : Int)) = ((S.free : Int) + (i : Int)) * 16 + (p : Int) := IntWalk.i64_in _ (by omega)
      have hs4 : (((S.free : Int) + (i : Int)) * 16 + (p : Int)).toNat = 16 * (S.free + i) + p := by omega
      have hs5 : (0 : Int) ≤ ((S.free : Int) + (i : Int)) * 16 + (p : Int) := by omega
      have hs6 : ((S.free : Int) + (i : Int)) * 16 + (p : Int) < 16 * ((D : Int) + 12) := by omega
      clear hx hbd hp hV htb hTi hTt h16 hset htt hwl hpl hY
      go_upto_region 12 with fail
      go_still_tail 18, (by kernel_rfl)
      still_call (among_pos x p _ HP.out)
      repeat still_step
      still_call (among_val x V _ HV.out)
      repeat still_step
      refine wpStill_nil ?_
      go_wp2_with fail
      go_roundw
      case rel => exact ⟨i + 1, by omega, by go_num, HSET.out.keep (F := []) (Keeps.refl _ _).drew (by simp), HKS.out.drew⟩
      case measure => simp [intOf]; omega
    · have hiT : i = TN := by omega
      subst hiT
      clear hlt
      have HX := Lib.hid (torn_facts ys ts among_bd H64.out)
      obtain ⟨zs, hzs⟩ : ∃ zs, zs = tornW ys ts := ⟨_, rfl⟩
      have hzr := HAR.out
      rw [List.take_of_length_le (by rw [tornsL_len]; have := HTN.out; omega), HS.out, show withB (padW ys) (16 * (scanR ys).free) (tornsL ts).flatten = tornW ys ts from rfl, ← hzs] at hzr
      have hzl : zs.length = 16 * (D + 12) := by rw [hzs]; exact HTL.out
      have hsz : scanR zs = { S with free := S.free + i } := by rw [hzs]; have h := HTS.out; rw [HS.out] at h; rw [HS.out]; exact h
      have HR := Lib.hid hzr
      have HZL := Lib.hid hzl
      have H64Z := Lib.hid (show ∀ x ∈ zs, I64 x by rw [hzs]; exact HX.out)
      obtain ⟨S2, hS2⟩ : ∃ S2, S2 = ({ S with free := S.free + i } : Fnd) := ⟨_, rfl⟩
      have HSC := Lib.hid (hsz.trans hS2.symm)
      have HSL2 := Lib.hid (show S2.live.length = 44 by rw [hS2]; exact HSL.out)
      obtain ⟨F2, hF2⟩ : ∃ F2, F2 = S2.free := ⟨_, rfl⟩
      have hF2v : F2 = S.free + i := by rw [hF2, hS2]
      have HF2 := Lib.hid hF2
      have HS2 := Lib.hid hS2
      have IZ := Lib.hid (show IntsAt wr (some ⟨g, 0, none⟩) (16 * (D + 12)) zs by have h := hzr.ints; rw [hzl] at h; exact h)
      have LZ := Lib.hid (show 16 * (D + 12) ≤ c' ∧ c' ≤ maxLen by have h := hzr.le; rw [hzl] at h; exact ⟨h, hzr.cm⟩)
      have HFR := Lib.hid (HF10.out.keep HKK.out (by have := HGs.out; simp; omega))
      have KR := Lib.hid (K10.out.trans HKK.out (by intro x hx; right; rw [List.mem_singleton] at hx; subst hx; exact HGw.out))
      obtain ⟨AT, hAT⟩ : ∃ AT, AT = 16 * (S.free + i) := ⟨_, rfl⟩
      obtain ⟨gl, hgl⟩ : ∃ gl, gl = (putSlots (S.seq + 1) true (allL more)).flatten := ⟨_, rfl⟩
      have hlen : (allL more).length = 4 := by simp [allL]
      have hglL : gl.length = 80 := by rw [hgl, putSlots_flat (allL_len more), hlen]
      have HG := Lib.hid (show (0, gl, (AT : Int)) = gputR zs (S.seq + 1) true (allL more) by
        have h := HTP.out.1
        rw [hzs, hgl, hAT]
        rw [show (((16 * (S.free + i) : Nat)) : Int) = 16 * ((S.free + i : Nat) : Int) by omega]
        exact h.symm)
      have hq2 : 0 ≤ S.seq + 1 ∧ S.seq + 1 ≤ 4294967295 := by omega
      have HWS := Lib.hid (show ∀ x ∈ gl, 0 ≤ x ∧ x ≤ 65535 by rw [hgl]; exact puts_words (by omega) hq2 (by have h := allL_ok more hq2 (k := 4) (by omega); rwa [List.take_of_length_le (by omega)] at h))
      have HBL := Lib.hid (show ∀ j, j < gl.length → zs.getD (AT + j) 0 = 65535 from fun j hj => free_words zs (by rw [hsz, hAT]; show 16 * (S.free + i) ≤ _; omega) (by rw [hzl]; omega))
      obtain ⟨S3, hS3⟩ : ∃ S3, S3 = (⟨true, S.seq + 1, liveRecs S.live (allL more), S.com + 1, S.free + i + 4 + 1⟩ : Fnd) := ⟨_, rfl⟩
      have HSC3 := Lib.hid (show scanR (withB zs AT gl) = S3 by
        have h := HTP.out.2
        rw [hzs, hgl, hAT, hS3]
        exact h)
      have HSL3 := Lib.hid (show S3.live.length = 44 by rw [hS3]; exact liveRecs_len HSL.out (allL_kind more))
      obtain ⟨V, hV⟩ : ∃ V, V = amongI more 65536 := ⟨_, rfl⟩
      have HLV := Lib.hid (show S3.live.getD 0 0 = V by
        rw [hS3, hV]
        have h := (live_all S.live HSL.out more).1
        rw [show wrap64 more = more from wrapT_64 HM64.out] at h
        exact h)
      have HV := Lib.hid hV.symm
      have HS3 := Lib.hid (show S3.has = true ∧ S3.com = S.com + 1 by rw [hS3]; exact ⟨rfl, rfl⟩)
      have HGL := Lib.hid hglL
      have HQ := Lib.hid (show I64 (S.seq + 1) by unfold I64; omega)
      have HFIT := Lib.hid (show AT + gl.length ≤ zs.length by rw [hglL, hzl, hAT]; omega)
      have hgs := HGs.out
      have hgs2 : g ≠ w2.heap.size := by omega
      clear hzs hzr hzl hsz hS2 hF2 hAT hgl hlen hglL hq2 hS3 hV hgs
      have hcases : (nt = 0 ∧ i = 0) ∨ (nt = 1 ∧ i = 1) ∨ (nt = 2 ∧ i = 2) ∨ (nt = 3 ∧ i = 3) ∨ (3 < nt ∧ i = 3) := by have h1 := HTN.out; have h2 := HNTL.out; omega
      rcases hcases with h | h | h | h | h
      · obtain ⟨rfl, rfl⟩ := h
        as_aux_lemma =>
          have hf2 : (F2 : Int) = (S.free : Int) + 0 := by omega
          have HF2I := Lib.hid hf2
          have hF64 : (F2 : Int) ≤ 1000 := by omega
          have hneF : ((F2 : Int) != (S.free : Int)) = false := by rw [hf2]; simp
          have hwF : IntKind.i64.wrap ((S.free : Int) + 0) = (S.free : Int) + 0 := IntWalk.i64_in _ (by omega)
          clear hF2v hf2
          go_upto_region 15 with (first
            | (go_at_call 6; refine (scan_any _ (16 * (D + 12)) c' zs _ (HT.out.keep KR.out) IZ.out LZ.out.1 LZ.out.2 H64Z.out).mono ?_; rw [HSC.out]; rintro e w12 ⟨rfl, k12⟩; have h7 : FAt (w12.alloc (.cells (fndV fnd0) 28)) w12.heap.size 28 [] fnd0 := heap_alloc_new w12 _; have hv7 : FAt (w12.alloc (.cells (fndV fnd0) 28)) w2.heap.size 28 [] S := heap_alloc_held (HFR.out.keep k12 (by simp)) _; have hl7 : w2.heap.size < w12.heap.size := (HFR.out.keep k12 (by simp)).lt; have K12 := Lib.hid k12; clear k12)
            | (simp only [zeros48])
            | (refine st_fnd _ _ h7 HL0.out HSL2.out rfl rfl rfl rfl ?_; intro w13 h13 k13 s13; simp only [Act.put]; have HV13 := Lib.hid (hv7.keep k13 (by simp; omega)); have HU := Lib.hid h13; have x4 : w13.cell? ⟨w12.heap.size, 47, none⟩ = some (.int .i64 (F2 : Int)) := (by rw [HF2.out]; exact h13.free HSL2.out); have d4 : w13.cell? ⟨w2.heap.size, 47, none⟩ = some (.int .i64 (S.free : Int)) := HV13.out.free HSL.out; have ff := HU.out.frozen 47; have K13 := Lib.hid ((K12.out.alloc (.cells (fndV fnd0) 28)).trans k13 (by intro x hx; right; have := K12.out.size; simp at hx; omega)); have HLT := Lib.hid hl7; clear h13 hv7 h7 hl7 k13))
          go_upto_region 16 with fail
          have hU : FAt (w13.setCell ⟨w12.heap.size, 47, none⟩ (.int .i64 (S.free : Int))) w12.heap.size 28 [] S := (by
            have h := HU.out.setFree HSL2.out S.free
            have e : ({ S2 with free := S.free } : Fnd) = S := by rw [HS2.out]
            rw [e] at h
            exact h)
          have hV : FAt (w13.setCell ⟨w12.heap.size, 47, none⟩ (.int .i64 (S.free : Int))) w2.heap.size 28 [] S := HV13.out.keep (F := [w12.heap.size]) ((Keeps.refl _ _).setCell (.inl (by simp)) _) (by have := HLT.out; simp; omega)
          have kU : Keeps [] wr (w13.setCell ⟨w12.heap.size, 47, none⟩ (.int .i64 (S.free : Int))) := K13.out.setCell (.inr (by have := K12.out.size; simpa using this)) _
          clear x4 d4 ff
          generalize w13.setCell ⟨w12.heap.size, 47, none⟩ (.int .i64 (S.free : Int)) = w14 at *
          have d4 : w14.cell? ⟨w2.heap.size, 47, none⟩ = some (.int .i64 (S.free : Int)) := hV.free HSL.out
          have HUU := Lib.hid hU
          have HVV := Lib.hid hV
          have KU := Lib.hid kU
          clear hU hV kU
          go_upto_region 18 with (first
            | (refine ld_fnd _ HUU.out HSL.out rfl rfl rfl ?_; simp only [Act.put])
            | (refine ld_fnd _ HVV.out HSL.out rfl rfl rfl ?_; simp only [Act.put])
            | (refine ne_fnd _ _ _ HSL.out rfl rfl rfl rfl ?_; simp only [Act.put]))
          clear hneF hwF
          have d1 : w14.cell? ⟨w2.heap.size, 1, none⟩ = some (.int .i64 S.seq) := HVV.out.seq
          have d0 : w14.cell? ⟨w2.heap.size, 0, none⟩ = some (.bool false) := (by rw [← HB.out]; exact HVV.out.has)
          have hw1 : IntKind.i64.wrap (S.seq + 1) = S.seq + 1 := IntWalk.i64_in _ (by omega)
          go_cut [12, 13, 14] from 87 to 100 (fun s7 s8 s9 wx => ∃ A3 c3, s7 = .slice A3 80 c3 ∧ s8 = .int .i64 (AT : Int) ∧ s9 = .int .i64 0 ∧ IntsAt wx A3 80 gl ∧ 80 ≤ c3 ∧ c3 ≤ maxLen ∧ Keeps [] w14 wx)
          case first =>
            go_region_held3 (fun wz => wz.cell? ⟨w2.heap.size, 1, none⟩ = some (.int .i64 S.seq) ∧ wz.cell? ⟨w2.heap.size, 0, none⟩ = some (.bool false)) (first | exact ⟨d1, d0⟩ | exact ⟨p1, p0⟩ | exact ⟨q1, q0⟩ | go_keep) (first
              | (go_at_call 12; refine (all_any more _).mono ?_; rw [kinds_all]; rintro e w9 ⟨a2, c2, rfl, r2, l2, m2, k9⟩; have R2 := Lib.hid r2; have k9' := ((Keeps.refl [] w14).drewN 1).trans0 k9; have K9' := Lib.hid (show Keeps [] w14 w9 from k9'); have HF9 := Lib.hid (HVV.out.keep k9' (by simp)); have p1 : w9.cell? ⟨w2.heap.size, 1, none⟩ = some (.int .i64 S.seq) := HF9.out.seq; have p0 : w9.cell? ⟨w2.heap.size, 0, none⟩ = some (.bool false) := (by rw [← HB.out]; exact HF9.out.has); clear r2 k9 k9')
              | (go_at_call 11; refine (put_any (some ⟨g, 0, none⟩) (16 * (D + 12)) c' zs (S.seq + 1) true a2 4 c2 (allL more) _ (HT.out.keep (KR.out.trans0 (KU.out.trans0 K9'.out))) (IZ.out.keep0 (KU.out.trans0 K9'.out)) LZ.out.1 LZ.out.2 R2.out (by omega) HQ.out (allL_64 more)).mono ?_; rw [← HG.out]; rintro e w10' ⟨A3, c3, rfl, i3, k3, l3, m3⟩; have K10' := Lib.hid (K9'.out.trans0 k3); have I3 := Lib.hid i3; have L3 := Lib.hid (And.intro l3 m3); have q1 : w10'.cell? ⟨w2.heap.size, 1, none⟩ = some (.int .i64 S.seq) := (HF9.out.keep k3 (by simp)).seq; have q0 : w10'.cell? ⟨w2.heap.size, 0, none⟩ = some (.bool false) := (by rw [← HB.out]; exact (HF9.out.keep k3 (by simp)).has); clear i3 k3 l3 m3))
            all_goals (go_wp2_with fail; go_meet; exact ⟨A3, c3, (by rw [← HGL.out]), rfl, rfl, (by have h := I3.out; simp only [HGL.out] at h; exact h), (by have h := L3.out.1; simp only [HGL.out] at h; exact h), L3.out.2, K10'.out⟩)
          case rest =>
          obtain ⟨A3, c3, rfl, rfl, rfl, i3, l3, m3, k9⟩ := hcut
          have KW := Lib.hid (KU.out.trans0 k9)
          have HF15 := Lib.hid (HVV.out.keep k9 (by simp))
          have I3 := Lib.hid i3
          unfold maxLen at m3
          clear hw1 i3 k9 d0 d1 d4
          generalize wc = w15 at *
          go_upto_region 20 with (first
            | (go_at_call 13; refine (with_any (some ⟨g, 0, none⟩) (16 * (D + 12)) c' zs AT A3 80 c3 gl w15 (IZ.out.keep0 KW.out) (by omega) I3.out HFIT.out HWS.out HBL.out).mono ?_; rw [HZL.out]; rintro e w16 ⟨g5, c5, rfl, hA, k5, -⟩; have IW := Lib.hid (show IntsAt w16 (some ⟨g5, 0, none⟩) (16 * (D + 12)) (withB zs AT gl) by have h := hA.ints; rw [withB_len HFIT.out, HZL.out] at h; exact h); have LW := Lib.hid (show 16 * (D + 12) ≤ c5 ∧ c5 ≤ maxLen by have h := hA.le; rw [withB_len HFIT.out, HZL.out] at h; exact ⟨h, hA.cm⟩); have K16 := Lib.hid (KW.out.trans0 k5); have HF16 := Lib.hid (HF15.out.keep k5 (by simp)); clear hA k5)
            | (go_at_call 6; refine (scan_any _ (16 * (D + 12)) c5 (withB zs AT gl) _ (HT.out.keep (KR.out.trans0 K16.out)) IW.out LW.out.1 LW.out.2 (with_64 H64Z.out HWS.out)).mono ?_; rw [HSC3.out]; rintro e w17 ⟨rfl, k17⟩; have h7 : FAt (w17.alloc (.cells (fndV fnd0) 28)) w17.heap.size 28 [] fnd0 := heap_alloc_new w17 _; have hv7 : FAt (w17.alloc (.cells (fndV fnd0) 28)) w2.heap.size 28 [] S := heap_alloc_held (HF16.out.keep k17 (by simp)) _; have hl7 : w2.heap.size < w17.heap.size := (HF16.out.keep k17 (by simp)).lt; have K17 := Lib.hid (K16.out.trans0 k17); clear k17)
            | (simp only [zeros48])
            | (refine st_fnd _ _ h7 HL0.out HSL3.out rfl rfl rfl rfl ?_; intro w18 h18 k18 s18; simp only [Act.put]; have hv18 := hv7.keep k18 (by simp; omega); have y0 : w18.cell? ⟨w17.heap.size, 0, none⟩ = some (.bool true) := (by rw [← HS3.out.1]; exact h18.has); have y3 : w18.cell? ⟨w17.heap.size, 46, none⟩ = some (.int .i64 (S.com + 1)) := (by rw [← HS3.out.2]; exact h18.com HSL3.out); have z3 : w18.cell? ⟨w2.heap.size, 46, none⟩ = some (.int .i64 S.com) := hv18.com HSL.out; have y2 : w18.cell? ⟨w17.heap.size, 2, none⟩ = some (.int .i64 V) := (by have h := h18.live (i := 0) (by rw [HSL3.out]; omega); rw [HLV.out] at h; exact h); have K18 := Lib.hid ((K17.out.alloc (.cells (fndV fnd0) 28)).trans k18 (by intro x hx; right; have := K17.out.size; simp at hx; omega)); clear h18 hv18 hv7 h7 hl7 k18 s18))
          have hw3 : IntKind.i64.wrap (S.com + 1) = S.com + 1 := IntWalk.i64_in _ (by omega)
          go_quiet ((go_at_call 10; refine Calls.quiet_of_same (among_at65 more V _ HV.out)))
          go_wp2_with fail
          all_goals (go_ret; exact ⟨rfl, KR.out.trans0 (K18.out.drewN _)⟩)
      · obtain ⟨rfl, rfl⟩ := h
        as_aux_lemma =>
          have hf2 : (F2 : Int) = (S.free : Int) + 1 := by omega
          have HF2I := Lib.hid hf2
          have hF64 : (F2 : Int) ≤ 1000 := by omega
          have hneF : ((F2 : Int) != (S.free : Int) + 1) = false := by rw [hf2]; simp
          have hwF : IntKind.i64.wrap ((S.free : Int) + 1) = (S.free : Int) + 1 := IntWalk.i64_in _ (by omega)
          clear hF2v hf2
          go_upto_region 15 with (first
            | (go_at_call 6; refine (scan_any _ (16 * (D + 12)) c' zs _ (HT.out.keep KR.out) IZ.out LZ.out.1 LZ.out.2 H64Z.out).mono ?_; rw [HSC.out]; rintro e w12 ⟨rfl, k12⟩; have h7 : FAt (w12.alloc (.cells (fndV fnd0) 28)) w12.heap.size 28 [] fnd0 := heap_alloc_new w12 _; have hv7 : FAt (w12.alloc (.cells (fndV fnd0) 28)) w2.heap.size 28 [] S := heap_alloc_held (HFR.out.keep k12 (by simp)) _; have hl7 : w2.heap.size < w12.heap.size := (HFR.out.keep k12 (by simp)).lt; have K12 := Lib.hid k12; clear k12)
            | (simp only [zeros48])
            | (refine st_fnd _ _ h7 HL0.out HSL2.out rfl rfl rfl rfl ?_; intro w13 h13 k13 s13; simp only [Act.put]; have HV13 := Lib.hid (hv7.keep k13 (by simp; omega)); have HU := Lib.hid h13; have x4 : w13.cell? ⟨w12.heap.size, 47, none⟩ = some (.int .i64 (F2 : Int)) := (by rw [HF2.out]; exact h13.free HSL2.out); have d4 : w13.cell? ⟨w2.heap.size, 47, none⟩ = some (.int .i64 (S.free : Int)) := HV13.out.free HSL.out; have ff := HU.out.frozen 47; have K13 := Lib.hid ((K12.out.alloc (.cells (fndV fnd0) 28)).trans k13 (by intro x hx; right; have := K12.out.size; simp at hx; omega)); have HLT := Lib.hid hl7; clear h13 hv7 h7 hl7 k13))
          go_upto_region 16 with fail
          have hU : FAt (w13.setCell ⟨w12.heap.size, 47, none⟩ (.int .i64 (S.free : Int))) w12.heap.size 28 [] S := (by
            have h := HU.out.setFree HSL2.out S.free
            have e : ({ S2 with free := S.free } : Fnd) = S := by rw [HS2.out]
            rw [e] at h
            exact h)
          have hV : FAt (w13.setCell ⟨w12.heap.size, 47, none⟩ (.int .i64 (S.free : Int))) w2.heap.size 28 [] S := HV13.out.keep (F := [w12.heap.size]) ((Keeps.refl _ _).setCell (.inl (by simp)) _) (by have := HLT.out; simp; omega)
          have kU : Keeps [] wr (w13.setCell ⟨w12.heap.size, 47, none⟩ (.int .i64 (S.free : Int))) := K13.out.setCell (.inr (by have := K12.out.size; simpa using this)) _
          clear x4 d4 ff
          generalize w13.setCell ⟨w12.heap.size, 47, none⟩ (.int .i64 (S.free : Int)) = w14 at *
          have d4 : w14.cell? ⟨w2.heap.size, 47, none⟩ = some (.int .i64 (S.free : Int)) := hV.free HSL.out
          have HUU := Lib.hid hU
          have HVV := Lib.hid hV
          have KU := Lib.hid kU
          clear hU hV kU
          go_upto_region 18 with (first
            | (refine ld_fnd _ HUU.out HSL.out rfl rfl rfl ?_; simp only [Act.put])
            | (refine ld_fnd _ HVV.out HSL.out rfl rfl rfl ?_; simp only [Act.put])
            | (refine ne_fnd _ _ _ HSL.out rfl rfl rfl rfl ?_; simp only [Act.put]))
          clear hneF hwF
          have d1 : w14.cell? ⟨w2.heap.size, 1, none⟩ = some (.int .i64 S.seq) := HVV.out.seq
          have d0 : w14.cell? ⟨w2.heap.size, 0, none⟩ = some (.bool false) := (by rw [← HB.out]; exact HVV.out.has)
          have hw1 : IntKind.i64.wrap (S.seq + 1) = S.seq + 1 := IntWalk.i64_in _ (by omega)
          go_cut [12, 13, 14] from 87 to 100 (fun s7 s8 s9 wx => ∃ A3 c3, s7 = .slice A3 80 c3 ∧ s8 = .int .i64 (AT : Int) ∧ s9 = .int .i64 0 ∧ IntsAt wx A3 80 gl ∧ 80 ≤ c3 ∧ c3 ≤ maxLen ∧ Keeps [] w14 wx)
          case first =>
            go_region_held3 (fun wz => wz.cell? ⟨w2.heap.size, 1, none⟩ = some (.int .i64 S.seq) ∧ wz.cell? ⟨w2.heap.size, 0, none⟩ = some (.bool false)) (first | exact ⟨d1, d0⟩ | exact ⟨p1, p0⟩ | exact ⟨q1, q0⟩ | go_keep) (first
              | (go_at_call 12; refine (all_any more _).mono ?_; rw [kinds_all]; rintro e w9 ⟨a2, c2, rfl, r2, l2, m2, k9⟩; have R2 := Lib.hid r2; have k9' := ((Keeps.refl [] w14).drewN 1).trans0 k9; have K9' := Lib.hid (show Keeps [] w14 w9 from k9'); have HF9 := Lib.hid (HVV.out.keep k9' (by simp)); have p1 : w9.cell? ⟨w2.heap.size, 1, none⟩ = some (.int .i64 S.seq) := HF9.out.seq; have p0 : w9.cell? ⟨w2.heap.size, 0, none⟩ = some (.bool false) := (by rw [← HB.out]; exact HF9.out.has); clear r2 k9 k9')
              | (go_at_call 11; refine (put_any (some ⟨g, 0, none⟩) (16 * (D + 12)) c' zs (S.seq + 1) true a2 4 c2 (allL more) _ (HT.out.keep (KR.out.trans0 (KU.out.trans0 K9'.out))) (IZ.out.keep0 (KU.out.trans0 K9'.out)) LZ.out.1 LZ.out.2 R2.out (by omega) HQ.out (allL_64 more)).mono ?_; rw [← HG.out]; rintro e w10' ⟨A3, c3, rfl, i3, k3, l3, m3⟩; have K10' := Lib.hid (K9'.out.trans0 k3); have I3 := Lib.hid i3; have L3 := Lib.hid (And.intro l3 m3); have q1 : w10'.cell? ⟨w2.heap.size, 1, none⟩ = some (.int .i64 S.seq) := (HF9.out.keep k3 (by simp)).seq; have q0 : w10'.cell? ⟨w2.heap.size, 0, none⟩ = some (.bool false) := (by rw [← HB.out]; exact (HF9.out.keep k3 (by simp)).has); clear i3 k3 l3 m3))
            all_goals (go_wp2_with fail; go_meet; exact ⟨A3, c3, (by rw [← HGL.out]), rfl, rfl, (by have h := I3.out; simp only [HGL.out] at h; exact h), (by have h := L3.out.1; simp only [HGL.out] at h; exact h), L3.out.2, K10'.out⟩)
          case rest =>
          obtain ⟨A3, c3, rfl, rfl, rfl, i3, l3, m3, k9⟩ := hcut
          have KW := Lib.hid (KU.out.trans0 k9)
          have HF15 := Lib.hid (HVV.out.keep k9 (by simp))
          have I3 := Lib.hid i3
          unfold maxLen at m3
          clear hw1 i3 k9 d0 d1 d4
          generalize wc = w15 at *
          go_upto_region 20 with (first
            | (go_at_call 13; refine (with_any (some ⟨g, 0, none⟩) (16 * (D + 12)) c' zs AT A3 80 c3 gl w15 (IZ.out.keep0 KW.out) (by omega) I3.out HFIT.out HWS.out HBL.out).mono ?_; rw [HZL.out]; rintro e w16 ⟨g5, c5, rfl, hA, k5, -⟩; have IW := Lib.hid (show IntsAt w16 (some ⟨g5, 0, none⟩) (16 * (D + 12)) (withB zs AT gl) by have h := hA.ints; rw [withB_len HFIT.out, HZL.out] at h; exact h); have LW := Lib.hid (show 16 * (D + 12) ≤ c5 ∧ c5 ≤ maxLen by have h := hA.le; rw [withB_len HFIT.out, HZL.out] at h; exact ⟨h, hA.cm⟩); have K16 := Lib.hid (KW.out.trans0 k5); have HF16 := Lib.hid (HF15.out.keep k5 (by simp)); clear hA k5)
            | (go_at_call 6; refine (scan_any _ (16 * (D + 12)) c5 (withB zs AT gl) _ (HT.out.keep (KR.out.trans0 K16.out)) IW.out LW.out.1 LW.out.2 (with_64 H64Z.out HWS.out)).mono ?_; rw [HSC3.out]; rintro e w17 ⟨rfl, k17⟩; have h7 : FAt (w17.alloc (.cells (fndV fnd0) 28)) w17.heap.size 28 [] fnd0 := heap_alloc_new w17 _; have hv7 : FAt (w17.alloc (.cells (fndV fnd0) 28)) w2.heap.size 28 [] S := heap_alloc_held (HF16.out.keep k17 (by simp)) _; have hl7 : w2.heap.size < w17.heap.size := (HF16.out.keep k17 (by simp)).lt; have K17 := Lib.hid (K16.out.trans0 k17); clear k17)
            | (simp only [zeros48])
            | (refine st_fnd _ _ h7 HL0.out HSL3.out rfl rfl rfl rfl ?_; intro w18 h18 k18 s18; simp only [Act.put]; have hv18 := hv7.keep k18 (by simp; omega); have y0 : w18.cell? ⟨w17.heap.size, 0, none⟩ = some (.bool true) := (by rw [← HS3.out.1]; exact h18.has); have y3 : w18.cell? ⟨w17.heap.size, 46, none⟩ = some (.int .i64 (S.com + 1)) := (by rw [← HS3.out.2]; exact h18.com HSL3.out); have z3 : w18.cell? ⟨w2.heap.size, 46, none⟩ = some (.int .i64 S.com) := hv18.com HSL.out; have y2 : w18.cell? ⟨w17.heap.size, 2, none⟩ = some (.int .i64 V) := (by have h := h18.live (i := 0) (by rw [HSL3.out]; omega); rw [HLV.out] at h; exact h); have K18 := Lib.hid ((K17.out.alloc (.cells (fndV fnd0) 28)).trans k18 (by intro x hx; right; have := K17.out.size; simp at hx; omega)); clear h18 hv18 hv7 h7 hl7 k18 s18))
          have hw3 : IntKind.i64.wrap (S.com + 1) = S.com + 1 := IntWalk.i64_in _ (by omega)
          go_quiet ((go_at_call 10; refine Calls.quiet_of_same (among_at65 more V _ HV.out)))
          go_wp2_with fail
          all_goals (go_ret; exact ⟨rfl, KR.out.trans0 (K18.out.drewN _)⟩)
      · obtain ⟨rfl, rfl⟩ := h
        as_aux_lemma =>
          have hf2 : (F2 : Int) = (S.free : Int) + 2 := by omega
          have HF2I := Lib.hid hf2
          have hF64 : (F2 : Int) ≤ 1000 := by omega
          have hneF : ((F2 : Int) != (S.free : Int) + 2) = false := by rw [hf2]; simp
          have hwF : IntKind.i64.wrap ((S.free : Int) + 2) = (S.free : Int) + 2 := IntWalk.i64_in _ (by omega)
          clear hF2v hf2
          go_upto_region 15 with (first
            | (go_at_call 6; refine (scan_any _ (16 * (D + 12)) c' zs _ (HT.out.keep KR.out) IZ.out LZ.out.1 LZ.out.2 H64Z.out).mono ?_; rw [HSC.out]; rintro e w12 ⟨rfl, k12⟩; have h7 : FAt (w12.alloc (.cells (fndV fnd0) 28)) w12.heap.size 28 [] fnd0 := heap_alloc_new w12 _; have hv7 : FAt (w12.alloc (.cells (fndV fnd0) 28)) w2.heap.size 28 [] S := heap_alloc_held (HFR.out.keep k12 (by simp)) _; have hl7 : w2.heap.size < w12.heap.size := (HFR.out.keep k12 (by simp)).lt; have K12 := Lib.hid k12; clear k12)
            | (simp only [zeros48])
            | (refine st_fnd _ _ h7 HL0.out HSL2.out rfl rfl rfl rfl ?_; intro w13 h13 k13 s13; simp only [Act.put]; have HV13 := Lib.hid (hv7.keep k13 (by simp; omega)); have HU := Lib.hid h13; have x4 : w13.cell? ⟨w12.heap.size, 47, none⟩ = some (.int .i64 (F2 : Int)) := (by rw [HF2.out]; exact h13.free HSL2.out); have d4 : w13.cell? ⟨w2.heap.size, 47, none⟩ = some (.int .i64 (S.free : Int)) := HV13.out.free HSL.out; have ff := HU.out.frozen 47; have K13 := Lib.hid ((K12.out.alloc (.cells (fndV fnd0) 28)).trans k13 (by intro x hx; right; have := K12.out.size; simp at hx; omega)); have HLT := Lib.hid hl7; clear h13 hv7 h7 hl7 k13))
          go_upto_region 16 with fail
          have hU : FAt (w13.setCell ⟨w12.heap.size, 47, none⟩ (.int .i64 (S.free : Int))) w12.heap.size 28 [] S := (by
            have h := HU.out.setFree HSL2.out S.free
            have e : ({ S2 with free := S.free } : Fnd) = S := by rw [HS2.out]
            rw [e] at h
            exact h)
          have hV : FAt (w13.setCell ⟨w12.heap.size, 47, none⟩ (.int .i64 (S.free : Int))) w2.heap.size 28 [] S := HV13.out.keep (F := [w12.heap.size]) ((Keeps.refl _ _).setCell (.inl (by simp)) _) (by have := HLT.out; simp; omega)
          have kU : Keeps [] wr (w13.setCell ⟨w12.heap.size, 47, none⟩ (.int .i64 (S.free : Int))) := K13.out.setCell (.inr (by have := K12.out.size; simpa using this)) _
          clear x4 d4 ff
          generalize w13.setCell ⟨w12.heap.size, 47, none⟩ (.int .i64 (S.free : Int)) = w14 at *
          have d4 : w14.cell? ⟨w2.heap.size, 47, none⟩ = some (.int .i64 (S.free : Int)) := hV.free HSL.out
          have HUU := Lib.hid hU
          have HVV := Lib.hid hV
          have KU := Lib.hid kU
          clear hU hV kU
          go_upto_region 18 with (first
            | (refine ld_fnd _ HUU.out HSL.out rfl rfl rfl ?_; simp only [Act.put])
            | (refine ld_fnd _ HVV.out HSL.out rfl rfl rfl ?_; simp only [Act.put])
            | (refine ne_fnd _ _ _ HSL.out rfl rfl rfl rfl ?_; simp only [Act.put]))
          clear hneF hwF
          have d1 : w14.cell? ⟨w2.heap.size, 1, none⟩ = some (.int .i64 S.seq) := HVV.out.seq
          have d0 : w14.cell? ⟨w2.heap.size, 0, none⟩ = some (.bool false) := (by rw [← HB.out]; exact HVV.out.has)
          have hw1 : IntKind.i64.wrap (S.seq + 1) = S.seq + 1 := IntWalk.i64_in _ (by omega)
          go_cut [12, 13, 14] from 87 to 100 (fun s7 s8 s9 wx => ∃ A3 c3, s7 = .slice A3 80 c3 ∧ s8 = .int .i64 (AT : Int) ∧ s9 = .int .i64 0 ∧ IntsAt wx A3 80 gl ∧ 80 ≤ c3 ∧ c3 ≤ maxLen ∧ Keeps [] w14 wx)
          case first =>
            go_region_held3 (fun wz => wz.cell? ⟨w2.heap.size, 1, none⟩ = some (.int .i64 S.seq) ∧ wz.cell? ⟨w2.heap.size, 0, none⟩ = some (.bool false)) (first | exact ⟨d1, d0⟩ | exact ⟨p1, p0⟩ | exact ⟨q1, q0⟩ | go_keep) (first
              | (go_at_call 12; refine (all_any more _).mono ?_; rw [kinds_all]; rintro e w9 ⟨a2, c2, rfl, r2, l2, m2, k9⟩; have R2 := Lib.hid r2; have k9' := ((Keeps.refl [] w14).drewN 1).trans0 k9; have K9' := Lib.hid (show Keeps [] w14 w9 from k9'); have HF9 := Lib.hid (HVV.out.keep k9' (by simp)); have p1 : w9.cell? ⟨w2.heap.size, 1, none⟩ = some (.int .i64 S.seq) := HF9.out.seq; have p0 : w9.cell? ⟨w2.heap.size, 0, none⟩ = some (.bool false) := (by rw [← HB.out]; exact HF9.out.has); clear r2 k9 k9')
              | (go_at_call 11; refine (put_any (some ⟨g, 0, none⟩) (16 * (D + 12)) c' zs (S.seq + 1) true a2 4 c2 (allL more) _ (HT.out.keep (KR.out.trans0 (KU.out.trans0 K9'.out))) (IZ.out.keep0 (KU.out.trans0 K9'.out)) LZ.out.1 LZ.out.2 R2.out (by omega) HQ.out (allL_64 more)).mono ?_; rw [← HG.out]; rintro e w10' ⟨A3, c3, rfl, i3, k3, l3, m3⟩; have K10' := Lib.hid (K9'.out.trans0 k3); have I3 := Lib.hid i3; have L3 := Lib.hid (And.intro l3 m3); have q1 : w10'.cell? ⟨w2.heap.size, 1, none⟩ = some (.int .i64 S.seq) := (HF9.out.keep k3 (by simp)).seq; have q0 : w10'.cell? ⟨w2.heap.size, 0, none⟩ = some (.bool false) := (by rw [← HB.out]; exact (HF9.out.keep k3 (by simp)).has); clear i3 k3 l3 m3))
            all_goals (go_wp2_with fail; go_meet; exact ⟨A3, c3, (by rw [← HGL.out]), rfl, rfl, (by have h := I3.out; simp only [HGL.out] at h; exact h), (by have h := L3.out.1; simp only [HGL.out] at h; exact h), L3.out.2, K10'.out⟩)
          case rest =>
          obtain ⟨A3, c3, rfl, rfl, rfl, i3, l3, m3, k9⟩ := hcut
          have KW := Lib.hid (KU.out.trans0 k9)
          have HF15 := Lib.hid (HVV.out.keep k9 (by simp))
          have I3 := Lib.hid i3
          unfold maxLen at m3
          clear hw1 i3 k9 d0 d1 d4
          generalize wc = w15 at *
          go_upto_region 20 with (first
            | (go_at_call 13; refine (with_any (some ⟨g, 0, none⟩) (16 * (D + 12)) c' zs AT A3 80 c3 gl w15 (IZ.out.keep0 KW.out) (by omega) I3.out HFIT.out HWS.out HBL.out).mono ?_; rw [HZL.out]; rintro e w16 ⟨g5, c5, rfl, hA, k5, -⟩; have IW := Lib.hid (show IntsAt w16 (some ⟨g5, 0, none⟩) (16 * (D + 12)) (withB zs AT gl) by have h := hA.ints; rw [withB_len HFIT.out, HZL.out] at h; exact h); have LW := Lib.hid (show 16 * (D + 12) ≤ c5 ∧ c5 ≤ maxLen by have h := hA.le; rw [withB_len HFIT.out, HZL.out] at h; exact ⟨h, hA.cm⟩); have K16 := Lib.hid (KW.out.trans0 k5); have HF16 := Lib.hid (HF15.out.keep k5 (by simp)); clear hA k5)
            | (go_at_call 6; refine (scan_any _ (16 * (D + 12)) c5 (withB zs AT gl) _ (HT.out.keep (KR.out.trans0 K16.out)) IW.out LW.out.1 LW.out.2 (with_64 H64Z.out HWS.out)).mono ?_; rw [HSC3.out]; rintro e w17 ⟨rfl, k17⟩; have h7 : FAt (w17.alloc (.cells (fndV fnd0) 28)) w17.heap.size 28 [] fnd0 := heap_alloc_new w17 _; have hv7 : FAt (w17.alloc (.cells (fndV fnd0) 28)) w2.heap.size 28 [] S := heap_alloc_held (HF16.out.keep k17 (by simp)) _; have hl7 : w2.heap.size < w17.heap.size := (HF16.out.keep k17 (by simp)).lt; have K17 := Lib.hid (K16.out.trans0 k17); clear k17)
            | (simp only [zeros48])
            | (refine st_fnd _ _ h7 HL0.out HSL3.out rfl rfl rfl rfl ?_; intro w18 h18 k18 s18; simp only [Act.put]; have hv18 := hv7.keep k18 (by simp; omega); have y0 : w18.cell? ⟨w17.heap.size, 0, none⟩ = some (.bool true) := (by rw [← HS3.out.1]; exact h18.has); have y3 : w18.cell? ⟨w17.heap.size, 46, none⟩ = some (.int .i64 (S.com + 1)) := (by rw [← HS3.out.2]; exact h18.com HSL3.out); have z3 : w18.cell? ⟨w2.heap.size, 46, none⟩ = some (.int .i64 S.com) := hv18.com HSL.out; have y2 : w18.cell? ⟨w17.heap.size, 2, none⟩ = some (.int .i64 V) := (by have h := h18.live (i := 0) (by rw [HSL3.out]; omega); rw [HLV.out] at h; exact h); have K18 := Lib.hid ((K17.out.alloc (.cells (fndV fnd0) 28)).trans k18 (by intro x hx; right; have := K17.out.size; simp at hx; omega)); clear h18 hv18 hv7 h7 hl7 k18 s18))
          have hw3 : IntKind.i64.wrap (S.com + 1) = S.com + 1 := IntWalk.i64_in _ (by omega)
          go_quiet ((go_at_call 10; refine Calls.quiet_of_same (among_at65 more V _ HV.out)))
          go_wp2_with fail
          all_goals (go_ret; exact ⟨rfl, KR.out.trans0 (K18.out.drewN _)⟩)
      · obtain ⟨rfl, rfl⟩ := h
        as_aux_lemma =>
          have hf2 : (F2 : Int) = (S.free : Int) + 3 := by omega
          have HF2I := Lib.hid hf2
          have hF64 : (F2 : Int) ≤ 1000 := by omega
          have hneF : ((F2 : Int) != (S.free : Int) + 3) = false := by rw [hf2]; simp
          have hwF : IntKind.i64.wrap ((S.free : Int) + 3) = (S.free : Int) + 3 := IntWalk.i64_in _ (by omega)
          clear hF2v hf2
          go_upto_region 15 with (first
            | (go_at_call 6; refine (scan_any _ (16 * (D + 12)) c' zs _ (HT.out.keep KR.out) IZ.out LZ.out.1 LZ.out.2 H64Z.out).mono ?_; rw [HSC.out]; rintro e w12 ⟨rfl, k12⟩; have h7 : FAt (w12.alloc (.cells (fndV fnd0) 28)) w12.heap.size 28 [] fnd0 := heap_alloc_new w12 _; have hv7 : FAt (w12.alloc (.cells (fndV fnd0) 28)) w2.heap.size 28 [] S := heap_alloc_held (HFR.out.keep k12 (by simp)) _; have hl7 : w2.heap.size < w12.heap.size := (HFR.out.keep k12 (by simp)).lt; have K12 := Lib.hid k12; clear k12)
            | (simp only [zeros48])
            | (refine st_fnd _ _ h7 HL0.out HSL2.out rfl rfl rfl rfl ?_; intro w13 h13 k13 s13; simp only [Act.put]; have HV13 := Lib.hid (hv7.keep k13 (by simp; omega)); have HU := Lib.hid h13; have x4 : w13.cell? ⟨w12.heap.size, 47, none⟩ = some (.int .i64 (F2 : Int)) := (by rw [HF2.out]; exact h13.free HSL2.out); have d4 : w13.cell? ⟨w2.heap.size, 47, none⟩ = some (.int .i64 (S.free : Int)) := HV13.out.free HSL.out; have ff := HU.out.frozen 47; have K13 := Lib.hid ((K12.out.alloc (.cells (fndV fnd0) 28)).trans k13 (by intro x hx; right; have := K12.out.size; simp at hx; omega)); have HLT := Lib.hid hl7; clear h13 hv7 h7 hl7 k13))
          go_upto_region 16 with fail
          have hU : FAt (w13.setCell ⟨w12.heap.size, 47, none⟩ (.int .i64 (S.free : Int))) w12.heap.size 28 [] S := (by
            have h := HU.out.setFree HSL2.out S.free
            have e : ({ S2 with free := S.free } : Fnd) = S := by rw [HS2.out]
            rw [e] at h
            exact h)
          have hV : FAt (w13.setCell ⟨w12.heap.size, 47, none⟩ (.int .i64 (S.free : Int))) w2.heap.size 28 [] S := HV13.out.keep (F := [w12.heap.size]) ((Keeps.refl _ _).setCell (.inl (by simp)) _) (by have := HLT.out; simp; omega)
          have kU : Keeps [] wr (w13.setCell ⟨w12.heap.size, 47, none⟩ (.int .i64 (S.free : Int))) := K13.out.setCell (.inr (by have := K12.out.size; simpa using this)) _
          clear x4 d4 ff
          generalize w13.setCell ⟨w12.heap.size, 47, none⟩ (.int .i64 (S.free : Int)) = w14 at *
          have d4 : w14.cell? ⟨w2.heap.size, 47, none⟩ = some (.int .i64 (S.free : Int)) := hV.free HSL.out
          have HUU := Lib.hid hU
          have HVV := Lib.hid hV
          have KU := Lib.hid kU
          clear hU hV kU
          go_upto_region 18 with (first
            | (refine ld_fnd _ HUU.out HSL.out rfl rfl rfl ?_; simp only [Act.put])
            | (refine ld_fnd _ HVV.out HSL.out rfl rfl rfl ?_; simp only [Act.put])
            | (refine ne_fnd _ _ _ HSL.out rfl rfl rfl rfl ?_; simp only [Act.put]))
          clear hneF hwF
          have d1 : w14.cell? ⟨w2.heap.size, 1, none⟩ = some (.int .i64 S.seq) := HVV.out.seq
          have d0 : w14.cell? ⟨w2.heap.size, 0, none⟩ = some (.bool false) := (by rw [← HB.out]; exact HVV.out.has)
          have hw1 : IntKind.i64.wrap (S.seq + 1) = S.seq + 1 := IntWalk.i64_in _ (by omega)
          go_cut [12, 13, 14] from 87 to 100 (fun s7 s8 s9 wx => ∃ A3 c3, s7 = .slice A3 80 c3 ∧ s8 = .int .i64 (AT : Int) ∧ s9 = .int .i64 0 ∧ IntsAt wx A3 80 gl ∧ 80 ≤ c3 ∧ c3 ≤ maxLen ∧ Keeps [] w14 wx)
          case first =>
            go_region_held3 (fun wz => wz.cell? ⟨w2.heap.size, 1, none⟩ = some (.int .i64 S.seq) ∧ wz.cell? ⟨w2.heap.size, 0, none⟩ = some (.bool false)) (first | exact ⟨d1, d0⟩ | exact ⟨p1, p0⟩ | exact ⟨q1, q0⟩ | go_keep) (first
              | (go_at_call 12; refine (all_any more _).mono ?_; rw [kinds_all]; rintro e w9 ⟨a2, c2, rfl, r2, l2, m2, k9⟩; have R2 := Lib.hid r2; have k9' := ((Keeps.refl [] w14).drewN 1).trans0 k9; have K9' := Lib.hid (show Keeps [] w14 w9 from k9'); have HF9 := Lib.hid (HVV.out.keep k9' (by simp)); have p1 : w9.cell? ⟨w2.heap.size, 1, none⟩ = some (.int .i64 S.seq) := HF9.out.seq; have p0 : w9.cell? ⟨w2.heap.size, 0, none⟩ = some (.bool false) := (by rw [← HB.out]; exact HF9.out.has); clear r2 k9 k9')
              | (go_at_call 11; refine (put_any (some ⟨g, 0, none⟩) (16 * (D + 12)) c' zs (S.seq + 1) true a2 4 c2 (allL more) _ (HT.out.keep (KR.out.trans0 (KU.out.trans0 K9'.out))) (IZ.out.keep0 (KU.out.trans0 K9'.out)) LZ.out.1 LZ.out.2 R2.out (by omega) HQ.out (allL_64 more)).mono ?_; rw [← HG.out]; rintro e w10' ⟨A3, c3, rfl, i3, k3, l3, m3⟩; have K10' := Lib.hid (K9'.out.trans0 k3); have I3 := Lib.hid i3; have L3 := Lib.hid (And.intro l3 m3); have q1 : w10'.cell? ⟨w2.heap.size, 1, none⟩ = some (.int .i64 S.seq) := (HF9.out.keep k3 (by simp)).seq; have q0 : w10'.cell? ⟨w2.heap.size, 0, none⟩ = some (.bool false) := (by rw [← HB.out]; exact (HF9.out.keep k3 (by simp)).has); clear i3 k3 l3 m3))
            all_goals (go_wp2_with fail; go_meet; exact ⟨A3, c3, (by rw [← HGL.out]), rfl, rfl, (by have h := I3.out; simp only [HGL.out] at h; exact h), (by have h := L3.out.1; simp only [HGL.out] at h; exact h), L3.out.2, K10'.out⟩)
          case rest =>
          obtain ⟨A3, c3, rfl, rfl, rfl, i3, l3, m3, k9⟩ := hcut
          have KW := Lib.hid (KU.out.trans0 k9)
          have HF15 := Lib.hid (HVV.out.keep k9 (by simp))
          have I3 := Lib.hid i3
          unfold maxLen at m3
          clear hw1 i3 k9 d0 d1 d4
          generalize wc = w15 at *
          go_upto_region 20 with (first
            | (go_at_call 13; refine (with_any (some ⟨g, 0, none⟩) (16 * (D + 12)) c' zs AT A3 80 c3 gl w15 (IZ.out.keep0 KW.out) (by omega) I3.out HFIT.out HWS.out HBL.out).mono ?_; rw [HZL.out]; rintro e w16 ⟨g5, c5, rfl, hA, k5, -⟩; have IW := Lib.hid (show IntsAt w16 (some ⟨g5, 0, none⟩) (16 * (D + 12)) (withB zs AT gl) by have h := hA.ints; rw [withB_len HFIT.out, HZL.out] at h; exact h); have LW := Lib.hid (show 16 * (D + 12) ≤ c5 ∧ c5 ≤ maxLen by have h := hA.le; rw [withB_len HFIT.out, HZL.out] at h; exact ⟨h, hA.cm⟩); have K16 := Lib.hid (KW.out.trans0 k5); have HF16 := Lib.hid (HF15.out.keep k5 (by simp)); clear hA k5)
            | (go_at_call 6; refine (scan_any _ (16 * (D + 12)) c5 (withB zs AT gl) _ (HT.out.keep (KR.out.trans0 K16.out)) IW.out LW.out.1 LW.out.2 (with_64 H64Z.out HWS.out)).mono ?_; rw [HSC3.out]; rintro e w17 ⟨rfl, k17⟩; have h7 : FAt (w17.alloc (.cells (fndV fnd0) 28)) w17.heap.size 28 [] fnd0 := heap_alloc_new w17 _; have hv7 : FAt (w17.alloc (.cells (fndV fnd0) 28)) w2.heap.size 28 [] S := heap_alloc_held (HF16.out.keep k17 (by simp)) _; have hl7 : w2.heap.size < w17.heap.size := (HF16.out.keep k17 (by simp)).lt; have K17 := Lib.hid (K16.out.trans0 k17); clear k17)
            | (simp only [zeros48])
            | (refine st_fnd _ _ h7 HL0.out HSL3.out rfl rfl rfl rfl ?_; intro w18 h18 k18 s18; simp only [Act.put]; have hv18 := hv7.keep k18 (by simp; omega); have y0 : w18.cell? ⟨w17.heap.size, 0, none⟩ = some (.bool true) := (by rw [← HS3.out.1]; exact h18.has); have y3 : w18.cell? ⟨w17.heap.size, 46, none⟩ = some (.int .i64 (S.com + 1)) := (by rw [← HS3.out.2]; exact h18.com HSL3.out); have z3 : w18.cell? ⟨w2.heap.size, 46, none⟩ = some (.int .i64 S.com) := hv18.com HSL.out; have y2 : w18.cell? ⟨w17.heap.size, 2, none⟩ = some (.int .i64 V) := (by have h := h18.live (i := 0) (by rw [HSL3.out]; omega); rw [HLV.out] at h; exact h); have K18 := Lib.hid ((K17.out.alloc (.cells (fndV fnd0) 28)).trans k18 (by intro x hx; right; have := K17.out.size; simp at hx; omega)); clear h18 hv18 hv7 h7 hl7 k18 s18))
          have hw3 : IntKind.i64.wrap (S.com + 1) = S.com + 1 := IntWalk.i64_in _ (by omega)
          go_quiet ((go_at_call 10; refine Calls.quiet_of_same (among_at65 more V _ HV.out)))
          go_wp2_with fail
          all_goals (go_ret; exact ⟨rfl, KR.out.trans0 (K18.out.drewN _)⟩)
      · obtain ⟨h3, rfl⟩ := h
        have h3' : (3 : Int) < (nt : Int) := by omega
        have h3'' : ¬ (nt : Int) < 3 := by omega
        as_aux_lemma =>
          have hf2 : (F2 : Int) = (S.free : Int) + 3 := by omega
          have HF2I := Lib.hid hf2
          have hF64 : (F2 : Int) ≤ 1000 := by omega
          have hneF : ((F2 : Int) != (S.free : Int) + 3) = false := by rw [hf2]; simp
          have hwF : IntKind.i64.wrap ((S.free : Int) + 3) = (S.free : Int) + 3 := IntWalk.i64_in _ (by omega)
          clear hF2v hf2
          go_upto_region 15 with (first
            | (go_at_call 6; refine (scan_any _ (16 * (D + 12)) c' zs _ (HT.out.keep KR.out) IZ.out LZ.out.1 LZ.out.2 H64Z.out).mono ?_; rw [HSC.out]; rintro e w12 ⟨rfl, k12⟩; have h7 : FAt (w12.alloc (.cells (fndV fnd0) 28)) w12.heap.size 28 [] fnd0 := heap_alloc_new w12 _; have hv7 : FAt (w12.alloc (.cells (fndV fnd0) 28)) w2.heap.size 28 [] S := heap_alloc_held (HFR.out.keep k12 (by simp)) _; have hl7 : w2.heap.size < w12.heap.size := (HFR.out.keep k12 (by simp)).lt; have K12 := Lib.hid k12; clear k12)
            | (simp only [zeros48])
            | (refine st_fnd _ _ h7 HL0.out HSL2.out rfl rfl rfl rfl ?_; intro w13 h13 k13 s13; simp only [Act.put]; have HV13 := Lib.hid (hv7.keep k13 (by simp; omega)); have HU := Lib.hid h13; have x4 : w13.cell? ⟨w12.heap.size, 47, none⟩ = some (.int .i64 (F2 : Int)) := (by rw [HF2.out]; exact h13.free HSL2.out); have d4 : w13.cell? ⟨w2.heap.size, 47, none⟩ = some (.int .i64 (S.free : Int)) := HV13.out.free HSL.out; have ff := HU.out.frozen 47; have K13 := Lib.hid ((K12.out.alloc (.cells (fndV fnd0) 28)).trans k13 (by intro x hx; right; have := K12.out.size; simp at hx; omega)); have HLT := Lib.hid hl7; clear h13 hv7 h7 hl7 k13))
          go_upto_region 16 with fail
          have hU : FAt (w13.setCell ⟨w12.heap.size, 47, none⟩ (.int .i64 (S.free : Int))) w12.heap.size 28 [] S := (by
            have h := HU.out.setFree HSL2.out S.free
            have e : ({ S2 with free := S.free } : Fnd) = S := by rw [HS2.out]
            rw [e] at h
            exact h)
          have hV : FAt (w13.setCell ⟨w12.heap.size, 47, none⟩ (.int .i64 (S.free : Int))) w2.heap.size 28 [] S := HV13.out.keep (F := [w12.heap.size]) ((Keeps.refl _ _).setCell (.inl (by simp)) _) (by have := HLT.out; simp; omega)
          have kU : Keeps [] wr (w13.setCell ⟨w12.heap.size, 47, none⟩ (.int .i64 (S.free : Int))) := K13.out.setCell (.inr (by have := K12.out.size; simpa using this)) _
          clear x4 d4 ff
          generalize w13.setCell ⟨w12.heap.size, 47, none⟩ (.int .i64 (S.free : Int)) = w14 at *
          have d4 : w14.cell? ⟨w2.heap.size, 47, none⟩ = some (.int .i64 (S.free : Int)) := hV.free HSL.out
          have HUU := Lib.hid hU
          have HVV := Lib.hid hV
          have KU := Lib.hid kU
          clear hU hV kU
          go_upto_region 18 with (first
            | (refine ld_fnd _ HUU.out HSL.out rfl rfl rfl ?_; simp only [Act.put])
            | (refine ld_fnd _ HVV.out HSL.out rfl rfl rfl ?_; simp only [Act.put])
            | (refine ne_fnd _ _ _ HSL.out rfl rfl rfl rfl ?_; simp only [Act.put]))
          clear hneF hwF
          have d1 : w14.cell? ⟨w2.heap.size, 1, none⟩ = some (.int .i64 S.seq) := HVV.out.seq
          have d0 : w14.cell? ⟨w2.heap.size, 0, none⟩ = some (.bool false) := (by rw [← HB.out]; exact HVV.out.has)
          have hw1 : IntKind.i64.wrap (S.seq + 1) = S.seq + 1 := IntWalk.i64_in _ (by omega)
          go_cut [12, 13, 14] from 87 to 100 (fun s7 s8 s9 wx => ∃ A3 c3, s7 = .slice A3 80 c3 ∧ s8 = .int .i64 (AT : Int) ∧ s9 = .int .i64 0 ∧ IntsAt wx A3 80 gl ∧ 80 ≤ c3 ∧ c3 ≤ maxLen ∧ Keeps [] w14 wx)
          case first =>
            go_region_held3 (fun wz => wz.cell? ⟨w2.heap.size, 1, none⟩ = some (.int .i64 S.seq) ∧ wz.cell? ⟨w2.heap.size, 0, none⟩ = some (.bool false)) (first | exact ⟨d1, d0⟩ | exact ⟨p1, p0⟩ | exact ⟨q1, q0⟩ | go_keep) (first
              | (go_at_call 12; refine (all_any more _).mono ?_; rw [kinds_all]; rintro e w9 ⟨a2, c2, rfl, r2, l2, m2, k9⟩; have R2 := Lib.hid r2; have k9' := ((Keeps.refl [] w14).drewN 1).trans0 k9; have K9' := Lib.hid (show Keeps [] w14 w9 from k9'); have HF9 := Lib.hid (HVV.out.keep k9' (by simp)); have p1 : w9.cell? ⟨w2.heap.size, 1, none⟩ = some (.int .i64 S.seq) := HF9.out.seq; have p0 : w9.cell? ⟨w2.heap.size, 0, none⟩ = some (.bool false) := (by rw [← HB.out]; exact HF9.out.has); clear r2 k9 k9')
              | (go_at_call 11; refine (put_any (some ⟨g, 0, none⟩) (16 * (D + 12)) c' zs (S.seq + 1) true a2 4 c2 (allL more) _ (HT.out.keep (KR.out.trans0 (KU.out.trans0 K9'.out))) (IZ.out.keep0 (KU.out.trans0 K9'.out)) LZ.out.1 LZ.out.2 R2.out (by omega) HQ.out (allL_64 more)).mono ?_; rw [← HG.out]; rintro e w10' ⟨A3, c3, rfl, i3, k3, l3, m3⟩; have K10' := Lib.hid (K9'.out.trans0 k3); have I3 := Lib.hid i3; have L3 := Lib.hid (And.intro l3 m3); have q1 : w10'.cell? ⟨w2.heap.size, 1, none⟩ = some (.int .i64 S.seq) := (HF9.out.keep k3 (by simp)).seq; have q0 : w10'.cell? ⟨w2.heap.size, 0, none⟩ = some (.bool false) := (by rw [← HB.out]; exact (HF9.out.keep k3 (by simp)).has); clear i3 k3 l3 m3))
            all_goals (go_wp2_with fail; go_meet; exact ⟨A3, c3, (by rw [← HGL.out]), rfl, rfl, (by have h := I3.out; simp only [HGL.out] at h; exact h), (by have h := L3.out.1; simp only [HGL.out] at h; exact h), L3.out.2, K10'.out⟩)
          case rest =>
          obtain ⟨A3, c3, rfl, rfl, rfl, i3, l3, m3, k9⟩ := hcut
          have KW := Lib.hid (KU.out.trans0 k9)
          have HF15 := Lib.hid (HVV.out.keep k9 (by simp))
          have I3 := Lib.hid i3
          unfold maxLen at m3
          clear hw1 i3 k9 d0 d1 d4
          generalize wc = w15 at *
          go_upto_region 20 with (first
            | (go_at_call 13; refine (with_any (some ⟨g, 0, none⟩) (16 * (D + 12)) c' zs AT A3 80 c3 gl w15 (IZ.out.keep0 KW.out) (by omega) I3.out HFIT.out HWS.out HBL.out).mono ?_; rw [HZL.out]; rintro e w16 ⟨g5, c5, rfl, hA, k5, -⟩; have IW := Lib.hid (show IntsAt w16 (some ⟨g5, 0, none⟩) (16 * (D + 12)) (withB zs AT gl) by have h := hA.ints; rw [withB_len HFIT.out, HZL.out] at h; exact h); have LW := Lib.hid (show 16 * (D + 12) ≤ c5 ∧ c5 ≤ maxLen by have h := hA.le; rw [withB_len HFIT.out, HZL.out] at h; exact ⟨h, hA.cm⟩); have K16 := Lib.hid (KW.out.trans0 k5); have HF16 := Lib.hid (HF15.out.keep k5 (by simp)); clear hA k5)
            | (go_at_call 6; refine (scan_any _ (16 * (D + 12)) c5 (withB zs AT gl) _ (HT.out.keep (KR.out.trans0 K16.out)) IW.out LW.out.1 LW.out.2 (with_64 H64Z.out HWS.out)).mono ?_; rw [HSC3.out]; rintro e w17 ⟨rfl, k17⟩; have h7 : FAt (w17.alloc (.cells (fndV fnd0) 28)) w17.heap.size 28 [] fnd0 := heap_alloc_new w17 _; have hv7 : FAt (w17.alloc (.cells (fndV fnd0) 28)) w2.heap.size 28 [] S := heap_alloc_held (HF16.out.keep k17 (by simp)) _; have hl7 : w2.heap.size < w17.heap.size := (HF16.out.keep k17 (by simp)).lt; have K17 := Lib.hid (K16.out.trans0 k17); clear k17)
            | (simp only [zeros48])
            | (refine st_fnd _ _ h7 HL0.out HSL3.out rfl rfl rfl rfl ?_; intro w18 h18 k18 s18; simp only [Act.put]; have hv18 := hv7.keep k18 (by simp; omega); have y0 : w18.cell? ⟨w17.heap.size, 0, none⟩ = some (.bool true) := (by rw [← HS3.out.1]; exact h18.has); have y3 : w18.cell? ⟨w17.heap.size, 46, none⟩ = some (.int .i64 (S.com + 1)) := (by rw [← HS3.out.2]; exact h18.com HSL3.out); have z3 : w18.cell? ⟨w2.heap.size, 46, none⟩ = some (.int .i64 S.com) := hv18.com HSL.out; have y2 : w18.cell? ⟨w17.heap.size, 2, none⟩ = some (.int .i64 V) := (by have h := h18.live (i := 0) (by rw [HSL3.out]; omega); rw [HLV.out] at h; exact h); have K18 := Lib.hid ((K17.out.alloc (.cells (fndV fnd0) 28)).trans k18 (by intro x hx; right; have := K17.out.size; simp at hx; omega)); clear h18 hv18 hv7 h7 hl7 k18 s18))
          have hw3 : IntKind.i64.wrap (S.com + 1) = S.com + 1 := IntWalk.i64_in _ (by omega)
          go_quiet ((go_at_call 10; refine Calls.quiet_of_same (among_at65 more V _ HV.out)))
          go_wp2_with fail
          all_goals (go_ret; exact ⟨rfl, KR.out.trans0 (K18.out.drewN _)⟩)

theorem gtorn_any (a : Option Addr) (n c : Nat) (xs : List Int) (ta : Option Addr) (nt ct : Nat) (ts : List Int) (more : Int) (w : World) (ht : Turns w) (hi : IntsAt w a n xs) (hn : n ≤ c) (hc : c ≤ maxLen) (h64 : ∀ x ∈ xs, I64 x)
    (hti : IntsAt w ta nt ts) (hnt : nt ≤ ct) (hct : ct ≤ maxLen) (hm : I64 more) :
    Calls Tryd.prog 3 #[.slice a n c, .slice ta nt ct, .int .i64 more] w fun e w' => e = .returned (.bool true) ∧ Keeps [] w w' := by
  by_cases hne : (scanR (xs.take (fewN n))).seq = 4294967295
  · exact gtorn_top a n c xs ta nt ct ts more w ht hi hn hc h64 hti hnt hct hm hne
  · rcases hb : (scanR (xs.take (fewN n))).has with _ | _
    · exact gtorn_f a n c xs ta nt ct ts more w ht hi hn hc h64 hti hnt hct hm hb hne
    · exact gtorn_t a n c xs ta nt ct ts more w ht hi hn hc h64 hti hnt hct hm hb hne

end Go.Proofs.YtihpmnnbiabggaaDoor
