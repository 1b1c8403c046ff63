
/- A raw write that the power lets: the contract of the closure that every word goes through. -/
import Derived.Test.YtcaphgokckkmfaaLD
import Derived.Test.YtcaphgokckkmfaaAp
import Derived.Deep.DeepCutAuto
import Derived.Deep.RegionLaw
import Derived.StillTailTactics
import Derived.WalkSpells
namespace Go.Proofs.Ytcaphgokckkmfaa
open Go.RowKit
set_option maxRecDepth 100000
set_option linter.unusedVariables false

theorem Try.info80 : (Try.prog.info? 80).map (fun i => (i.zero, i.size, i.bytes)) = some (some (.agg #[.bool false, .int .i64 0, .int .i64 0]), 3, 24) := by kernel_rfl

/-- In the midst of a raw write: the flash, the captured pointer, the box that holds the raw write. -/
structure Mid (w0 wx : World) (p b bw be : Nat) (dv dv0 : Value) (s : FS) (r : Raw3) : Prop where
  fl : Fl wx b bw be dv s
  cp : wx.cell? ⟨p, 0, none⟩ = some (.pointer (some ⟨b, 0, none⟩))
  r0 : wx.cell? ⟨w0.heap.size, 0, none⟩ = some (.bool r.1)
  r1 : wx.cell? ⟨w0.heap.size, 1, none⟩ = some (.int .i64 r.2.1)
  r2 : wx.cell? ⟨w0.heap.size, 2, none⟩ = some (.int .i64 r.2.2)
  keep : Keeps (foot b bw be dv0) w0 wx
  new : ∀ k, dv.ownBlock = some k → dv0.ownBlock = some k ∨ w0.heap.size < k
  fresh : w0.heap.size ∉ foot b bw be dv
  pn : p ∉ foot b bw be dv
  pl : p < w0.heap.size

theorem mem_foot {b bw be k : Nat} {dv : Value} : k ∈ foot b bw be dv ↔ k = b ∨ k = bw ∨ k = be ∨ dv.ownBlock = some k := by simp [foot]

theorem Mid.turn {w0 wx wx' : World} {p b bw be : Nat} {dv dv' dv0 : Value} {s s' : FS} {r : Raw3} (h : Mid w0 wx p b bw be dv dv0 s r) (hk : Keeps (foot b bw be dv) wx wx')
    (hf : Fl wx' b bw be dv' s') (hn : ∀ k, dv'.ownBlock = some k → dv.ownBlock = some k ∨ wx.heap.size ≤ k) : Mid w0 wx' p b bw be dv' dv0 s' r := by
  have l0 := World.block_lt_of_cell? _ _ h.r0
  simp only at l0
  have hs := h.keep.size
  have pl := h.pl
  refine ⟨hf, (hk.cell (by simp only; omega) h.pn).trans h.cp, (hk.cell l0 h.fresh).trans h.r0, (hk.cell l0 h.fresh).trans h.r1, (hk.cell l0 h.fresh).trans h.r2, h.keep.trans hk ?_, ?_, ?_, ?_, pl⟩
  · intro x hx
    rw [mem_foot] at hx ⊢
    rcases hx with hx | hx | hx | hx
    · exact .inl (.inl hx)
    · exact .inl (.inr (.inl hx))
    · exact .inl (.inr (.inr (.inl hx)))
    · rcases h.new x hx with h1 | h1
      · exact .inl (.inr (.inr (.inr h1)))
      · exact .inr (by omega)
  · intro k e
    rcases hn k e with h1 | h1
    · exact h.new k h1
    · exact .inr (by omega)
  · intro hx
    rw [mem_foot] at hx
    have hfr := h.fresh
    rw [mem_foot] at hfr
    rcases hx with hx | hx | hx | hx
    · exact hfr (.inl hx)
    · exact hfr (.inr (.inl hx))
    · exact hfr (.inr (.inr (.inl hx)))
    · rcases hn _ hx with h1 | h1
      · exact hfr (.inr (.inr (.inr h1)))
      · omega
  · intro hx
    rw [mem_foot] at hx
    have hfr := h.pn
    rw [mem_foot] at hfr
    rcases hx with hx | hx | hx | hx
    · exact hfr (.inl hx)
    · exact hfr (.inr (.inl hx))
    · exact hfr (.inr (.inr (.inl hx)))
    · rcases hn _ hx with h1 | h1
      · exact hfr (.inr (.inr (.inr h1)))
      · omega

theorem Mid.app {w0 wc w' : World} {p b bw be : Nat} {dv dv' dv0 : Value} {s : FS} {r : Raw3} {o : Obj} (h : Mid w0 wc p b bw be dv dv0 s r) (hg : (wc.alloc o).drew.grownBy w' dv.ownBlock)
    (ho : w'.ownsRow 0 80 3 dv' (s.done.length + 1) (rawCells s.done ++ [Value.bool r.1, .int .i64 r.2.1, .int .i64 r.2.2]))
    (hn : ∀ k, dv'.ownBlock = some k → dv.ownBlock = some k ∨ (wc.alloc o).drew.heap.size ≤ k) : Mid w0 (w'.setCell ⟨b, 6, none⟩ dv') p b bw be dv' dv0 { s with done := s.done ++ [r] } r := by
  have hf := ((h.fl.alloc o).drew).setD hg (by rw [rawCells_snoc]; exact ho) hn
  refine h.turn ((((Keeps.refl _ _).alloc o).drew.grown hg ?_).setCell (.inl (by simp [foot])) _) hf ?_
  · intro k e; left; rw [mem_foot]; exact .inr (.inr (.inr e))
  · intro k e
    rcases hn k e with h1 | h1
    · exact .inl h1
    · right; simp at h1; omega

theorem Mid.start {w w1 : World} {p b bw be : Nat} {dv : Value} {s : FS} {r1 : Bool} {k v : Int} (hF : Fl w1 b bw be dv s) (hp : w1.cell? ⟨p, 0, none⟩ = some (.pointer (some ⟨b, 0, none⟩)))
    (hs : w1.heap.size = w.heap.size) (hk : Keeps (foot b bw be dv) w w1) (hpn : p ∉ foot b bw be dv) :
    Mid w (w1.alloc (.cells #[.bool r1, .int .i64 k, .int .i64 v] 80)) p b bw be dv dv s (r1, k, v) := by
  have lp := World.block_lt_of_cell? _ _ hp
  simp only at lp
  have e : ∀ i, (w1.alloc (.cells #[.bool r1, .int .i64 k, .int .i64 v] 80)).cell? ⟨w.heap.size, i, none⟩ = (#[.bool r1, .int .i64 k, .int .i64 v] : Array Value)[i]? := by
    intro i; rw [← hs]; exact World.cell?_alloc_new w1 _ 80 i
  exact ⟨hF.alloc _, (World.cell?_alloc_lt _ _ _ lp).trans hp, e 0, e 1, e 2, hk.alloc _, fun k e => .inl e, fun hx => by have := hF.lt _ hx; omega, hpn, by omega⟩

theorem cells3_new (w : World) (x y z : Value) (t : TypeId) : ∀ j u, ([x, y, z] : List Value)[j]? = some u → (w.alloc (.cells #[x, y, z] t)).cell? ((⟨w.heap.size, 0, none⟩ : Addr).add j) = some u := by
  intro j u hu
  have hadd : (⟨w.heap.size, 0, none⟩ : Addr).add j = ⟨w.heap.size, j, none⟩ := by unfold Addr.add; split <;> simp_all
  rw [hadd, World.cell?_alloc_new]
  simpa using hu

set_option maxHeartbeats 1000000 in
theorem raw_put (p b bw be : Nat) (dv : Value) (s : FS) (r1 : Bool) (k : Nat) (v : Int) (w : World) (hF : Fl w b bw be dv s)
    (hp : w.cell? ⟨p, 0, none⟩ = some (.pointer (some ⟨b, 0, none⟩))) (hpn : p ∉ foot b bw be dv) (hcut : s.cut ≠ 0) (hcb : -9223372036854775808 ≤ s.cut ∧ s.cut ≤ 9223372036854775807)
    (hk : k < s.w.length) (hwl : s.w.length ≤ 1000000) (hn : 1 ≤ s.n) (hn2 : s.n ≤ 1000000) (hke : ((k : Int) / s.n).toNat < s.er.length)
    (hel : s.er.length ≤ 1000000) (hev : ∀ i, 0 ≤ s.er.getD i 0 ∧ s.er.getD i 0 ≤ 1000000000) (hd : s.done.length ≤ 1000000000) :
    Calls Try.prog 67 #[.agg #[.bool r1, .int .i64 k, .int .i64 v], .pointer (some ⟨p, 0, none⟩)] w fun e w' =>
      e = .returned (.bool true) ∧ ∃ dv', Fl w' b bw be dv' (s.put (r1, k, v)) ∧ Keeps (foot b bw be dv) w w' ∧ ∀ j, dv'.ownBlock = some j → dv.ownBlock = some j ∨ w.heap.size ≤ j := by
  have hc0 : (s.cut == 0) = false := by simpa using hcut
  have lp := World.block_lt_of_cell? _ _ hp
  simp only at lp
  have lb := hF.lb
  have c4 := hF.c4
  have f4 := hF.fz 4
  obtain ⟨s1, hs1⟩ : ∃ s1 : FS, s1 = { s with cut := if s.cut > 0 then s.cut - 1 else s.cut } := ⟨_, rfl⟩
  obtain ⟨s2, hs2⟩ : ∃ s2 : FS, s2 = { s1 with w := s1.w.set k (wordAfter (s1.w.getD k 0) (r1, (k : Int), v)) } := ⟨_, rfl⟩
  obtain ⟨s3, hs3⟩ : ∃ s3 : FS, s3 = { s2 with done := s2.done ++ [(r1, (k : Int), v)] } := ⟨_, rfl⟩
  have e1 : s1.w = s.w ∧ s1.er = s.er ∧ s1.n = s.n ∧ s1.done = s.done := by subst hs1; simp
  have e2 : s2.done = s.done := by subst hs2; subst hs1; simp
  have e3 : s3.er = s.er ∧ s3.n = s.n := by subst hs3; subst hs2; subst hs1; simp
  have k1 : k < s1.w.length := by rw [e1.1]; exact hk
  have k1l : s1.w.length ≤ 1000000 := by rw [e1.1]; exact hwl
  have E1 := Lib.hid e1
  have E2 := Lib.hid e2
  have E3 := Lib.hid e3
  have H1 := Lib.hid hs1
  have H2 := Lib.hid hs2
  have H3 := Lib.hid hs3
  clear hs1 hs2 hs3 e1 e2 e3
  have nb : b ∈ foot b bw be dv := by simp [foot]
  have nbw : bw ∈ foot b bw be dv := by simp [foot]
  have pb : p ≠ b := fun e => hpn (e ▸ nb)
  go_enter Try.func67, Try.ntmps67
  go_upto_if 16 with (fail)
  go_cut [] (fun wx => Mid w wx p b bw be dv dv s1 (r1, (k : Int), v))
  case first =>
    by_cases hpos : 0 < s.cut
    · go_wp2
      go_meet
      case rel =>
        rw [H1.out, if_pos hpos]
        exact Mid.start (hF.setCut (s.cut - 1)) ((World.cell?_setCell_other _ _ _ _ (by simp)).trans hp) (by simp) ((Keeps.refl _ _).setCell (.inl nb) _) hpn
    · go_wp2
      go_meet
      case rel =>
        rw [H1.out, if_neg (by omega)]
        exact Mid.start hF hp rfl (Keeps.refl _ _) hpn
  case rest =>
    rename_i hcut0
    clear c4 f4 hc0
    go_upto_region 6 with (fail)
    go_cut [] (fun wx => Mid w wx p b bw be dv dv s2 (r1, (k : Int), v))
    case first =>
      have g1 := hcut.cp
      have g2 := hcut.r0
      have g3 := hcut.r1
      have g4 := hcut.r2
      have g5 := hcut.fl.c0
      have g6 := hcut.fl.cw k1
      have g7 := hcut.fl.fw k
      go_still_tail 5, (by kernel_rfl)
      change wpList _ _ _ _ _ wc.drew
      cases r1
      · go_wp2_with (go_at_call 68; refine (write_prog bw s1.w.length s1.w.length k v (s1.w.getD k 0) wc.drew (by unfold maxLen; omega) k1 g6 g7).mono ?_; rintro e w' ⟨rfl, ha⟩)
        go_meet
        case rel =>
          rw [H2.out]
          have hk0 : Keeps (foot b bw be dv) wc ((wc.drew.setCell ⟨bw, k, none⟩ (.int .i64 (bits .and .i64 (s1.w.getD k 0) v))).alloc (.cells #[.bool false, .int .i64 k, .int .i64 v] 80)) :=
            ((Keeps.refl _ _).drew.setCell (.inl nbw) _).alloc _
          exact hcut.turn (hk0.alike ha) (((hcut.fl.drew.setW k _).alloc _).alike ha) (fun _ e => .inl e)
      · go_wp2_with (go_at_call 68; refine (write_erase bw s1.w.length s1.w.length k v _ wc.drew (by unfold maxLen; omega) k1 g6 g7).mono ?_; rintro e w' ⟨rfl, ha⟩)
        go_meet
        case rel =>
          rw [H2.out]
          have hk0 : Keeps (foot b bw be dv) wc ((wc.drew.setCell ⟨bw, k, none⟩ (.int .i64 65535)).alloc (.cells #[.bool true, .int .i64 k, .int .i64 v] 80)) :=
            ((Keeps.refl _ _).drew.setCell (.inl nbw) _).alloc _
          exact hcut.turn (hk0.alike ha) (((hcut.fl.drew.setW k _).alloc _).alike ha) (fun _ e => .inl e)
    case rest =>
    go_upto_region 7 with (fail)
    go_cut [] (fun wx => ∃ dv', Mid w wx p b bw be dv' dv s3 (r1, (k : Int), v))
    case first =>
      obtain ⟨i0, hi, hz0, hz1, hz2⟩ := info_parts Try.info80
      have g1 := hcut.cp
      have g2 := hcut.r0
      have g3 := hcut.r1
      have g4 := hcut.r2
      have g5 := hcut.fl.c6
      have g6 := hcut.fl.fz 6
      have l1 := hcut.fl.lb
      have l2 := hcut.pl
      have l3 := hcut.keep.size
      simp only at g2 g3 g4
      have hd2 : s2.done.length ≤ 1000000000 := by rw [E2.out]; exact hd
      have hbl := hcut.fl.dvb
      have l4 : p < wc.heap.size := by omega
      have l5 : w.heap.size < wc.heap.size := World.block_lt_of_cell? _ _ g2
      have hpl : dv.ownBlock ≠ some p := fun e => hcut.pn (by rw [mem_foot]; exact .inr (.inr (.inr e)))
      go_region_law (
        refine step_append_new rfl (.tmp 34) (.tmp 36) 46 rfl 0 80 i0 (.agg #[.bool false, .int .i64 0, .int .i64 0]) 3 24 Try.underlying46 hi hz0 hz1 hz2 rfl (by decide) dv s2.done.length (rawCells s2.done) rfl ?_ ⟨wc.heap.size, 0, none⟩ 1 1 [.bool r1, .int .i64 k, .int .i64 v] rfl rfl ?_ ?_ ?_ ?_ ?_ ?_
        · exact ownsRow_keep (F := []) hcut.fl.hd ((Keeps.refl _ _).alloc _).drew (by simp)
        · exact cells3_new wc _ _ _ 80
        · simp [Value.oneCell']
        · unfold maxLen; omega
        · omega
        · exact Nat.zero_le _
        intro v' w' ho hg hne hnew
        have HO := Lib.hid ho
        have HG := Lib.hid hg
        have HN := Lib.hid hnew
        have q0 : w'.cell? ⟨p, 0, none⟩ = some (.pointer (some ⟨b, 0, none⟩)) := (World.cell?_of_block (hg.block p (by simp; omega) (fun e => hpl e.symm))).trans ((World.cell?_alloc_lt _ _ _ l4).trans g1)
        have q1 : w'.cell? ⟨b, 6, none⟩ = some dv := (World.cell?_of_block (hg.block b (by simp; omega) (fun e => hbl.1 e.symm))).trans ((World.cell?_alloc_lt _ _ _ l1).trans g5)
        have q2 : w'.frozen? ⟨b, 6, none⟩ = false := (World.frozen?_of_block (hg.block b (by simp; omega) (fun e => hbl.1 e.symm))).trans ((World.frozen?_of_block (Below.heap_alloc _ _ _ l1)).trans g6)
        obtain ⟨g, cap', rfl⟩ : ∃ g cap', v' = .slice (some ⟨g, 0, none⟩) (s2.done.length + 1) cap' := by
          rcases ho.2 with ⟨_, h⟩ | ⟨g, cap', _, h, _⟩
          · omega
          · exact ⟨g, cap', h⟩
        clear ho hg hne hnew)
      all_goals
        go_wp2_with fail
        go_meet
        case rel =>
          rw [H3.out]
          exact ⟨_, hcut.app HG.out HO.out HN.out⟩
    case rest =>
    obtain ⟨dv', hcut⟩ := hcut
    have n3 : s3.n = s.n := E3.out.2
    have er3 : s3.er = s.er := E3.out.1
    have d1 : 1 ≤ s3.n := by rw [n3]; exact hn
    have d2 : s3.n ≤ 1000000 := by rw [n3]; exact hn2
    have d3 : 0 ≤ (k : Int) / s3.n := Int.ediv_nonneg (by omega) (by omega)
    have d4 : ((k : Int) / s3.n).toNat < s3.er.length := by rw [n3, er3]; exact hke
    have d5 : s3.er.length ≤ 1000000 := by rw [er3]; exact hel
    have d6 := hev ((k : Int) / s3.n).toNat
    rw [← er3] at d6
    have d7 : (k : Int) / s3.n < s3.er.length := by omega
    have d8 : k ≤ 1000000 := by omega
    have D3 := Lib.hid n3
    have D4 := Lib.hid er3
    clear n3 er3
    have g1 := hcut.cp
    have g2 := hcut.r0
    have g3 := hcut.r1
    have g4 := hcut.r2
    have g5 := hcut.fl.c3
    have g6 := hcut.fl.c7
    have g7 := hcut.fl.ce d4
    obtain ⟨x, hx⟩ : ∃ x : Int, x = s3.er.getD ((k : Int) / s3.n).toNat 0 := ⟨_, rfl⟩
    rw [← hx] at g7 d6
    have HX := Lib.hid hx
    clear hx
    have g8 := hcut.fl.fe ((k : Int) / s3.n).toNat
    have hfin : ∀ (er : List Int), er = (if r1 = true ∧ (k : Int) % s.n = 0 then s.er.set ((k : Int) / s.n).toNat (s.er.getD ((k : Int) / s.n).toNat 0 + 1) else s.er) → { s3 with er := er } = s.put (r1, (k : Int), v) := by
      intro er he
      rw [H3.out, H2.out, H1.out, he]
      simp [FS.put]
    have HFin := Lib.hid hfin
    clear hfin
    cases r1
    · go_upto_region 8 with (fail)
      go_quiet (fail)
      go_wp2
      go_ret
      refine ⟨rfl, dv', ?_, hcut.keep.drewN _, fun j e => (hcut.new j e).imp id (fun h => Nat.le_of_lt h)⟩
      rw [← HFin.out s3.er (by rw [D4.out]; simp)]
      exact hcut.fl.drewN _
    · by_cases hz : (k : Int) % s3.n = 0
      · have hzb : ((k : Int) % s3.n == 0) = true := by simp [hz]
        have HZ := Lib.hid hz
        clear hz
        go_upto_region 8 with (fail)
        go_quiet (fail)
        go_wp2
        go_region
        all_goals go_wp2
        all_goals go_ret
        all_goals
          refine ⟨rfl, dv', ?_, (hcut.turn (((Keeps.refl _ _).drewN _).setCell (.inl (by simp [foot])) _) ((hcut.fl.drewN _).setE _ _) (fun _ e => .inl e)).keep, fun j e => (hcut.new j e).imp id (fun h => Nat.le_of_lt h)⟩
          rw [← HFin.out (s3.er.set ((k : Int) / s3.n).toNat (x + 1)) (by rw [HX.out, D3.out, D4.out, if_pos ⟨trivial, by rw [← D3.out]; exact HZ.out⟩])]
          exact (hcut.fl.drewN _).setE _ _
      · have hzb : ((k : Int) % s3.n == 0) = false := by simp [hz]
        have HZ := Lib.hid hz
        clear hz
        go_upto_region 8 with (fail)
        go_quiet (fail)
        go_wp2
        go_ret
        refine ⟨rfl, dv', ?_, hcut.keep.drewN _, fun j e => (hcut.new j e).imp id (fun h => Nat.le_of_lt h)⟩
        rw [← HFin.out s3.er (by rw [D4.out, if_neg (by rw [← D3.out]; exact fun h => HZ.out h.2)])]
        exact hcut.fl.drewN _
end Go.Proofs.Ytcaphgokckkmfaa
