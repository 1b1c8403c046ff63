/- play: its contract: programs and erases of words and pages that there are. -/
import Derived.Test.YtjebflafbkmokaaP
namespace Go.Proofs.Ytjebflafbkmokaa
open Go.RowKit
set_option linter.unusedVariables false
variable {w w' : World} {g c : Nat} {xs ys : List Int} {F : List Nat}

/-- An act that came in. -/
structure ActR where
  d : Int
  at_ : Int
  n : Int
  la : Option Addr
  ln : Nat
  lc : Nat
  l : List Int

structure ActAt (w : World) (b o : Nat) (r : ActR) : Prop where
  c0 : w.cell? ⟨b, o, none⟩ = some (.int .i64 r.d)
  c1 : w.cell? ⟨b, o + 1, none⟩ = some (.int .i64 r.at_)
  c2 : w.cell? ⟨b, o + 2, none⟩ = some (.int .i64 r.n)
  c3 : w.cell? ⟨b, o + 3, none⟩ = some (.slice r.la r.ln r.lc)
  li : IntsAt w r.la r.ln r.l
  lm : r.ln ≤ maxLen

def ActsAt (w : World) (a : Option Addr) (n : Nat) (acts : List ActR) : Prop :=
  n = acts.length ∧ n ≤ maxLen ∧ (a = none → acts = []) ∧ ∀ b o s, a = some ⟨b, o, s⟩ → acts ≠ [] → s = none ∧ ∀ i r, acts[i]? = some r → ActAt w b (o + i * 4) r

theorem IntsAt.keep0 {a : Option Addr} {n : Nat} (h : IntsAt w a n xs) (hk : Keeps [] w w') : IntsAt w' a n xs := h.keep hk (by simp)
theorem ActAt.keep {b o : Nat} {r : ActR} (h : ActAt w b o r) (hk : Keeps [] w w') : ActAt w' b o r := by
  have k : ∀ {p : Addr} {v : Value}, w.cell? p = some v → w'.cell? p = some v := fun hc => (hk.cell (World.block_lt_of_cell? _ _ hc) (by simp)).trans hc
  exact ⟨k h.c0, k h.c1, k h.c2, k h.c3, h.li.keep0 hk, h.lm⟩

/-- The words that a Program of play programs. -/
def actWords (r : ActR) : List Int := (r.l.take 8).map fun x => amongI x 65536

def FS.act (s : FS) (r : ActR) : FS :=
  if amongI r.d 4 = 3 then (s.eraseP (amongI r.at_ 4)).2
  else (s.prog (amongI r.at_ (65 - ((actWords r).length : Int))) (actWords r)).2

def FS.plays (s : FS) (acts : List ActR) : FS := acts.foldl FS.act s

theorem actWords_len (r : ActR) : (actWords r).length ≤ 8 := by simp [actWords]; omega

theorem FS.put_n (s : FS) (r : Raw3) : (s.put r).n = s.n := rfl
theorem FS.runL_n {l : List Raw3} : ∀ {s : FS}, (FS.runL s l).1.n = s.n := by
  induction l with
  | nil => intro s; rfl
  | cons r l ih =>
    intro s
    by_cases hc : s.cut = 0
    · rw [runL_cut hc]
    · rw [runL_cons hc, ih, FS.put_n]
theorem FS.prog_n (s : FS) (a : Int) (xs : List Int) : (s.prog a xs).2.n = s.n := by
  unfold FS.prog; split
  · split
    · rfl
    · exact FS.runL_n
  · rfl
theorem FS.eraseP_n (s : FS) (p : Int) : (s.eraseP p).2.n = s.n := by
  unfold FS.eraseP; split
  · split
    · rfl
    · exact FS.runL_n
  · rfl
theorem FS.act_n (s : FS) (r : ActR) : (s.act r).n = s.n := by
  unfold FS.act; split
  · exact FS.eraseP_n _ _
  · exact FS.prog_n _ _ _
theorem FS.Good.act {s : FS} {N : Nat} (h : s.Good N) (hn : s.n = 16) (r : ActR) : (s.act r).Good (N + 16) := by
  unfold FS.act; split
  · have := h.eraseP (amongI r.at_ 4); rw [hn] at this; exact this
  · exact (h.prog _ _).mono (by have := actWords_len r; omega)

/-- At the head of a round of play. -/
structure Pl (w0 w wr : World) (b bw be : Nat) (dv dv' : Value) (s s' : FS) (N : Nat) : Prop where
  fl : Fl wr b bw be dv' s'
  keep : Keeps (foot b bw be dv) w wr
  new : ∀ j, dv'.ownBlock = some j → dv.ownBlock = some j ∨ w.heap.size ≤ j
  good : s'.Good N
  n16 : s'.n = 16
  k0 : Keeps [] w0 wr
  up : ∀ k ∈ foot b bw be dv', w0.heap.size ≤ k

theorem Pl.step {w0 w wr wx : World} {b bw be : Nat} {dv dv' dv2 : Value} {s s' s2 : FS} {N M : Nat} (h : Pl w0 w wr b bw be dv dv' s s' N) (hf : Fl wx b bw be dv2 s2) (hk : Keeps (foot b bw be dv') wr wx)
    (hn : ∀ j, dv2.ownBlock = some j → dv'.ownBlock = some j ∨ wr.heap.size ≤ j) (hg : s2.Good M) (h16 : s2.n = 16) : Pl w0 w wx b bw be dv dv2 s s2 M := by
  have hs := h.keep.size
  have hs0 := h.k0.size
  refine ⟨hf, h.keep.trans hk ?_, ?_, hg, h16, h.k0.trans hk (fun x hx => .inr (h.up x hx)), ?_⟩
  · intro x hx
    rw [mem_foot] at hx ⊢
    rcases hx with hx | hx | hx | hx
    · exact .inl (.inl hx)
    · exact .inl (.inr (.inl hx))
    · exact .inl (.inr (.inr (.inl hx)))
    · rcases h.new x hx with h1 | h1
      · exact .inl (.inr (.inr (.inr h1)))
      · exact .inr h1
  · intro j e
    rcases hn j e with h1 | h1
    · exact h.new j h1
    · right; omega
  · intro k hk
    rw [mem_foot] at hk
    have hu := h.up
    rcases hk with rfl | rfl | rfl | hk
    · exact hu _ (by simp [foot])
    · exact hu _ (by simp [foot])
    · exact hu _ (by simp [foot])
    · rcases hn k hk with h1 | h1
      · exact hu _ (by rw [mem_foot]; exact .inr (.inr (.inr h1)))
      · omega

theorem Pl.keep0 {w0 w wr wx : World} {b bw be : Nat} {dv dv' : Value} {s s' : FS} {N : Nat} (h : Pl w0 w wr b bw be dv dv' s s' N) (hk : Keeps [] wr wx) : Pl w0 w wx b bw be dv dv' s s' N :=
  h.step (h.fl.keep hk (by simp)) (hk.mono (by simp)) (fun _ e => .inl e) h.good h.n16

theorem Arr.own {base : Nat} (h : Arr w g c xs) (hb : base ≤ g) (n : Nat) (hn : n = xs.length) : w.ownsRow base 3 1 (.slice (some ⟨g, 0, none⟩) n c) n (xs.map (.int .i64)) := by
  subst hn
  obtain ⟨cur, h1, h2, h3⟩ := h.ex
  exact ⟨by simp, .inr ⟨g, c, cur, rfl, hb, h1, h.le, h.cm, by simpa using h3, by simpa using h2⟩⟩

/-- The words of an act, so far. -/
structure Col (wo wx : World) (g c j : Nat) (r : ActR) : Prop where
  arr : Arr wx g c ((r.l.take j).map fun x => amongI x 65536)
  up : wo.heap.size ≤ g
  keep : Keeps [] wo wx

set_option maxRecDepth 100000 in
set_option maxHeartbeats 2000000 in
theorem play_any {w0 : World} {b bw be : Nat} {dv : Value} {s : FS} {N : Nat} (hF : Fl w b bw be dv s) (hg : s.Good N) (h16 : s.n = 16) (hN : N ≤ 100000000) (hk0 : Keeps [] w0 w) (hup : ∀ k ∈ foot b bw be dv, w0.heap.size ≤ k)
    (a : Option Addr) (n c : Nat) (acts : List ActR) (hA : ActsAt w0 a n acts) :
    Calls Try.prog 36 #[.pointer (some ⟨b, 0, none⟩), .slice a n c] w fun e w' => e = .returned (.tuple #[]) ∧
      ∃ dv', Pl w0 w w' b bw be dv dv' s (s.plays (acts.take 40)) (N + 16 * 40) := by
  obtain ⟨hn, hnm, ha1, ha2⟩ := hA
  unfold maxLen at hnm
  have HN := Lib.hid hn
  have HA1 := Lib.hid ha1
  have HA2 := Lib.hid ha2
  clear hn ha1 ha2
  go_enter Try.func36, Try.ntmps36
  go_wp2_with fail
  go_loopw [4] (fun v wr => ∃ (k : Nat) (dv' : Value), k ≤ n ∧ k ≤ 40 ∧ v = .int .i64 k ∧ Pl w0 w wr b bw be dv dv' s (s.plays (acts.take k)) (N + 16 * k)) (fun v _ => 40 - (intOf v).toNat)
  case atStart => exact ⟨0, dv, Nat.zero_le _, by omega, rfl, hF, Keeps.refl _ _, fun _ e => .inl e, hg, h16, hk0, hup⟩
  case round =>
    obtain ⟨k, dv', hk, hk40, rfl, hP⟩ := hrel
    by_cases hboth : k < n ∧ k < 40
    · obtain ⟨hlt, hlt2⟩ := hboth
      have hka : k < acts.length := by rw [← HN.out]; exact hlt
      obtain ⟨r, hr⟩ : ∃ r, acts[k]? = some r := ⟨_, List.getElem?_eq_getElem hka⟩
      rcases a with _ | ⟨ba, oa, sa⟩
      · have := HA1.out rfl; rw [this] at hka; simp at hka
      obtain ⟨rfl, hcs⟩ := HA2.out ba oa sa rfl (List.ne_nil_of_length_pos (by omega))
      have hact := (hcs k r hr).keep hP.k0
      have q0 := hact.c0
      have q1 := hact.c1
      have q2 := hact.c2
      have q3 := hact.c3
      have lba := World.block_lt_of_cell? _ _ q0
      simp only at lba
      have hstep : s.plays (acts.take (k + 1)) = (s.plays (acts.take k)).act r := by
        rw [List.take_add_one, hr]; simp [FS.plays]
      have HS := Lib.hid hstep
      have HR := Lib.hid hr
      clear hstep hcs hr
      by_cases hd : amongI r.d 4 = 3
      · have hdb : (amongI r.d 4 == 3) = true := by simp [hd]
        have HD := Lib.hid hd
        clear hd
        have hP2 := hP.keep0 ((Keeps.refl [] wr).alloc (.cells #[.int .i64 r.d, .int .i64 r.at_, .int .i64 r.n, .slice r.la r.ln r.lc] 38))
        go_wp2_with (first
          | (go_at_call 15; refine (among_any _ _ _ (by omega) (by omega)).mono ?_; rintro e w' ⟨rfl, rfl⟩)
          | (go_at_call 20; refine (erase_yes hP2.fl hP2.good (amongI r.at_ 4) (by rw [hP2.n16]; omega)).mono ?_; rintro e w' ⟨rfl, dv2, hf2, hk2, hn2⟩))
        go_roundw
        case rel =>
          refine ⟨k + 1, dv2, by omega, by omega, by go_num, ?_⟩
          rw [HS.out, show N + 16 * (k + 1) = N + 16 * k + 16 from by omega]
          have he : (s.plays (acts.take k)).act r = ((s.plays (acts.take k)).eraseP (amongI r.at_ 4)).2 := by unfold FS.act; rw [if_pos HD.out]
          have hgo := hP2.good.act hP2.n16 r
          have h16' := (FS.act_n (s.plays (acts.take k)) r).trans hP2.n16
          rw [he] at hgo h16' ⊢
          exact hP2.step hf2 hk2 hn2 hgo h16'
        case measure => simp [intOf]; omega
      · have hdb : (amongI r.d 4 == 3) = false := by simp [hd]
        have HD := Lib.hid hd
        clear hd
        obtain ⟨wA, rfl⟩ : ∃ wA : World, wA = wr := ⟨_, rfl⟩
        obtain ⟨wo, hwo⟩ : ∃ wo : World, wo = wA.alloc (.cells #[.int .i64 r.d, .int .i64 r.at_, .int .i64 r.n, .slice r.la r.ln r.lc] 38) := ⟨_, rfl⟩
        have hkwo : Keeps [] wA wo := by rw [hwo]; exact (Keeps.refl _ _).alloc _
        have hP2 := hP.keep0 hkwo
        have hact2 := hact.keep hkwo
        have s1 : wo.cell? ⟨wA.heap.size, 1, none⟩ = some (.int .i64 r.at_) := by rw [hwo]; exact World.cell?_alloc_new wA _ 38 1
        have s3 : wo.cell? ⟨wA.heap.size, 3, none⟩ = some (.slice r.la r.ln r.lc) := by rw [hwo]; exact World.cell?_alloc_new wA _ 38 3
        have hsz : wo.heap.size = wA.heap.size + 1 := by rw [hwo]; simp
        have hlen : r.ln = r.l.length := hact2.li.1
        have hlm := hact2.lm
        unfold maxLen at hlm
        have HW := Lib.hid hwo
        have HLEN := Lib.hid hlen
        have HSZ := Lib.hid hsz
        clear hwo hlen hsz
        obtain ⟨i0, hi, hz0, hz1, hz2⟩ := info_parts Try.info3
        go_wp2_with (go_at_call 15; refine (among_any _ _ _ (by omega) (by omega)).mono ?_; rintro e w' ⟨rfl, rfl⟩)
        go_loopw [6, 7] (fun v6 v7 wx => ∃ (j g c : Nat), j ≤ r.ln ∧ j ≤ 8 ∧ v7 = .int .i64 j ∧ v6 = .slice (some ⟨g, 0, none⟩) j c ∧ Col wo wx g c j r) (fun _ v7 _ => 8 - (intOf v7).toNat)
        case atStart =>
          refine ⟨0, wA.heap.size + 1, 0, Nat.zero_le _, by omega, rfl, rfl, ?_⟩
          rw [← HW.out, ← HSZ.out]
          exact ⟨⟨⟨#[], heap_alloc_new wo _, by simp, rfl⟩, by simp, by unfold maxLen; omega⟩, Nat.le_refl _, (Keeps.refl _ _).alloc _⟩
        case round =>
          obtain ⟨j, g, cc, hj, hj8, rfl, rfl, hC⟩ := hrel
          have t1 := (hC.keep.cell (World.block_lt_of_cell? _ _ s1) (by simp)).trans s1
          have t3 := (hC.keep.cell (World.block_lt_of_cell? _ _ s3) (by simp)).trans s3
          have lt0 := World.block_lt_of_cell? _ _ t1
          simp only at lt0
          by_cases hjb : j < r.ln ∧ j < 8
          · obtain ⟨hj1, hj2⟩ := hjb
            have hli := hact2.li.keep0 hC.keep
            rcases hla : r.la with _ | ⟨lb, lo, ls⟩
            · have := hli.2.1 hla; have h2 := HLEN.out; rw [this] at h2; simp at h2; omega
            rw [hla] at t3 hli
            obtain ⟨rfl, hlc⟩ := hli.2.2 lb lo ls rfl (List.ne_nil_of_length_pos (by have := HLEN.out; omega))
            have hx := hlc j (by have := HLEN.out; omega)
            obtain ⟨x, ex⟩ : ∃ x, x = r.l.getD j 0 := ⟨_, rfl⟩
            rw [← ex] at hx
            have EX := Lib.hid ex
            have HLA := Lib.hid hla
            have hyl : ((r.l.take j).map fun x => amongI x 65536).length = j := by have := HLEN.out; simp; omega
            have hown := ownsRow_keep (F := []) (hC.arr.own hC.up j hyl.symm) ((Keeps.refl _ _).alloc (.cells #[.int .i64 (amongI x 65536)] 3)) (by simp)
            have HO := Lib.hid hown
            have HYL := Lib.hid hyl
            clear ex hla hlc hli hown hyl
            go_wp2_with (first
              | (go_at_call 15; refine (among_any _ _ _ (by omega) (by omega)).mono ?_; rintro e w' ⟨rfl, rfl⟩)
              | (at_builtin; refine wpList_append_new _ rfl (.tmp 43) (.tmp 50) 36 rfl wo.heap.size 3 i0 (.int .i64 0) 1 8 Try.underlying36 hi hz0 hz1 hz2 rfl (by decide) (.slice (some ⟨g, 0, none⟩) j cc) j _ rfl HO.out ⟨wr.heap.size, 0, none⟩ 1 1 [.int .i64 (amongI x 65536)] rfl rfl (cell_one_new _ _ _) (by simp [Value.oneCell']) (by unfold maxLen; omega) (by omega) (by have := hC.keep.size; simp; omega) ?_; intro v' w' q1 q2 q3 q4))
            have htk : (r.l.take (j + 1)).map (fun x => amongI x 65536) = (r.l.take j).map (fun x => amongI x 65536) ++ [amongI x 65536] := by
              rw [List.take_succ_eq_append_getElem (by have := HLEN.out; omega), List.map_append, EX.out]
              simp [List.getD, show j < r.l.length from by have := HLEN.out; omega]
            have hv : v' ≠ .slice none 0 0 := fun e => absurd (q3.1 e).2 (by omega)
            have q1' : w'.ownsRow wo.heap.size 3 1 v' (j + 1) (((r.l.take (j + 1)).map (fun x => amongI x 65536)).map (.int .i64)) := by rw [htk, List.map_append]; exact q1
            obtain ⟨g', c', rfl, hg', hA'⟩ := Arr.of_own q1' hv
            have hl1 : ((r.l.take (j + 1)).map (fun x => amongI x 65536)).length = j + 1 := by rw [htk, List.length_append, HYL.out]; rfl
            have hku : Keeps [] wo w' := ((hC.keep.alloc _).grown q2 (by intro k e; injection e with e; right; rw [← e]; exact hC.up))
            refine ⟨⟨j + 1, g', c', by omega, by omega, by go_num, by rw [hl1], hA', hg', hku⟩, by simp [intOf]; omega⟩
          · have haw : (r.l.take j).map (fun x => amongI x 65536) = actWords r := by
              unfold actWords
              by_cases h8 : j = 8
              · rw [h8]
              · have : ¬ j < r.ln := fun h => hjb ⟨h, by omega⟩
                have h2 := HLEN.out
                rw [List.take_of_length_le (by omega), List.take_of_length_le (by omega)]
            have hyl : (actWords r).length = j := by rw [← haw]; have := HLEN.out; simp; omega
            have hai : IntsAt wr (some ⟨g, 0, none⟩) j (actWords r) := by have := hC.arr.ints; rwa [haw, hyl] at this
            have hPr := hP2.keep0 hC.keep
            have hsep : ∀ b' o s', (some ⟨g, 0, none⟩ : Option Addr) = some ⟨b', o, s'⟩ → b' ∉ foot b bw be dv' := by
              intro b' o s' e hx
              injection e with e
              injection e with e _ _
              have h1 := hP2.fl.lt _ hx
              have h2 := hC.up
              omega
            have hgr := program_yes hPr.fl hPr.good (amongI r.at_ (65 - (j : Int))) (some ⟨g, 0, none⟩) j cc (actWords r) hai (by omega) hsep (by omega)
            have HG := Lib.hid hgr
            have HAW := Lib.hid haw
            have HYL := Lib.hid hyl
            clear hgr haw hyl hsep hai
            by_cases hj1 : j < r.ln
            all_goals
              try have hj2 : ¬ j < 8 := fun h => hjb ⟨hj1, h⟩
              clear hjb
              go_wp2_with (first
                | (go_at_call 15; refine (among_any _ _ _ (by omega) (by omega)).mono ?_; rintro e w' ⟨rfl, rfl⟩)
                | (go_at_call 17; refine HG.out.mono ?_; rintro e w' ⟨rfl, dv2, hf2, hk2, hn2⟩))
              go_roundw
              case rel =>
                refine ⟨k + 1, dv2, by omega, by omega, by go_num, ?_⟩
                rw [HS.out, show N + 16 * (k + 1) = N + 16 * k + 16 from by omega]
                have he : (s.plays (acts.take k)).act r = ((s.plays (acts.take k)).prog (amongI r.at_ (65 - (j : Int))) (actWords r)).2 := by unfold FS.act; rw [if_neg HD.out, HYL.out]
                have hgo := hPr.good.act hPr.n16 r
                have h16' := (FS.act_n (s.plays (acts.take k)) r).trans hPr.n16
                rw [he] at hgo h16' ⊢
                exact hPr.step hf2 hk2 hn2 hgo h16'
              case measure => simp [intOf]; omega
    · by_cases hlt : k < n
      all_goals
        try have hlt2 : ¬ k < 40 := fun h => hboth ⟨hlt, h⟩
        have hkk : acts.take k = acts.take 40 := by
          by_cases h40 : k = 40
          · rw [h40]
          · have : ¬ k < n := fun h => hboth ⟨h, by omega⟩
            rw [List.take_of_length_le (by rw [← HN.out]; omega), List.take_of_length_le (by rw [← HN.out]; omega)]
        have HK := Lib.hid hkk
        clear hboth hkk
        go_wp2
        go_end0
        refine ⟨rfl, dv', ?_⟩
        rw [← HK.out]
        exact ⟨hP.fl, hP.keep, hP.new, hP.good.mono (by omega), hP.n16, hP.k0, hP.up⟩

end Go.Proofs.Ytjebflafbkmokaa
