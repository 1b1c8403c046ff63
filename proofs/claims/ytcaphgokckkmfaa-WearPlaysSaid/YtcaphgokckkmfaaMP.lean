
/- Program of the document's own flash: its contract. -/
import Derived.Test.YtcaphgokckkmfaaMC
import Derived.Test.YtcaphgokckkmfaaLU
namespace Go.Proofs.Ytcaphgokckkmfaa
open Go.RowKit
set_option maxRecDepth 100000
set_option linter.unusedVariables false
variable {w w' : World} {F : List Nat} {b gw cw be : Nat} {lv : Value} {s : FS}

def FS.runR (s : FS) : List Raw3 → FS × Bool
  | [] => (s, true)
  | r :: l => if s.cut = 0 then ({ s with off := true }, false) else FS.runR (s.putR r) l
def FS.progR (s : FS) (at_ : Int) (xs : List Int) : Int × FS :=
  if fwithinB 0 ((s.w.length : Int) - xs.length) at_ && ffitB xs then
    if s.off then (10, s) else (codeOf (FS.runR s (rawsOf at_ xs)).2, (FS.runR s (rawsOf at_ xs)).1)
  else (2, s)

theorem runR_cons {s : FS} {r : Raw3} {l : List Raw3} (h : s.cut ≠ 0) : FS.runR s (r :: l) = FS.runR (s.putR r) l := by simp [FS.runR, h]
theorem runR_cut {s : FS} {r : Raw3} {l : List Raw3} (h : s.cut = 0) : FS.runR s (r :: l) = ({ s with off := true }, false) := by simp [FS.runR, h]
theorem putR_w_length (s : FS) (r : Raw3) : (s.putR r).w.length = s.w.length := by simp [FS.putR, FS.put]
theorem putR_done (s : FS) (r : Raw3) : (s.putR r).done = s.done ++ [r] := rfl
theorem putR_off (s : FS) (r : Raw3) : (s.putR r).off = s.off := rfl

/-- In the loop of Program, and of Erase. -/
structure LpR (w wr : World) (b gw cw be : Nat) (lv lv' : Value) (s s' : FS) (l : List Raw3) (k : Nat) : Prop where
  fl : Rf wr b gw cw be lv' s'
  eq : FS.runR s' (l.drop k) = FS.runR s l
  keep : Keeps (foot b gw be lv) w wr
  new : ∀ j, lv'.ownBlock = some j → lv.ownBlock = some j ∨ w.heap.size ≤ j
  off : s'.off = false
  len : s'.w.length = s.w.length
  h16 : W16 s'.w
  dn : s'.done.length = s.done.length + k
  cb : -9223372036854775808 ≤ s'.cut ∧ s'.cut ≤ 9223372036854775807

theorem LpR.step {w wr wx : World} {lv' lv2 : Value} {s' : FS} {l : List Raw3} {k : Nat} {r : Raw3} (h : LpR w wr b gw cw be lv lv' s s' l k) (hd : l.drop k = r :: l.drop (k + 1)) (hc : s'.cut ≠ 0) (hr : RawFits r)
    (hf : Rf wx b gw cw be lv2 (s'.putR r)) (hk : Keeps (foot b gw be lv') wr wx) (hn : ∀ j, lv2.ownBlock = some j → lv'.ownBlock = some j ∨ wr.heap.size ≤ j) :
    LpR w wx b gw cw be lv lv2 s (s'.putR r) l (k + 1) := by
  have hs := h.keep.size
  refine ⟨hf, by rw [← h.eq, hd, runR_cons hc], h.keep.trans hk ?_, ?_, h.off, by rw [putR_w_length]; exact h.len, ?_, by rw [putR_done, List.length_append, h.dn]; rfl, ?_⟩
  · intro x hx
    rw [mem_foot] at hx ⊢
    rcases hx with hx | hx | hx | hx
    · exact .inl (.inl hx)
    · exact .inl (.inr (.inl hx))
    · exact .inl (.inr (.inr (.inl hx)))
    · rcases h.new x hx with h1 | h1
      · exact .inl (.inr (.inr (.inr h1)))
      · exact .inr h1
  · intro j e
    rcases hn j e with h1 | h1
    · exact h.new j h1
    · right; omega
  · have := h.h16.put hr; exact this
  · have := h.cb; simp only [FS.putR, FS.put]; split <;> omega

theorem fitB_snoc {xs : List Int} {k : Nat} {x : Int} (h : xs.take (k + 1) = xs.take k ++ [x]) (h1 : ffitB (xs.take k) = true) (h2 : 0 ≤ x) (h3 : x ≤ 65535) : ffitB (xs.take (k + 1)) = true := by
  rw [h]; unfold ffitB at *; rw [List.all_append, h1]
  simp [fwithinB, h2, h3]
theorem fitB_not {xs : List Int} {x : Int} (h : x ∈ xs) (h1 : ¬ (0 ≤ x ∧ x ≤ 65535)) : ffitB xs = false := by
  unfold ffitB
  rw [List.all_eq_false]
  refine ⟨x, h, ?_⟩
  simp [fwithinB]; omega
theorem fitB_get {xs : List Int} {k : Nat} (h : ffitB xs = true) (hk : k < xs.length) : 0 ≤ xs.getD k 0 ∧ xs.getD k 0 ≤ 65535 := by
  unfold ffitB at h
  rw [List.all_eq_true] at h
  have := h (xs.getD k 0) (by simp [List.getD, hk])
  simpa [fwithinB] using this

set_option maxHeartbeats 2000000 in
theorem refProgram_any1 (hF : Rf w b gw cw be lv s) (at_ : Int) (a : Option Addr) (n c : Nat) (xs : List Int) (h : IntsAt w a n xs) (hn : n ≤ 1000000) (hsep : ∀ b' o s', a = some ⟨b', o, s'⟩ → xs ≠ [] → b' ∉ foot b gw be lv)
    (h16 : W16 s.w) (hcb : -9223372036854775808 ≤ s.cut ∧ s.cut ≤ 9223372036854775807) (hwl : s.w.length ≤ 1000000) (hd : s.done.length + n ≤ 1000000000) :
    Calls Try.prog 14 #[.pointer (some ⟨b, 0, none⟩), .int .i64 at_, .slice a n c] w fun e w' => e = .returned (.int .i64 (s.progR at_ xs).1) ∧
      ∃ lv', Rf w' b gw cw be lv' (s.progR at_ xs).2 ∧ Keeps (foot b gw be lv) w w' ∧ ∀ j, lv'.ownBlock = some j → lv.ownBlock = some j ∨ w.heap.size ≤ j := by
  have c3 := hF.c3
  have c7 := hF.c7
  have lb := hF.lb
  have HI := Lib.hid h
  have hnx : xs.length = n := h.1.symm
  have HN := Lib.hid hnx
  clear h hnx
  by_cases hin : fwithinB 0 ((s.w.length : Int) - n) at_ = true
  · have hin2 := hin
    simp only [fwithinB_iff] at hin2
    obtain ⟨i1, i2⟩ := hin2
    obtain ⟨q, rfl⟩ := Int.eq_ofNat_of_zero_le i1
    have HIn := Lib.hid hin
    clear hin
    go_enter Try.func14, Try.ntmps14
    go_wp2_with fail
    go_loop [7] (fun v => ∃ k : Nat, k ≤ n ∧ v = .int .i64 k ∧ ffitB (xs.take k) = true) (fun v => n - (intOf v).toNat)
    case atStart => exact ⟨0, Nat.zero_le _, rfl, rfl⟩
    case round =>
      obtain ⟨k, hk, rfl, hfit⟩ := hrel
      have HS := Lib.hid hfit
      clear hfit
      by_cases hlt : k < n
      · have hlx : k < xs.length := by rw [HN.out]; exact hlt
        rcases a with _ | ⟨b', o, sp⟩
        · have := HI.out.2.1 rfl; rw [this] at hlx; simp at hlx
        obtain ⟨rfl, hx⟩ := HI.out.2.2 b' o sp rfl (List.ne_nil_of_length_pos (by omega))
        have gx := hx k hlx
        obtain ⟨x, ex⟩ : ∃ x, x = xs.getD k 0 := ⟨_, rfl⟩
        rw [← ex] at gx
        have hmem : x ∈ xs := by rw [ex]; simp [List.getD, hlx]
        have htk : xs.take (k + 1) = xs.take k ++ [x] := by rw [List.take_succ_eq_append_getElem hlx, ex]; simp [List.getD, hlx]
        have HM := Lib.hid hmem
        have HT := Lib.hid htk
        clear ex hx hmem htk
        by_cases hx0 : 0 ≤ x
        · by_cases hx1 : x ≤ 65535
          · go_wp2_with fail
            go_round
            case rel => exact ⟨k + 1, by omega, by go_num, fitB_snoc HT.out HS.out hx0 hx1⟩
            case measure => simp [intOf]; omega
          · have HF := Lib.hid (fitB_not HM.out (show ¬ (0 ≤ x ∧ x ≤ 65535) by omega))
            go_wp2_with fail
            go_ret
            have hfin : s.progR q xs = (2, s) := by simp [FS.progR, HF.out]
            rw [hfin]
            exact ⟨rfl, lv, hF, Keeps.refl _ _, fun j e => .inl e⟩
        · have HF := Lib.hid (fitB_not HM.out (show ¬ (0 ≤ x ∧ x ≤ 65535) by omega))
          go_wp2_with fail
          go_ret
          have hfin : s.progR q xs = (2, s) := by simp [FS.progR, HF.out]
          rw [hfin]
          exact ⟨rfl, lv, hF, Keeps.refl _ _, fun j e => .inl e⟩
      · have hfin : ffitB xs = true := by have := HS.out; rwa [List.take_of_length_le (by rw [HN.out]; omega)] at this
        have HF := Lib.hid hfin
        clear hfin
        by_cases ho : s.off = true
        · rw [ho] at c7
          have HO := Lib.hid ho
          clear ho
          go_wp2_with fail
          go_ret
          have hfin : s.progR q xs = (10, s) := by simp [FS.progR, HF.out, HO.out, HN.out, HIn.out]
          rw [hfin]
          exact ⟨rfl, lv, hF, Keeps.refl _ _, fun j e => .inl e⟩
        · have ho2 : s.off = false := by simpa using ho
          rw [ho2] at c7
          have HO := Lib.hid ho2
          clear ho ho2
          have hfin : s.progR q xs = (codeOf (FS.runR s (rawsOf q xs)).2, (FS.runR s (rawsOf q xs)).1) := by simp [FS.progR, HF.out, HO.out, HN.out, HIn.out]
          have HFin := Lib.hid hfin
          clear hfin
          obtain ⟨l, hl⟩ : ∃ l, l = rawsOf q xs := ⟨_, rfl⟩
          have hll : l.length = n := by rw [hl, rawsOf_length, HN.out]
          have HL := Lib.hid hl
          have HLL := Lib.hid hll
          rw [← hl] at HFin
          clear hl hll
          go_wp2_with fail
          go_loopw [8] (fun v wr => ∃ (k : Nat) (lv' : Value) (s' : FS), k ≤ n ∧ v = .int .i64 k ∧ LpR w wr b gw cw be lv lv' s s' l k) (fun v _ => n - (intOf v).toNat)
          case atStart => exact ⟨0, lv, s, Nat.zero_le _, rfl, hF, rfl, Keeps.refl _ _, fun _ e => .inl e, HO.out, rfl, h16, rfl, hcb⟩
          case round =>
            obtain ⟨k2, lv', s', hk2, rfl, hL⟩ := hrel
            by_cases hlt2 : k2 < n
            · have hlx : k2 < xs.length := by rw [HN.out]; exact hlt2
              rcases a with _ | ⟨b', o, sp⟩
              · have := HI.out.2.1 rfl; rw [this] at hlx; simp at hlx
              obtain ⟨rfl, hx⟩ := HI.out.2.2 b' o sp rfl (List.ne_nil_of_length_pos (by omega))
              have gx := (hL.keep.cell (p := ⟨b', o + k2, none⟩) (World.block_lt_of_cell? _ _ (hx k2 hlx)) (hsep b' o none rfl (List.ne_nil_of_length_pos (by omega)))).trans (hx k2 hlx)
              have hfx := fitB_get HF.out hlx
              obtain ⟨x, ex⟩ : ∃ x, x = xs.getD k2 0 := ⟨_, rfl⟩
              rw [← ex] at gx hfx
              have hd0 : l.drop k2 = (false, ((q + k2 : Nat) : Int), x) :: l.drop (k2 + 1) := by
                have h1 : k2 < l.length := by rw [HLL.out]; exact hlt2
                rw [List.drop_eq_getElem_cons h1]
                congr 1
                have h2 := rawsOf_get xs q k2
                rw [← HL.out, List.getElem?_eq_getElem h1, List.getElem?_eq_getElem hlx] at h2
                rw [Option.some.inj h2, ex]
                simp [List.getD, hlx]
              have HD := Lib.hid hd0
              have hq : q + k2 < s'.w.length := by rw [hL.len]; omega
              have hdn := hL.dn
              have hwl2 : s'.w.length ≤ 1000000 := by rw [hL.len]; exact hwl
              have l0 := hL.fl.lb
              clear ex hx hd0
              have hsum : IntKind.i64.wrap ((q : Int) + (k2 : Int)) = ((q + k2 : Nat) : Int) := by rw [IntKind.wrap_i64]; omega
              by_cases hc : s'.cut = 0
              · have HC := Lib.hid hc
                clear hc
                go_wp2_with (go_at_call 45; refine (rraw_cut false ((q + k2 : Nat) : Int) x _ hL.fl (.inr HC.out)).mono ?_; rintro e wb ⟨rfl, hfb, hkb⟩)
                go_ret
                rw [HFin.out, ← hL.eq, HD.out, runR_cut HC.out]
                exact ⟨rfl, lv', hfb, hL.keep.trans hkb (by intro y hy; rw [mem_foot] at hy ⊢; rcases hy with hy | hy | hy | hy; exact .inl (.inl hy); exact .inl (.inr (.inl hy)); exact .inl (.inr (.inr (.inl hy))); exact (hL.new y hy).imp (fun h => .inr (.inr (.inr h))) id), hL.new⟩
              · have HC := Lib.hid hc
                clear hc
                go_wp2_with (go_at_call 45; refine (rraw_put false (q + k2) x _ hL.fl hL.off HC.out hL.cb hq hwl2 (by omega) hL.h16 (.inr hfx)).mono ?_; rintro e wb ⟨rfl, lv2, hfb, hkb, hnb⟩)
                go_roundw
                case rel => exact ⟨k2 + 1, lv2, _, by omega, by go_num, hL.step HD.out HC.out (.inr hfx) hfb hkb hnb⟩
                case measure => simp [intOf]; omega
            · have he : FS.runR s l = (s', true) := by rw [← hL.eq, List.drop_of_length_le (by rw [HLL.out]; omega)]; rfl
              have HE := Lib.hid he
              clear he
              go_wp2_with fail
              go_ret
              rw [HFin.out, HE.out]
              exact ⟨rfl, lv', hL.fl, hL.keep, hL.new⟩
  · have hfin : s.progR at_ xs = (2, s) := by simp [FS.progR, HN.out, hin]
    have HFin := Lib.hid hfin
    have hin2 : ¬ (0 ≤ at_ ∧ at_ ≤ (s.w.length : Int) - n) := by rw [← fwithinB_iff]; exact hin
    clear hin hfin
    by_cases h0 : 0 ≤ at_
    · by_cases h1 : at_ ≤ (s.w.length : Int)
      · have h2 : (s.w.length : Int) - at_ < n := by omega
        go_enter Try.func14, Try.ntmps14
        go_wp2_with fail
        go_ret
        rw [HFin.out]
        exact ⟨rfl, lv, hF, Keeps.refl _ _, fun j e => .inl e⟩
      · go_enter Try.func14, Try.ntmps14
        go_wp2_with fail
        go_ret
        rw [HFin.out]
        exact ⟨rfl, lv, hF, Keeps.refl _ _, fun j e => .inl e⟩
    · go_enter Try.func14, Try.ntmps14
      go_wp2_with fail
      go_ret
      rw [HFin.out]
      exact ⟨rfl, lv, hF, Keeps.refl _ _, fun j e => .inl e⟩

theorem refProgram_any (hF : Rf w b gw cw be lv s) (at_ : Int) (a : Option Addr) (n c : Nat) (xs : List Int) (h : IntsAt w a n xs) (hn : n ≤ 1000000) (hsep : ∀ b' o s', a = some ⟨b', o, s'⟩ → b' ∉ foot b gw be lv)
    (h16 : W16 s.w) (hcb : -9223372036854775808 ≤ s.cut ∧ s.cut ≤ 9223372036854775807) (hwl : s.w.length ≤ 1000000) (hd : s.done.length + n ≤ 1000000000) :
    Calls Try.prog 14 #[.pointer (some ⟨b, 0, none⟩), .int .i64 at_, .slice a n c] w fun e w' => e = .returned (.int .i64 (s.progR at_ xs).1) ∧
      ∃ lv', Rf w' b gw cw be lv' (s.progR at_ xs).2 ∧ Keeps (foot b gw be lv) w w' ∧ ∀ j, lv'.ownBlock = some j → lv.ownBlock = some j ∨ w.heap.size ≤ j :=
  refProgram_any1 hF at_ a n c xs h hn (fun b o s e _ => hsep b o s e) h16 hcb hwl hd

end Go.Proofs.Ytcaphgokckkmfaa
