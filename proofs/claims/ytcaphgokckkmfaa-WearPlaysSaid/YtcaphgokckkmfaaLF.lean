
/- The loop of raw writes of the flash (run), over whatever closure tells them. -/
import Derived.Test.YtcaphgokckkmfaaLE
import Derived.Deep.LoopGhost
namespace Go.Proofs.Ytcaphgokckkmfaa
open Go.RowKit
set_option maxRecDepth 100000
set_option linter.unusedVariables false

structure FS.Good (s : FS) (N : Nat) : Prop where
  hn : 1 ≤ s.n ∧ s.n ≤ 1000000
  hwl : s.w.length ≤ 1000000
  hel : s.er.length ≤ 1000000
  hwe : (s.w.length : Int) = s.er.length * s.n
  hcb : -9223372036854775808 ≤ s.cut ∧ s.cut ≤ 9223372036854775807
  hev : ∀ i, 0 ≤ s.er.getD i 0 ∧ s.er.getD i 0 ≤ N
  hd : s.done.length ≤ N

def FS.runL (s : FS) : List Raw3 → FS × Bool
  | [] => (s, true)
  | r :: l => if s.cut = 0 then ({ s with off := true }, false) else FS.runL (s.put r) l

theorem FS.Good.page {s : FS} {N : Nat} (h : s.Good N) {k : Nat} (hk : k < s.w.length) : ((k : Int) / s.n).toNat < s.er.length := by
  have h1 := h.hwe
  have h2 := h.hn.1
  have h3 : (k : Int) / s.n < s.er.length := Int.ediv_lt_of_lt_mul (by omega) (by omega)
  have h4 : 0 ≤ (k : Int) / s.n := Int.ediv_nonneg (by omega) (by omega)
  omega

theorem FS.Good.put {s : FS} {N : Nat} (h : s.Good N) (r : Raw3) : (s.put r).Good (N + 1) := by
  refine ⟨h.hn, by simpa [FS.put] using h.hwl, ?_, ?_, ?_, ?_, ?_⟩
  · have := h.hel
    simp only [FS.put]; split <;> simpa using this
  · have := h.hwe
    simp only [FS.put]; split <;> simpa using this
  · have := h.hcb
    simp only [FS.put]; split <;> omega
  · intro i
    have h1 := h.hev i
    simp only [FS.put]
    split
    · have h2 := h.hev (r.2.1 / s.n).toNat
      by_cases hi : (r.2.1 / s.n).toNat = i
      · subst hi
        by_cases hl : (r.2.1 / s.n).toNat < s.er.length
        · simp only [List.getD, List.getElem?_set_self hl, Option.getD_some] at h2 ⊢; omega
        · simp only [List.getD, List.set_eq_of_length_le (Nat.le_of_not_lt hl)] at h1 ⊢; omega
      · simp only [List.getD, List.getElem?_set_ne hi] at h1 ⊢; omega
    · omega
  · have := h.hd
    simp [FS.put]; omega

theorem FS.put_w_length (s : FS) (r : Raw3) : (s.put r).w.length = s.w.length := by simp [FS.put]

/-- At the head of a round. -/
structure fLp (w wr : World) (b bw be : Nat) (dv dv' : Value) (s s' : FS) (l : List Raw3) (k N : Nat) : Prop where
  fl : Fl wr b bw be dv' s'
  eq : FS.runL s' (l.drop k) = FS.runL s l
  keep : Keeps (foot b bw be dv) w wr
  new : ∀ j, dv'.ownBlock = some j → dv.ownBlock = some j ∨ w.heap.size < j
  cp : wr.cell? ⟨w.heap.size, 0, none⟩ = some (.pointer (some ⟨b, 0, none⟩))
  good : s'.Good (N + k)
  len : s'.w.length = s.w.length

theorem run_off (b bw be : Nat) (dv fv : Value) (s : FS) (m : Int) (w : World) (hF : Fl w b bw be dv s) (ho : s.off = true) :
    Calls Try.prog 43 #[.pointer (some ⟨b, 0, none⟩), .int .i64 m, fv] w fun e w' => e = .returned (.int .i64 10) ∧ w = w' := by
  have c5 := hF.c5
  rw [ho] at c5
  go_enter Try.func43, Try.ntmps43
  go_wp2
  go_ret
  exact ⟨rfl, rfl⟩

def codeOf (b : Bool) : Int := if b then 0 else 10

theorem runL_cons {s : FS} {r : Raw3} {l : List Raw3} (h : s.cut ≠ 0) : FS.runL s (r :: l) = FS.runL (s.put r) l := by simp [FS.runL, h]
theorem runL_cut {s : FS} {r : Raw3} {l : List Raw3} (h : s.cut = 0) : FS.runL s (r :: l) = ({ s with off := true }, false) := by simp [FS.runL, h]

theorem fLp.box {w wr : World} {b bw be : Nat} {dv dv' : Value} {s s' : FS} {l : List Raw3} {k N : Nat} (h : fLp w wr b bw be dv dv' s s' l k N) (hF : Fl w b bw be dv s) : w.heap.size ∉ foot b bw be dv' := by
  intro hx
  rw [mem_foot] at hx
  have h1 := hF.lb
  have h2 := hF.lw
  have h3 := hF.le
  rcases hx with hx | hx | hx | hx
  · omega
  · omega
  · omega
  · rcases h.new _ hx with h4 | h4
    · have := (hF.hd.lt _ h4).2; omega
    · omega

set_option maxHeartbeats 1000000 in
theorem run_43 (pf pv : Nat) (b bw be : Nat) (dv : Value) (s : FS) (l : List Raw3) (N : Nat) (w : World) (hF : Fl w b bw be dv s) (ho : s.off = false) (hg : s.Good N) (hN : N + l.length ≤ 1000000000)
    (hl : ∀ r ∈ l, 0 ≤ r.2.1 ∧ r.2.1 < s.w.length)
    (hraw : ∀ (i : Nat) (r : Raw3) (wx : World), l[i]? = some r → (∀ k, k < w.heap.size → k ∉ foot b bw be dv → wx.heap[k]? = w.heap[k]?) →
      Calls Try.prog 44 #[.int .i64 i, .pointer (some ⟨pf, 0, none⟩), .pointer (some ⟨pv, 0, none⟩)] wx fun e w' => e = .returned (.agg #[.bool r.1, .int .i64 r.2.1, .int .i64 r.2.2]) ∧ Keeps [] wx w') :
    Calls Try.prog 43 #[.pointer (some ⟨b, 0, none⟩), .int .i64 l.length, .func (.func 44) #[] #[.pointer (some ⟨pf, 0, none⟩), .pointer (some ⟨pv, 0, none⟩)]] w fun e w' =>
      e = .returned (.int .i64 (codeOf (FS.runL s l).2)) ∧ ∃ dv', Fl w' b bw be dv' (FS.runL s l).1 ∧ Keeps (foot b bw be dv) w w' ∧ ∀ j, dv'.ownBlock = some j → dv.ownBlock = some j ∨ w.heap.size < j := by
  have c5 := hF.c5
  rw [ho] at c5
  have lb := hF.lb
  have HR := Lib.hid hraw
  clear hraw
  go_enter Try.func43, Try.ntmps43
  go_wp2_with (go_at_call 61; refine (writer_any _ _).mono ?_; rintro e w' ⟨rfl, rfl⟩)
  go_loopw [16] (fun v wr => ∃ (k : Nat) (dv' : Value) (s' : FS), k ≤ l.length ∧ v = .int .i64 k ∧ fLp w wr b bw be dv dv' s s' l k N) (fun v _ => l.length - (intOf v).toNat)
  case atStart =>
    refine ⟨0, dv, s, Nat.zero_le _, rfl, hF.alloc _, rfl, (Keeps.refl _ _).alloc _, fun _ e => .inl e, ?_, hg, rfl⟩
    exact World.cell?_alloc_new w #[_] 23 0
  case round =>
    obtain ⟨k, dv', s', hk, rfl, hL⟩ := hrel
    by_cases hlt : k < l.length
    · obtain ⟨r, hr⟩ : ∃ r, l[k]? = some r := ⟨_, List.getElem?_eq_getElem hlt⟩
      have hrm := hl r (List.mem_of_getElem? hr)
      have hd : l.drop k = r :: l.drop (k + 1) := by rw [List.drop_eq_getElem_cons hlt]; congr 1; rw [List.getElem?_eq_getElem hlt] at hr; exact Option.some.inj hr
      obtain ⟨r1, r2, r3⟩ := r
      obtain ⟨q, rfl⟩ := Int.eq_ofNat_of_zero_le hrm.1
      have hq : q < s'.w.length := by rw [hL.len]; have := hrm.2; simp only at this; omega
      have HC := Lib.hid (HR.out k _ wr hr hL.keep.block)
      have HD := Lib.hid hd
      clear hd hr
      by_cases hc : s'.cut = 0
      · have HCut := Lib.hid hc
        clear hc
        go_wp2_with (first
          | (go_at_call 44; refine HC.out.mono ?_; rintro e wa ⟨rfl, hka⟩; have hfa := hL.fl.keep hka (by simp); have hpa := (hka.cell (World.block_lt_of_cell? _ _ hL.cp) (by simp)).trans hL.cp)
          | (go_at_call 67; refine (raw_cut w.heap.size b r1 q r3 _ wa hpa (by have := hfa.c4; rw [HCut.out] at this; exact this) hfa.c5 (hfa.fz 5)).mono ?_; rintro e wb ⟨rfl, hkb⟩))
        go_ret
        have hf2 := ((hfa.setOff true).alloc (.cells #[.bool r1, .int .i64 q, .int .i64 r3] 80)).alike hkb
        have he : FS.runL s l = ({ s' with off := true }, false) := by rw [← hL.eq, HD.out, runL_cut HCut.out]
        have hkk : Keeps (foot b bw be dv) w wb := ((((hL.keep.trans0 hka).setCell (p := ⟨b, 5, none⟩) (.inl (by simp [foot])) (.bool true)).alloc (.cells #[.bool r1, .int .i64 q, .int .i64 r3] 80))).alike hkb
        rw [he]
        exact ⟨rfl, dv', hf2, hkk, hL.new⟩
      · have hg1 := hL.good
        have hpn := hL.box hF
        have hput := hg1.put (r1, (q : Int), r3)
        have HCut := Lib.hid hc
        clear hc
        have hsz := hL.keep.size
        go_wp2_with (first
          | (go_at_call 44; refine HC.out.mono ?_; rintro e wa ⟨rfl, hka⟩; have hfa := hL.fl.keep hka (by simp); have hpa := (hka.cell (World.block_lt_of_cell? _ _ hL.cp) (by simp)).trans hL.cp)
          | (go_at_call 67; refine (raw_put w.heap.size b bw be dv' s' r1 q r3 wa hfa hpa hpn HCut.out hg1.hcb hq hg1.hwl hg1.hn.1 hg1.hn.2 (hg1.page hq) hg1.hel (fun i => ⟨(hg1.hev i).1, Int.le_trans (hg1.hev i).2 (by omega)⟩) (Nat.le_trans hg1.hd (by omega))).mono ?_; rintro e wb ⟨rfl, dv2, hfb, hkb, hnb⟩))
        go_roundw
        case rel =>
          have hsz2 := hka.size
          refine ⟨k + 1, dv2, s'.put (r1, (q : Int), r3), by omega, by go_num, hfb, ?_, (hL.keep.trans0 hka).trans hkb ?_, ?_, (hkb.cell (World.block_lt_of_cell? _ _ hpa) hpn).trans hpa, ?_, ?_⟩
          · rw [← hL.eq, HD.out, runL_cons HCut.out]
          · intro x hx
            rw [mem_foot] at hx ⊢
            rcases hx with hx | hx | hx | hx
            · exact .inl (.inl hx)
            · exact .inl (.inr (.inl hx))
            · exact .inl (.inr (.inr (.inl hx)))
            · rcases hL.new x hx with h1 | h1
              · exact .inl (.inr (.inr (.inr h1)))
              · exact .inr (by omega)
          · intro j e
            have hl0 := World.block_lt_of_cell? _ _ hL.cp
            simp only at hl0
            rcases hnb j e with h1 | h1
            · exact hL.new j h1
            · exact .inr (by omega)
          · rw [← Nat.add_assoc]; exact hput
          · rw [FS.put_w_length]; exact hL.len
        case measure => simp [intOf]; omega
    · have hkl : k = l.length := by omega
      have he : FS.runL s l = (s', true) := by rw [← hL.eq, hkl, List.drop_length]; rfl
      have HE := Lib.hid he
      clear he hkl
      go_wp2
      go_ret
      rw [HE.out]
      exact ⟨rfl, dv', hL.fl, hL.keep, hL.new⟩

set_option maxHeartbeats 1000000 in
theorem run_46 (pf : Nat) (b bw be : Nat) (dv : Value) (s : FS) (l : List Raw3) (N : Nat) (w : World) (hF : Fl w b bw be dv s) (ho : s.off = false) (hg : s.Good N) (hN : N + l.length ≤ 1000000000)
    (hl : ∀ r ∈ l, 0 ≤ r.2.1 ∧ r.2.1 < s.w.length)
    (hraw : ∀ (i : Nat) (r : Raw3) (wx : World), l[i]? = some r → (∀ k, k < w.heap.size → k ∉ foot b bw be dv → wx.heap[k]? = w.heap[k]?) →
      Calls Try.prog 70 #[.int .i64 i, .pointer (some ⟨pf, 0, none⟩)] wx fun e w' => e = .returned (.agg #[.bool r.1, .int .i64 r.2.1, .int .i64 r.2.2]) ∧ Keeps [] wx w') :
    Calls Try.prog 43 #[.pointer (some ⟨b, 0, none⟩), .int .i64 l.length, .func (.func 70) #[] #[.pointer (some ⟨pf, 0, none⟩)]] w fun e w' =>
      e = .returned (.int .i64 (codeOf (FS.runL s l).2)) ∧ ∃ dv', Fl w' b bw be dv' (FS.runL s l).1 ∧ Keeps (foot b bw be dv) w w' ∧ ∀ j, dv'.ownBlock = some j → dv.ownBlock = some j ∨ w.heap.size < j := by
  have c5 := hF.c5
  rw [ho] at c5
  have lb := hF.lb
  have HR := Lib.hid hraw
  clear hraw
  go_enter Try.func43, Try.ntmps43
  go_wp2_with (go_at_call 61; refine (writer_any _ _).mono ?_; rintro e w' ⟨rfl, rfl⟩)
  go_loopw [16] (fun v wr => ∃ (k : Nat) (dv' : Value) (s' : FS), k ≤ l.length ∧ v = .int .i64 k ∧ fLp w wr b bw be dv dv' s s' l k N) (fun v _ => l.length - (intOf v).toNat)
  case atStart =>
    refine ⟨0, dv, s, Nat.zero_le _, rfl, hF.alloc _, rfl, (Keeps.refl _ _).alloc _, fun _ e => .inl e, ?_, hg, rfl⟩
    exact World.cell?_alloc_new w #[_] 23 0
  case round =>
    obtain ⟨k, dv', s', hk, rfl, hL⟩ := hrel
    by_cases hlt : k < l.length
    · obtain ⟨r, hr⟩ : ∃ r, l[k]? = some r := ⟨_, List.getElem?_eq_getElem hlt⟩
      have hrm := hl r (List.mem_of_getElem? hr)
      have hd : l.drop k = r :: l.drop (k + 1) := by rw [List.drop_eq_getElem_cons hlt]; congr 1; rw [List.getElem?_eq_getElem hlt] at hr; exact Option.some.inj hr
      obtain ⟨r1, r2, r3⟩ := r
      obtain ⟨q, rfl⟩ := Int.eq_ofNat_of_zero_le hrm.1
      have hq : q < s'.w.length := by rw [hL.len]; have := hrm.2; simp only at this; omega
      have HC := Lib.hid (HR.out k _ wr hr hL.keep.block)
      have HD := Lib.hid hd
      clear hd hr
      by_cases hc : s'.cut = 0
      · have HCut := Lib.hid hc
        clear hc
        go_wp2_with (first
          | (go_at_call 70; refine HC.out.mono ?_; rintro e wa ⟨rfl, hka⟩; have hfa := hL.fl.keep hka (by simp); have hpa := (hka.cell (World.block_lt_of_cell? _ _ hL.cp) (by simp)).trans hL.cp)
          | (go_at_call 67; refine (raw_cut w.heap.size b r1 q r3 _ wa hpa (by have := hfa.c4; rw [HCut.out] at this; exact this) hfa.c5 (hfa.fz 5)).mono ?_; rintro e wb ⟨rfl, hkb⟩))
        go_ret
        have hf2 := ((hfa.setOff true).alloc (.cells #[.bool r1, .int .i64 q, .int .i64 r3] 80)).alike hkb
        have he : FS.runL s l = ({ s' with off := true }, false) := by rw [← hL.eq, HD.out, runL_cut HCut.out]
        have hkk : Keeps (foot b bw be dv) w wb := ((((hL.keep.trans0 hka).setCell (p := ⟨b, 5, none⟩) (.inl (by simp [foot])) (.bool true)).alloc (.cells #[.bool r1, .int .i64 q, .int .i64 r3] 80))).alike hkb
        rw [he]
        exact ⟨rfl, dv', hf2, hkk, hL.new⟩
      · have hg1 := hL.good
        have hpn := hL.box hF
        have hput := hg1.put (r1, (q : Int), r3)
        have HCut := Lib.hid hc
        clear hc
        have hsz := hL.keep.size
        go_wp2_with (first
          | (go_at_call 70; refine HC.out.mono ?_; rintro e wa ⟨rfl, hka⟩; have hfa := hL.fl.keep hka (by simp); have hpa := (hka.cell (World.block_lt_of_cell? _ _ hL.cp) (by simp)).trans hL.cp)
          | (go_at_call 67; refine (raw_put w.heap.size b bw be dv' s' r1 q r3 wa hfa hpa hpn HCut.out hg1.hcb hq hg1.hwl hg1.hn.1 hg1.hn.2 (hg1.page hq) hg1.hel (fun i => ⟨(hg1.hev i).1, Int.le_trans (hg1.hev i).2 (by omega)⟩) (Nat.le_trans hg1.hd (by omega))).mono ?_; rintro e wb ⟨rfl, dv2, hfb, hkb, hnb⟩))
        go_roundw
        case rel =>
          have hsz2 := hka.size
          refine ⟨k + 1, dv2, s'.put (r1, (q : Int), r3), by omega, by go_num, hfb, ?_, (hL.keep.trans0 hka).trans hkb ?_, ?_, (hkb.cell (World.block_lt_of_cell? _ _ hpa) hpn).trans hpa, ?_, ?_⟩
          · rw [← hL.eq, HD.out, runL_cons HCut.out]
          · intro x hx
            rw [mem_foot] at hx ⊢
            rcases hx with hx | hx | hx | hx
            · exact .inl (.inl hx)
            · exact .inl (.inr (.inl hx))
            · exact .inl (.inr (.inr (.inl hx)))
            · rcases hL.new x hx with h1 | h1
              · exact .inl (.inr (.inr (.inr h1)))
              · exact .inr (by omega)
          · intro j e
            have hl0 := World.block_lt_of_cell? _ _ hL.cp
            simp only at hl0
            rcases hnb j e with h1 | h1
            · exact hL.new j h1
            · exact .inr (by omega)
          · rw [← Nat.add_assoc]; exact hput
          · rw [FS.put_w_length]; exact hL.len
        case measure => simp [intOf]; omega
    · have hkl : k = l.length := by omega
      have he : FS.runL s l = (s', true) := by rw [← hL.eq, hkl, List.drop_length]; rfl
      have HE := Lib.hid he
      clear he hkl
      go_wp2
      go_ret
      rw [HE.out]
      exact ⟨rfl, dv', hL.fl, hL.keep, hL.new⟩

end Go.Proofs.Ytcaphgokckkmfaa
