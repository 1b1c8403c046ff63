
/- Erase of the document's own flash: its contract. -/
import Derived.Test.YtcaphgokckkmfaaME
namespace Go.Proofs.Ytcaphgokckkmfaa
open Go.RowKit
set_option linter.unusedVariables false
variable {w w' : World} {F : List Nat} {b gw cw be : Nat} {lv : Value} {s : FS}

/-- In the loop of Erase. -/
structure LpE (w wr : World) (b gw cw be : Nat) (lv lv' : Value) (s s' : FS) (l : List Raw3) (k N : Nat) : Prop where
  fl : Rf wr b gw cw be lv' s'
  eq : FS.runL s' (l.drop k) = FS.runL s l
  keep : Keeps (foot b gw be lv) w wr
  new : ∀ j, lv'.ownBlock = some j → lv.ownBlock = some j ∨ w.heap.size ≤ j
  off : s'.off = false
  len : s'.w.length = s.w.length
  eln : s'.er.length = s.er.length
  nn : s'.n = s.n
  h16 : W16 s'.w
  good : s'.Good (N + k)

theorem LpE.step {w wr wx : World} {lv' lv2 : Value} {s' : FS} {l : List Raw3} {k N : Nat} {r : Raw3} (h : LpE w wr b gw cw be lv lv' s s' l k N) (hd : l.drop k = r :: l.drop (k + 1)) (hc : s'.cut ≠ 0) (hr : RawFits r)
    (hf : Rf wx b gw cw be lv2 (s'.put r)) (hk : Keeps (foot b gw be lv') wr wx) (hn : ∀ j, lv2.ownBlock = some j → lv'.ownBlock = some j ∨ wr.heap.size ≤ j) :
    LpE w wx b gw cw be lv lv2 s (s'.put r) l (k + 1) N := by
  have hs := h.keep.size
  refine ⟨hf, by rw [← h.eq, hd, runL_cons hc], h.keep.trans hk ?_, ?_, h.off, by rw [FS.put_w_length]; exact h.len, ?_, h.nn, h.h16.put hr, by rw [← Nat.add_assoc]; exact h.good.put r⟩
  · intro x hx
    rw [mem_foot] at hx ⊢
    rcases hx with hx | hx | hx | hx
    · exact .inl (.inl hx)
    · exact .inl (.inr (.inl hx))
    · exact .inl (.inr (.inr (.inl hx)))
    · rcases h.new x hx with h1 | h1
      · exact .inl (.inr (.inr (.inr h1)))
      · exact .inr h1
  · intro j e
    rcases hn j e with h1 | h1
    · exact h.new j h1
    · right; omega
  · have : (s'.put r).er.length = s'.er.length := by simp only [FS.put]; split <;> simp
    rw [this]; exact h.eln

theorem put_erase0 {s : FS} {q P : Nat} (hP : (q : Int) * s.n = P) (hn : 1 ≤ s.n) : s.put (true, (P : Int), 65535) = { s.putR (true, (P : Int), 65535) with er := s.er.set q (s.er.getD q 0 + 1) } := by
  have h1 : (P : Int) % s.n = 0 := by rw [← hP]; exact Int.mul_emod_left _ _
  have h2 : (P : Int) / s.n = q := by rw [← hP]; exact Int.mul_ediv_cancel _ (by omega)
  simp [FS.putR, FS.put, h1, h2]
theorem put_eraseK {s : FS} {q P k : Nat} (hP : (q : Int) * s.n = P) (hk : (k : Int) < s.n) (h0 : k ≠ 0) : s.put (true, ((P + k : Nat) : Int), 65535) = s.putR (true, ((P + k : Nat) : Int), 65535) := by
  have h1 : ((P + k : Nat) : Int) % s.n = k := by
    rw [Int.natCast_add, ← hP, Int.add_comm, Int.add_mul_emod_self_right]
    exact Int.emod_eq_of_lt (by omega) hk
  have h2 : ¬ ((P + k : Nat) : Int) % s.n = 0 := by rw [h1]; omega
  simp only [FS.putR, FS.put, h2, and_false, if_false]

set_option maxRecDepth 100000 in
set_option maxHeartbeats 2000000 in
theorem refErase_any {N : Nat} (hF : Rf w b gw cw be lv s) (hg : s.Good N) (h16 : W16 s.w) (page : Int) (hN : N + s.n.toNat ≤ 100000000) :
    Calls Try.prog 48 #[.pointer (some ⟨b, 0, none⟩), .int .i64 page] w fun e w' => e = .returned (.int .i64 (s.eraseP page).1) ∧
      ∃ lv', Rf w' b gw cw be lv' (s.eraseP page).2 ∧ Keeps (foot b gw be lv) w w' ∧ ∀ j, lv'.ownBlock = some j → lv.ownBlock = some j ∨ w.heap.size ≤ j := by
  have c5 := hF.c5
  have lb := hF.lb
  have hel := hg.hel
  have hwl := hg.hwl
  obtain ⟨hn1, hn2⟩ := hg.hn
  by_cases h0 : 0 ≤ page
  · by_cases h1 : page < s.er.length
    · obtain ⟨q, rfl⟩ := Int.eq_ofNat_of_zero_le h0
      have hq : q < s.er.length := by omega
      have hin : fwithinB 0 ((s.er.length : Int) - 1) q = true := by rw [fwithinB_iff]; omega
      obtain ⟨nn, hnn⟩ := Int.eq_ofNat_of_zero_le (show 0 ≤ s.n by omega)
      have hm0 : (0 : Int) ≤ (q : Int) * s.n := Int.mul_nonneg (by omega) (by omega)
      have hm1 : (q : Int) * s.n + s.n ≤ s.w.length := by
        rw [hg.hwe]
        have : ((q : Int) + 1) * s.n ≤ s.er.length * s.n := Int.mul_le_mul_of_nonneg_right (by omega) (by omega)
        rw [Int.add_mul, Int.one_mul] at this
        exact this
      obtain ⟨P, hP⟩ := Int.eq_ofNat_of_zero_le hm0
      have hPw : P + nn ≤ s.w.length := by omega
      have c2 := hF.c2
      have HP := Lib.hid hP
      have HNN := Lib.hid hnn
      rw [hnn] at c2
      have hmul : (q : Int) * (nn : Int) = (P : Int) := by rw [← hnn]; exact hP
      have hnn1 : 1 ≤ nn := by omega
      have hnn2 : nn ≤ 1000000 := by omega
      obtain ⟨l, hl⟩ : ∃ l, l = erasesOf ((q : Int) * s.n) s.n.toNat := ⟨_, rfl⟩
      have hll : l.length = nn := by rw [hl, erasesOf_length, hnn]; rfl
      have HL := Lib.hid hl
      have HLL := Lib.hid hll
      have HIn := Lib.hid hin
      have HPP := Lib.hid hmul
      have hNn : N + nn ≤ 100000000 := by omega
      clear hm0 hm1 hP hnn hl hll hin hN hn1 hn2
      by_cases ho : s.off = true
      · have hfin : s.eraseP q = (10, s) := by simp [FS.eraseP, HIn.out, ho]
        have hs : ({ s with off := true } : FS) = s := by cases s; simp_all
        have HFin := Lib.hid hfin
        have HS := Lib.hid hs
        have HO := Lib.hid ho
        clear hfin hs ho
        go_enter Try.func48, Try.ntmps48
        go_wp2_with fail
        go_loopw [5] (fun v wr => v = .int .i64 0 ∧ wr = w) (fun v _ => 1 - (intOf v).toNat)
        case atStart => exact ⟨rfl, rfl⟩
        case round =>
          obtain ⟨rfl, rfl⟩ := hrel
          go_wp2_with (go_at_call 45; refine (rraw_cut true (P : Int) 65535 _ hF (.inl HO.out)).mono ?_; rintro e wb ⟨rfl, hfb, hkb⟩)
          go_ret
          rw [HFin.out]
          rw [HS.out] at hfb
          exact ⟨rfl, lv, hfb, hkb, fun j e => .inl e⟩
      · have ho2 : s.off = false := by simpa using ho
        have hfin : s.eraseP q = (codeOf (FS.runL s l).2, (FS.runL s l).1) := by rw [HL.out]; simp [FS.eraseP, HIn.out, ho2]
        have HFin := Lib.hid hfin
        have HO := Lib.hid ho2
        clear hfin ho ho2
        have hd1 : decide ((q : Int) < 0) = false := by simp
        have hd2 : decide (s.er.length ≤ q) = false := by simp; exact hq
        go_enter Try.func48, Try.ntmps48
        go_wp2_with fail
        go_loopw [5] (fun v wr => ∃ (k : Nat) (lv' : Value) (s' : FS), k ≤ nn ∧ v = .int .i64 k ∧ LpE w wr b gw cw be lv lv' s s' l k N) (fun v _ => nn - (intOf v).toNat)
        case atStart => exact ⟨0, lv, s, Nat.zero_le _, rfl, hF, rfl, Keeps.refl _ _, fun _ e => .inl e, HO.out, rfl, rfl, rfl, h16, hg⟩
        case round =>
          obtain ⟨k, lv', s', hk, rfl, hL⟩ := hrel
          have b2 := hL.fl.c2
          rw [hL.nn, HNN.out] at b2
          have l0 := hL.fl.lb
          by_cases hlt : k < nn
          · have hd0 : l.drop k = (true, ((P + k : Nat) : Int), 65535) :: l.drop (k + 1) := by
              have h1 : k < l.length := by rw [HLL.out]; exact hlt
              rw [List.drop_eq_getElem_cons h1]
              congr 1
              have h2 := erasesOf_get ((q : Int) * s.n) s.n.toNat k (by rw [HNN.out]; simpa using hlt)
              rw [← HL.out, List.getElem?_eq_getElem h1] at h2
              rw [Option.some.inj h2, HP.out]; simp
            have HD := Lib.hid hd0
            clear hd0
            have hq2 : P + k < s'.w.length := by rw [hL.len]; omega
            have hwl2 : s'.w.length ≤ 1000000 := by rw [hL.len]; exact hwl
            have hdn := hL.good.hd
            have hsum : IntKind.i64.wrap ((P : Int) + (k : Int)) = ((P + k : Nat) : Int) := by rw [IntKind.wrap_i64]; omega
            have hPP : (q : Int) * s'.n = P := by rw [hL.nn]; exact HP.out
            have HPn := Lib.hid hPP
            clear hPP
            by_cases hc : s'.cut = 0
            · have HC := Lib.hid hc
              clear hc
              go_wp2_with (go_at_call 45; refine (rraw_cut true ((P + k : Nat) : Int) 65535 _ hL.fl (.inr HC.out)).mono ?_; rintro e wb ⟨rfl, hfb, hkb⟩)
              go_ret
              rw [HFin.out, ← hL.eq, HD.out, runL_cut HC.out]
              exact ⟨rfl, lv', hfb, hL.keep.trans hkb (by intro y hy; rw [mem_foot] at hy ⊢; rcases hy with hy | hy | hy | hy; exact .inl (.inl hy); exact .inl (.inr (.inl hy)); exact .inl (.inr (.inr (.inl hy))); exact (hL.new y hy).imp (fun h => .inr (.inr (.inr h))) id), hL.new⟩
            · have HC := Lib.hid hc
              clear hc
              obtain ⟨x, hx⟩ : ∃ x, x = s'.er.getD q 0 := ⟨_, rfl⟩
              have hev := hL.good.hev q
              rw [← hx] at hev
              have HX := Lib.hid hx
              have hxx : IntKind.i64.wrap (x + 1) = x + 1 := by rw [IntKind.wrap_i64]; omega
              have hqe : q < s'.er.length := by rw [hL.eln]; exact hq
              have hqs : s'.er.length = s.er.length := hL.eln
              have HQS := Lib.hid hqs
              clear hx hqs
              by_cases hk0 : k = 0
              · have HK0 := Lib.hid hk0
                have hkz : ((k : Int) == 0) = true := by simp; omega
                clear hk0
                go_wp2_with (go_at_call 45; refine (rraw_put true (P + k) 65535 _ hL.fl hL.off HC.out hL.good.hcb hq2 hwl2 (by omega) hL.h16 (.inl rfl)).mono ?_; rintro e wb ⟨rfl, lv2, hfb, hkb, hnb⟩; have d5 : wb.cell? ⟨b, 5, none⟩ = some (.slice (some ⟨be, 0, none⟩) s.er.length s.er.length) := (by rw [← HQS.out]; exact hfb.c5); have d6 := hfb.lb; have d7 : wb.cell? ⟨be, q, none⟩ = some (.int .i64 x) := (by rw [HX.out]; exact hfb.ce hqe); have d8 := hfb.fe q)
                have hpn := put_erase0 HPn.out (by rw [hL.nn, HNN.out]; omega)
                have hf2 := hfb.setE q (x + 1)
                have hstep : LpE w (wb.setCell ⟨be, q, none⟩ (.int .i64 (x + 1))) b gw cw be lv lv2 s (s'.put (true, ((P + k : Nat) : Int), 65535)) l (k + 1) N := by
                  refine hL.step HD.out HC.out (.inl rfl) ?_ (hkb.setCell (.inl (by simp [foot])) (.int .i64 (x + 1))) hnb
                  have hk0 := HK0.out
                  subst hk0
                  show Rf _ b gw cw be lv2 (s'.put (true, (P : Int), 65535))
                  rw [hpn, ← HX.out]
                  exact hf2
                have HST := Lib.hid hstep
                clear hpn hf2 hstep
                go_roundw
                case rel => exact ⟨k + 1, lv2, _, by omega, by go_num, HST.out⟩
                case measure => simp [intOf]; omega
              · have hkz : ((k : Int) == 0) = false := by simp; omega
                go_wp2_with (go_at_call 45; refine (rraw_put true (P + k) 65535 _ hL.fl hL.off HC.out hL.good.hcb hq2 hwl2 (by omega) hL.h16 (.inl rfl)).mono ?_; rintro e wb ⟨rfl, lv2, hfb, hkb, hnb⟩; have d5 : wb.cell? ⟨b, 5, none⟩ = some (.slice (some ⟨be, 0, none⟩) s.er.length s.er.length) := (by rw [← HQS.out]; exact hfb.c5); have d6 := hfb.lb; have d7 : wb.cell? ⟨be, q, none⟩ = some (.int .i64 x) := (by rw [HX.out]; exact hfb.ce hqe); have d8 := hfb.fe q)
                have hpn := put_eraseK HPn.out (k := k) (by rw [hL.nn, HNN.out]; omega) hk0
                rw [← hpn] at hfb
                have hstep := hL.step HD.out HC.out (.inl rfl) hfb hkb hnb
                have HST := Lib.hid hstep
                clear hpn hstep
                go_roundw
                case rel => exact ⟨k + 1, lv2, _, by omega, by go_num, HST.out⟩
                case measure => simp [intOf]; omega
          · have he : FS.runL s l = (s', true) := by rw [← hL.eq, List.drop_of_length_le (by rw [HLL.out]; omega)]; rfl
            have HE := Lib.hid he
            clear he
            go_wp2_with fail
            go_ret
            rw [HFin.out, HE.out]
            exact ⟨rfl, lv', hL.fl, hL.keep, hL.new⟩
    · have hfin : s.eraseP page = (2, s) := by
        have : ¬ fwithinB 0 ((s.er.length : Int) - 1) page = true := by rw [fwithinB_iff]; omega
        simp [FS.eraseP, this]
      rw [hfin]
      clear hfin
      go_enter Try.func48, Try.ntmps48
      go_wp2_with fail
      go_ret
      exact ⟨rfl, lv, hF, Keeps.refl _ _, fun j e => .inl e⟩
  · have hfin : s.eraseP page = (2, s) := by
      have : ¬ fwithinB 0 ((s.er.length : Int) - 1) page = true := by rw [fwithinB_iff]; omega
      simp [FS.eraseP, this]
    rw [hfin]
    clear hfin
    go_enter Try.func48, Try.ntmps48
    go_wp2_with fail
    go_ret
    exact ⟨rfl, lv, hF, Keeps.refl _ _, fun j e => .inl e⟩

end Go.Proofs.Ytcaphgokckkmfaa
