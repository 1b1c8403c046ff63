/- Since of a flash that Make made: its contract. -/
import Derived.Test.YtjebflafbkmokaaSR
namespace Go.Proofs.Ytjebflafbkmokaa
open Go.RowKit
set_option linter.unusedVariables false
variable {w w' : World} {F : List Nat} {L M : List Raw3}

set_option maxHeartbeats 1000000 in
theorem since_neg {b bw be : Nat} {dv : Value} {s : FS} (hF : Fl w b bw be dv s) (hd : s.done.length ≤ 1000000000) :
    Calls Try.prog 33 #[.pointer (some ⟨b, 0, none⟩), .int .i64 (-1)] w fun e w' => ∃ v, e = .returned v ∧ RawCopy w w' v s.done := by
  rcases hF.hd.2 with ⟨hdv, hlen⟩ | ⟨g, c, cur, hdv, _, hg, hle, hcm, _⟩
  · have c6 := hF.c6
    rw [hdv] at c6
    have h0 := List.eq_nil_of_length_eq_zero hlen
    clear hlen hdv
    have H0 := Lib.hid h0
    clear h0
    go_enter Try.func33, Try.ntmps33
    go_upto_region 3 with (go_at_call 39; refine (made_fl hF).mono ?_; rintro e w' ⟨rfl, rfl⟩)
    go_still_tail 13, (by kernel_rfl)
    change wpList _ _ _ _ _ w.drew
    go_wp2_with (go_at_call 48; refine (clone_raws_none 0 0 w.drew H0.out).mono ?_; rintro e w' ⟨v, rfl, hv⟩)
    go_ret
    obtain ⟨a, c, rfl, q1, q2, q3, q4⟩ := hv
    exact ⟨_, rfl, a, c, rfl, q1, q2, ⟨q3.os, q3.output, q3.size, q3.block⟩, q4⟩
  · have c6 := hF.c6
    rw [hdv] at c6
    unfold maxLen at hcm
    obtain ⟨a, c', e', hr⟩ := hF.raws
    rw [hdv] at e'
    have e1 : some (⟨g, 0, none⟩ : Addr) = a := by injection e'
    subst e1
    clear hdv e'
    have hr2 : RawsAt w.drew (some ⟨g, 0, none⟩) s.done.length s.done := hr.keep (F := []) (Keeps.refl _ _).drew (by simp)
    clear hr hg
    have hbl := hF.lb
    rcases Nat.eq_zero_or_pos c with hc | hc
    · have h0 : s.done.length = 0 := Nat.le_zero.1 (hc ▸ hle)
      rw [h0, hc] at c6
      rw [h0] at hr2
      have HRR := Lib.hid hr2
      clear hr2 hle h0 hc
      go_enter Try.func33, Try.ntmps33
      go_upto_region 3 with (go_at_call 39; refine (made_fl hF).mono ?_; rintro e w' ⟨rfl, rfl⟩)
      go_still_tail 13, (by kernel_rfl)
      change wpList _ _ _ _ _ w.drew
      go_wp2_with (go_at_call 48; refine (clone_raws_some ⟨g, 0, none⟩ 0 0 s.done w.drew HRR.out (by omega)).mono ?_; rintro e w' ⟨v, rfl, hv⟩)
      go_ret
      obtain ⟨a, c, rfl, q1, q2, q3, q4⟩ := hv
      exact ⟨_, rfl, a, c, rfl, q1, q2, ⟨q3.os, q3.output, q3.size, q3.block⟩, q4⟩
    · have hcb : (c == 0) = false := beq_eq_false_iff_ne.2 (Nat.ne_of_gt hc)
      have hnn : ¬ (s.done.length : Int) < 0 := by omega
      go_enter Try.func33, Try.ntmps33
      go_upto_region 3 with (go_at_call 39; refine (made_fl hF).mono ?_; rintro e w' ⟨rfl, rfl⟩)
      go_region_with (
        go_at_call 48
        refine (clone_raws_some ⟨g, 0, none⟩ _ c s.done w.drew hr2 hd).mono ?_
        rintro e w' ⟨v, rfl, hv⟩)
      all_goals go_wp2_with fail
      all_goals go_ret
      all_goals
        obtain ⟨a, c, rfl, q1, q2, q3, q4⟩ := hv
        exact ⟨_, rfl, a, c, rfl, q1, q2, ⟨q3.os, q3.output, q3.size, q3.block⟩, q4⟩

end Go.Proofs.Ytjebflafbkmokaa
