
/- Are two lists of ints the same: the contract. -/
import Derived.Test.YtcaphgokckkmfaaAp
namespace Go.Proofs.Ytcaphgokckkmfaa
open Go.RowKit
set_option maxRecDepth 100000
set_option linter.unusedVariables false
variable {w w' : World} {g c : Nat} {xs ys : List Int} {F : List Nat}

/-- Are two lists of ints the same: as the walk tells it. -/
theorem sameInts_any (a a' : Option Addr) (n n' c c' : Nat) (xs ys : List Int) (w : World) (h : IntsAt w a n xs) (h' : IntsAt w a' n' ys) (hn : n ≤ maxLen) (hn' : n' ≤ maxLen) :
    Calls Try.prog 23 #[.slice a n c, .slice a' n' c'] w fun e w' => e = .returned (.bool (decide (xs = ys))) ∧ ∃ m, w' = w.drewN m := by
  unfold maxLen at hn hn'
  obtain ⟨rfl, ha1, ha2⟩ := h
  obtain ⟨rfl, hb1, hb2⟩ := h'
  by_cases hl : xs.length = ys.length
  · have hlb : ((xs.length : Int) == ys.length) = true := by simp [hl]
    have hln : ((xs.length : Int) != ys.length) = false := by simp [hl]
    have HL := Lib.hid hl
    clear hl
    go_enter Try.func23, Try.ntmps23
    go_wp2
    go_loopw [5] (fun v wr => ∃ (k m : Nat), k ≤ xs.length ∧ v = .int .i64 k ∧ (∀ i, i < k → xs.getD i 0 = ys.getD i 0) ∧ wr = w.drewN m) (fun v _ => xs.length - (intOf v).toNat)
    case atStart => exact ⟨0, 0, Nat.zero_le _, rfl, by intro i hi; omega, rfl⟩
    case round =>
      obtain ⟨k, m, hk, rfl, hsame, rfl⟩ := hrel
      have HS := Lib.hid hsame
      clear hsame
      by_cases hlt : k < xs.length
      · have hlt2 : k < ys.length := by rw [← HL.out]; exact hlt
        rcases a with _ | ⟨b, o, sp⟩
        · have := ha1 rfl; rw [this] at hlt; simp at hlt
        rcases a' with _ | ⟨b', o', sp'⟩
        · have := hb1 rfl; rw [this] at hlt2; simp at hlt2
        obtain ⟨rfl, hx⟩ := ha2 b o sp rfl (List.ne_nil_of_length_pos (by omega))
        obtain ⟨rfl, hy⟩ := hb2 b' o' sp' rfl (List.ne_nil_of_length_pos (by omega))
        have gx := hx k hlt
        have gy := hy k hlt2
        obtain ⟨x, ex⟩ : ∃ x, x = xs.getD k 0 := ⟨_, rfl⟩
        obtain ⟨y, ey⟩ : ∃ y, y = ys.getD k 0 := ⟨_, rfl⟩
        rw [← ex] at gx
        rw [← ey] at gy
        have EX := Lib.hid ex
        have EY := Lib.hid ey
        clear ex ey hx hy ha1 ha2 hb1 hb2
        by_cases he : x = y
        · have hneb : (x != y) = false := by simp [he]
          have HE := Lib.hid he
          clear he
          go_upto_region 6 with (fail)
          go_quiet (fail)
          go_wp2
          go_roundw
          case rel =>
            refine ⟨k + 1, _, by omega, by go_num, ?_, rfl⟩
            intro i hi
            by_cases h : i < k
            · exact HS.out i h
            · obtain rfl : i = k := by omega
              rw [← EX.out, ← EY.out]; exact HE.out
          case measure => simp [intOf]; omega
        · have hneb : (x != y) = true := by simp [he]
          have hfin : decide (xs = ys) = false := by
            rw [decide_eq_false_iff_not]
            rintro rfl
            exact he (by rw [EX.out, EY.out])
          have HF := Lib.hid hfin
          clear he hfin
          go_upto_region 6 with (fail)
          go_quiet (fail)
          go_wp2
          go_ret
          exact ⟨by rw [HF.out]; rfl, _, World.drewN_drewN _ _ _⟩
      · have hfin : decide (xs = ys) = true := by
          rw [decide_eq_true_iff]
          refine List.ext_getElem HL.out (fun i h1 h2 => ?_)
          have := HS.out i (by omega)
          simpa [List.getD, h1, h2] using this
        have HF := Lib.hid hfin
        clear hfin ha1 ha2 hb1 hb2
        go_wp2
        go_ret
        exact ⟨by rw [HF.out]; rfl, _, rfl⟩
  · have hln : ((xs.length : Int) != ys.length) = true := by simp; omega
    have hfin : decide (xs = ys) = false := by
      rw [decide_eq_false_iff_not]
      rintro rfl
      exact hl rfl
    have HF := Lib.hid hfin
    clear hfin hl ha1 ha2 hb1 hb2
    go_enter Try.func23, Try.ntmps23
    go_wp2
    go_ret
    exact ⟨by rw [HF.out]; rfl, 0, rfl⟩

end Go.Proofs.Ytcaphgokckkmfaa
