/- The statements' small helpers, and the flash's copies: their contracts. -/
import Derived.Test.YtjebflafbkmokaaI
namespace Go.Proofs.Ytjebflafbkmokaa
open Go.RowKit
set_option linter.unusedVariables false
variable {w w' : World} {g c : Nat} {xs ys : List Int} {F : List Nat}

/-- What Among makes of a number. -/
def amongI (x n : Int) : Int := wrap64 ((IntKind.u64.wrap x).tmod n)
theorem amongI_lt (x n : Int) (h1 : 1 ≤ n) (h2 : n ≤ 1000000000) : 0 ≤ amongI x n ∧ amongI x n < n := by
  unfold amongI
  have h0 : 0 ≤ IntKind.u64.wrap x := by simp [IntKind.wrap, IntKind.bits, IntKind.signed]; omega
  rw [Int.tmod_eq_emod_of_nonneg h0]
  have h3 := Int.emod_nonneg (IntKind.u64.wrap x) (show n ≠ 0 by omega)
  have h4 := Int.emod_lt_of_pos (IntKind.u64.wrap x) (show 0 < n by omega)
  rw [IntWalk.wrap64_in _ (by omega)]
  exact ⟨h3, h4⟩

theorem among_any (x n : Int) (w : World) (h1 : 1 ≤ n) (h2 : n ≤ 1000000000) : Calls Try.prog 15 #[.int .i64 x, .int .i64 n] w fun e w' => e = .returned (.int .i64 (amongI x n)) ∧ w = w' := by
  go_enter Try.func15, Try.ntmps15
  go_wp2
  go_ret
  exact ⟨rfl, rfl⟩

theorem own_empty (w : World) : (w.alloc (.cells #[] 3)).ownsRow w.heap.size 3 1 (.slice (some ⟨w.heap.size, 0, none⟩) 0 0) 0 [] :=
  World.ownsRow_made w #[] 0 (Nat.le_refl _) (by unfold maxLen; omega) (by simp)

/-- Behind the append of a copy: what is left. -/
theorem copied {v' : Value} {xs : List Int} (ho : w'.ownsRow w.heap.size 3 1 v' (0 + xs.length) ([] ++ xs.map (Value.int .i64)))
    (hg : (w.alloc (.cells #[] 3)).grownBy w' (some w.heap.size)) (hne : v' ≠ .slice none 0 0) : ∃ g c', v' = .slice (some ⟨g, 0, none⟩) xs.length c' ∧ w.heap.size ≤ g ∧ Arr w' g c' xs ∧ Keeps [] w w' := by
  obtain ⟨g, c', rfl, h1, h2⟩ := Arr.of_own (by simpa using ho) hne
  exact ⟨g, c', rfl, h1, h2, ((Keeps.refl _ _).alloc _).grown hg (by intro k e; injection e with e; exact .inr (by omega))⟩

theorem ints_some (ad : Addr) (n c : Nat) (xs : List Int) (w : World) (h : IntsAt w (some ad) n xs) (hn : n * 8 ≤ 140737488355328) :
    Calls Try.prog 16 #[.slice (some ad) n c] w fun e w' => ∃ v, e = .returned v ∧ ∃ g c', v = .slice (some ⟨g, 0, none⟩) xs.length c' ∧ w.heap.size ≤ g ∧ Arr w' g c' xs ∧ Keeps [] w w' := by
  obtain ⟨i0, hi, hz0, hz1, hz2⟩ := info_parts Try.info3
  obtain ⟨rfl, h2⟩ := h
  have h : IntsAt w (some ad) xs.length xs := ⟨rfl, h2⟩
  have hka : Keeps [] w (w.alloc (.cells #[] 3)) := (Keeps.refl _ _).alloc _
  have hno := (h.keep hka (by simp)).news
  go_enter Try.func16, Try.ntmps16
  go_wp2_with (at_builtin; refine wpList_append_new _ rfl (.tmp 3) (.tmp 4) 36 rfl w.heap.size 3 i0 (.int .i64 0) 1 8 Try.underlying36 hi hz0 hz1 hz2 rfl (by decide) (.slice (some ⟨w.heap.size, 0, none⟩) 0 0) 0 [] rfl (own_empty w) ad xs.length c (xs.map (Value.int .i64)) rfl (by simp) hno (by simp [Value.oneCell']) (by unfold maxLen; omega) (by omega) (by simp) ?_; intro v' w' q1 q2 q3 q4)
  have hv : v' ≠ .slice none 0 0 := fun e => absurd (q3.1 e).1 (by simp)
  go_ret
  exact ⟨_, rfl, copied q1 q2 hv⟩
theorem clone_some (ad : Addr) (n c : Nat) (xs : List Int) (w : World) (h : IntsAt w (some ad) n xs) (hn : n * 8 ≤ 140737488355328) :
    Calls Try.prog 47 #[.slice (some ad) n c] w fun e w' => ∃ v, e = .returned v ∧ ∃ g c', v = .slice (some ⟨g, 0, none⟩) xs.length c' ∧ w.heap.size ≤ g ∧ Arr w' g c' xs ∧ Keeps [] w w' := by
  obtain ⟨i0, hi, hz0, hz1, hz2⟩ := info_parts Try.info3
  obtain ⟨rfl, h2⟩ := h
  have h : IntsAt w (some ad) xs.length xs := ⟨rfl, h2⟩
  have hka : Keeps [] w (w.alloc (.cells #[] 3)) := (Keeps.refl _ _).alloc _
  have hno := (h.keep hka (by simp)).news
  have q := fun (w : World) (a : Option Addr) (n c : Nat) => Lib.run_eql_slice_nil (P := Try.prog) w 36 3 a n c 0 0 Try.underlying36
  go_enter Try.func47, Try.ntmps47
  go_wp2_with (at_builtin; refine wpList_append_new _ rfl (.tmp 5) (.tmp 6) 36 rfl w.heap.size 3 i0 (.int .i64 0) 1 8 Try.underlying36 hi hz0 hz1 hz2 rfl (by decide) (.slice (some ⟨w.heap.size, 0, none⟩) 0 0) 0 [] rfl (own_empty w) ad xs.length c (xs.map (Value.int .i64)) rfl (by simp) hno (by simp [Value.oneCell']) (by unfold maxLen; omega) (by omega) (by simp) ?_; intro v' w' q1 q2 q3 q4)
  have hv : v' ≠ .slice none 0 0 := fun e => absurd (q3.1 e).1 (by simp)
  go_ret
  exact ⟨_, rfl, copied q1 q2 hv⟩
theorem ints_none (n c : Nat) (w : World) (hn : n = 0) :
    Calls Try.prog 16 #[.slice none n c] w fun e w' => ∃ v, e = .returned v ∧ ∃ g c', v = .slice (some ⟨g, 0, none⟩) 0 c' ∧ w.heap.size ≤ g ∧ Arr w' g c' [] ∧ Keeps [] w w' := by
  subst hn
  go_enter Try.func16, Try.ntmps16
  go_wp2
  go_ret
  refine ⟨_, rfl, w.heap.size, 0, rfl, Nat.le_refl _, ⟨⟨#[], heap_alloc_new w _, by simp, rfl⟩, Nat.le_refl _, by unfold maxLen; omega⟩, (Keeps.refl _ _).alloc _⟩

theorem Fl.intsW {b bw be : Nat} {dv : Value} {s : FS} (h : Fl w b bw be dv s) : IntsAt w (some ⟨bw, 0, none⟩) s.w.length s.w := by
  refine ⟨rfl, (by simp), ?_⟩
  rintro b o s' e
  injection e with e
  injection e with e1 e2 e3
  subst e1; subst e2; subst e3
  exact fun _ => ⟨rfl, fun i hi => by rw [Nat.zero_add]; exact h.cw hi⟩

theorem image_yes {b bw be : Nat} {dv : Value} {s : FS} (h : Fl w b bw be dv s) (hl : s.w.length ≤ 1000000) :
    Calls Try.prog 29 #[.pointer (some ⟨b, 0, none⟩)] w fun e w' => ∃ v, e = .returned v ∧ ∃ g c', v = .slice (some ⟨g, 0, none⟩) s.w.length c' ∧ w.heap.size ≤ g ∧ Arr w' g c' s.w ∧ Keeps [] w w' := by
  have c0 := h.c0
  go_enter Try.func29, Try.ntmps29
  go_wp2_with (first
    | (go_at_call 39; refine (made_fl h).mono ?_; rintro e w' ⟨rfl, rfl⟩)
    | (go_at_call 47; refine (clone_some _ _ _ _ _ h.intsW (by omega)).mono ?_; rintro e w' ⟨v, rfl, hv⟩))
  go_ret
  exact ⟨_, rfl, hv⟩

/-- Are two lists of ints the same: as the walk tells it. -/
theorem sameInts_any (a a' : Option Addr) (n n' c c' : Nat) (xs ys : List Int) (w : World) (h : IntsAt w a n xs) (h' : IntsAt w a' n' ys) (hn : n ≤ maxLen) (hn' : n' ≤ maxLen) :
    Calls Try.prog 19 #[.slice a n c, .slice a' n' c'] w fun e w' => e = .returned (.bool (decide (xs = ys))) ∧ ∃ m, w' = w.drewN m := by
  unfold maxLen at hn hn'
  obtain ⟨rfl, ha1, ha2⟩ := h
  obtain ⟨rfl, hb1, hb2⟩ := h'
  by_cases hl : xs.length = ys.length
  · have hlb : ((xs.length : Int) == ys.length) = true := by simp [hl]
    have hln : ((xs.length : Int) != ys.length) = false := by simp [hl]
    have HL := Lib.hid hl
    clear hl
    go_enter Try.func19, Try.ntmps19
    go_wp2
    go_loopw [5] (fun v wr => ∃ (k m : Nat), k ≤ xs.length ∧ v = .int .i64 k ∧ (∀ i, i < k → xs.getD i 0 = ys.getD i 0) ∧ wr = w.drewN m) (fun v _ => xs.length - (intOf v).toNat)
    case atStart => exact ⟨0, 0, Nat.zero_le _, rfl, by intro i hi; omega, rfl⟩
    case round =>
      obtain ⟨k, m, hk, rfl, hsame, rfl⟩ := hrel
      have HS := Lib.hid hsame
      clear hsame
      by_cases hlt : k < xs.length
      · have hlt2 : k < ys.length := by rw [← HL.out]; exact hlt
        rcases a with _ | ⟨b, o, sp⟩
        · have := ha1 rfl; rw [this] at hlt; simp at hlt
        rcases a' with _ | ⟨b', o', sp'⟩
        · have := hb1 rfl; rw [this] at hlt2; simp at hlt2
        obtain ⟨rfl, hx⟩ := ha2 b o sp rfl (List.ne_nil_of_length_pos (by omega))
        obtain ⟨rfl, hy⟩ := hb2 b' o' sp' rfl (List.ne_nil_of_length_pos (by omega))
        have gx := hx k hlt
        have gy := hy k hlt2
        obtain ⟨x, ex⟩ : ∃ x, x = xs.getD k 0 := ⟨_, rfl⟩
        obtain ⟨y, ey⟩ : ∃ y, y = ys.getD k 0 := ⟨_, rfl⟩
        rw [← ex] at gx
        rw [← ey] at gy
        have EX := Lib.hid ex
        have EY := Lib.hid ey
        clear ex ey hx hy ha1 ha2 hb1 hb2
        by_cases he : x = y
        · have hneb : (x != y) = false := by simp [he]
          have HE := Lib.hid he
          clear he
          go_upto_region 6 with (fail)
          go_quiet (fail)
          go_wp2
          go_roundw
          case rel =>
            refine ⟨k + 1, _, by omega, by go_num, ?_, rfl⟩
            intro i hi
            by_cases h : i < k
            · exact HS.out i h
            · obtain rfl : i = k := by omega
              rw [← EX.out, ← EY.out]; exact HE.out
          case measure => simp [intOf]; omega
        · have hneb : (x != y) = true := by simp [he]
          have hfin : decide (xs = ys) = false := by
            rw [decide_eq_false_iff_not]
            rintro rfl
            exact he (by rw [EX.out, EY.out])
          have HF := Lib.hid hfin
          clear he hfin
          go_upto_region 6 with (fail)
          go_quiet (fail)
          go_wp2
          go_ret
          exact ⟨by rw [HF.out]; rfl, _, World.drewN_drewN _ _ _⟩
      · have hfin : decide (xs = ys) = true := by
          rw [decide_eq_true_iff]
          refine List.ext_getElem HL.out (fun i h1 h2 => ?_)
          have := HS.out i (by omega)
          simpa [List.getD, h1, h2] using this
        have HF := Lib.hid hfin
        clear hfin ha1 ha2 hb1 hb2
        go_wp2
        go_ret
        exact ⟨by rw [HF.out]; rfl, _, rfl⟩
  · have hln : ((xs.length : Int) != ys.length) = true := by simp; omega
    have hfin : decide (xs = ys) = false := by
      rw [decide_eq_false_iff_not]
      rintro rfl
      exact hl rfl
    have HF := Lib.hid hfin
    clear hfin hl ha1 ha2 hb1 hb2
    go_enter Try.func19, Try.ntmps19
    go_wp2
    go_ret
    exact ⟨by rw [HF.out]; rfl, 0, rfl⟩

end Go.Proofs.Ytjebflafbkmokaa
