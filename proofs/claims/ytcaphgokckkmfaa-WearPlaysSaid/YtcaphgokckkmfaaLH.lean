
/- The calls of a flash that Make made and that only read, or turn one field: their contracts. -/
import Derived.Test.YtcaphgokckkmfaaLD
namespace Go.Proofs.Ytcaphgokckkmfaa
open Go.RowKit
set_option maxRecDepth 100000
set_option linter.unusedVariables false
variable {w : World} {b bw be : Nat} {dv : Value} {s : FS}

theorem made_fl (h : Fl w b bw be dv s) : Calls Try.prog 40 #[.pointer (some ⟨b, 0, none⟩)] w fun e w' => e = .returned (.bool true) ∧ w = w' := made_yes b 0 ⟨bw, 0, none⟩ _ _ w h.c0

/-- A slice of so many raw writes shows what it is. -/
theorem Fl.dvs (h : Fl w b bw be dv s) : ∃ a c, dv = .slice a s.done.length c := by
  rcases h.hd.2 with ⟨rfl, h2⟩ | ⟨g, cap, _, rfl, _⟩
  · exact ⟨none, 0, by rw [h2]⟩
  · exact ⟨_, cap, rfl⟩
theorem writes_yes (h : Fl w b bw be dv s) : Calls Try.prog 36 #[.pointer (some ⟨b, 0, none⟩)] w fun e w' => e = .returned (.int .i64 s.done.length) ∧ w = w' := by
  obtain ⟨a, c, rfl⟩ := h.dvs
  have c6 := h.c6
  go_enter Try.func36, Try.ntmps36
  go_wp2_with (go_at_call 40; refine (made_fl h).mono ?_; rintro e w' ⟨rfl, rfl⟩)
  go_ret
  exact ⟨rfl, rfl⟩
theorem geometry_yes (h : Fl w b bw be dv s) : Calls Try.prog 49 #[.pointer (some ⟨b, 0, none⟩)] w fun e w' => e = .returned (.agg #[.int .i64 s.g, .int .i64 s.p, .int .i64 s.n]) ∧ Keeps [] w w' := by
  have h2 := h.alloc (.cells #[.int .i64 0, .int .i64 0, .int .i64 0] 28)
  have c1 := h.c1
  have c2 := h.c2
  have c3 := h.c3
  have lb := h.lb
  go_enter Try.func49, Try.ntmps49
  go_wp2_with (go_at_call 40; refine (made_fl h2).mono ?_; rintro e w' ⟨rfl, rfl⟩)
  exact bodyPost_ret (v := .agg #[.int .i64 s.g, .int .i64 s.p, .int .i64 s.n]) (by simp [results, Try.results49, go_sem]) rfl ⟨rfl, (Keeps.refl _ _).alloc _⟩
theorem erases_in (h : Fl w b bw be dv s) (n : Nat) (hl : s.er.length ≤ 1000000) (hn : n < s.er.length) : Calls Try.prog 66 #[.pointer (some ⟨b, 0, none⟩), .int .i64 n] w fun e w' => e = .returned (.int .i64 (s.er.getD n 0)) ∧ w = w' := by
  obtain ⟨x, hx⟩ : ∃ x, s.er.getD n 0 = x := ⟨_, rfl⟩
  have c7 := h.c7
  have ce := h.ce hn
  rw [hx] at ce ⊢
  have hw : fwithinB 0 ((s.er.length : Int) - 1) n = true := by simp [fwithinB]; omega
  clear hx
  go_enter Try.func66, Try.ntmps66
  go_wp2_with (first
    | (go_at_call 40; refine (made_fl h).mono ?_; rintro e w' ⟨rfl, rfl⟩)
    | (go_at_call 69; refine (fhas_any b 0 _ _ _ _ _ (by unfold maxLen; omega) c7).mono ?_; rintro e w' ⟨rfl, rfl⟩))
  go_ret
  exact ⟨rfl, rfl⟩
theorem erases_out (h : Fl w b bw be dv s) (n : Int) (hl : s.er.length ≤ 1000000) (hn : n < 0 ∨ s.er.length ≤ n) : Calls Try.prog 66 #[.pointer (some ⟨b, 0, none⟩), .int .i64 n] w fun e w' => e = .returned (.int .i64 0) ∧ w = w' := by
  have c7 := h.c7
  have hw : fwithinB 0 ((s.er.length : Int) - 1) n = false := by simp [fwithinB]; omega
  go_enter Try.func66, Try.ntmps66
  go_wp2_with (first
    | (go_at_call 40; refine (made_fl h).mono ?_; rintro e w' ⟨rfl, rfl⟩)
    | (go_at_call 69; refine (fhas_any b 0 _ _ _ _ _ (by unfold maxLen; omega) c7).mono ?_; rintro e w' ⟨rfl, rfl⟩))
  go_ret
  exact ⟨rfl, rfl⟩
theorem read_in (h : Fl w b bw be dv s) (n : Nat) (hl : s.w.length ≤ 1000000) (hn : n < s.w.length) (ho : s.off = false) : Calls Try.prog 65 #[.pointer (some ⟨b, 0, none⟩), .int .i64 n] w fun e w' => e = .returned (.tuple #[.int .i64 (s.w.getD n 0), .int .i64 0]) ∧ w = w' := by
  obtain ⟨x, hx⟩ : ∃ x, s.w.getD n 0 = x := ⟨_, rfl⟩
  have c0 := h.c0
  have c5 := h.c5
  rw [ho] at c5
  have cw := h.cw hn
  rw [hx] at cw ⊢
  have hw : fwithinB 0 ((s.w.length : Int) - 1) n = true := by simp [fwithinB]; omega
  clear hx
  go_enter Try.func65, Try.ntmps65
  go_wp2_with (first
    | (go_at_call 40; refine (made_fl h).mono ?_; rintro e w' ⟨rfl, rfl⟩)
    | (go_at_call 41; refine (fholds_any _ _ _ _ _ _ (by unfold maxLen; omega) (by omega) (by omega)).mono ?_; rintro e w' ⟨rfl, rfl⟩))
  go_ret2
  exact ⟨rfl, rfl⟩
theorem read_off (h : Fl w b bw be dv s) (n : Nat) (hl : s.w.length ≤ 1000000) (hn : n < s.w.length) (ho : s.off = true) : Calls Try.prog 65 #[.pointer (some ⟨b, 0, none⟩), .int .i64 n] w fun e w' => e = .returned (.tuple #[.int .i64 0, .int .i64 10]) ∧ w = w' := by
  have c0 := h.c0
  have c5 := h.c5
  rw [ho] at c5
  have hw : fwithinB 0 ((s.w.length : Int) - 1) n = true := by simp [fwithinB]; omega
  go_enter Try.func65, Try.ntmps65
  go_wp2_with (first
    | (go_at_call 40; refine (made_fl h).mono ?_; rintro e w' ⟨rfl, rfl⟩)
    | (go_at_call 41; refine (fholds_any _ _ _ _ _ _ (by unfold maxLen; omega) (by omega) (by omega)).mono ?_; rintro e w' ⟨rfl, rfl⟩))
  go_ret2
  exact ⟨rfl, rfl⟩
theorem read_out (h : Fl w b bw be dv s) (n : Int) (hl : s.w.length ≤ 1000000) (hn : n < 0 ∨ s.w.length ≤ n) : Calls Try.prog 65 #[.pointer (some ⟨b, 0, none⟩), .int .i64 n] w fun e w' => e = .returned (.tuple #[.int .i64 0, .int .i64 2]) ∧ w = w' := by
  have c0 := h.c0
  have hw : fwithinB 0 ((s.w.length : Int) - 1) n = false := by simp [fwithinB]; omega
  go_enter Try.func65, Try.ntmps65
  go_wp2_with (first
    | (go_at_call 40; refine (made_fl h).mono ?_; rintro e w' ⟨rfl, rfl⟩)
    | (go_at_call 41; refine (fholds_any _ _ _ _ _ _ (by unfold maxLen; omega) (by omega) (by omega)).mono ?_; rintro e w' ⟨rfl, rfl⟩))
  go_ret2
  exact ⟨rfl, rfl⟩
theorem cut_yes (h : Fl w b bw be dv s) (n : Int) : Calls Try.prog 19 #[.pointer (some ⟨b, 0, none⟩), .int .i64 n] w fun e w' => e = .returned (.int .i64 0) ∧ Fl w' b bw be dv { s with cut := n } ∧ Keeps (foot b bw be dv) w w' := by
  have c4 := h.c4
  have f4 := h.fz 4
  go_enter Try.func19, Try.ntmps19
  go_wp2_with (go_at_call 40; refine (made_fl h).mono ?_; rintro e w' ⟨rfl, rfl⟩)
  go_ret
  exact ⟨rfl, h.setCut n, (Keeps.refl _ _).setCell (.inl (by simp [foot])) _⟩
theorem power_yes (h : Fl w b bw be dv s) : Calls Try.prog 20 #[.pointer (some ⟨b, 0, none⟩)] w fun e w' => e = .returned (.int .i64 0) ∧ Fl w' b bw be dv { s with cut := -1, off := false } ∧ Keeps (foot b bw be dv) w w' := by
  have c4 := h.c4
  have f4 := h.fz 4
  have c5 := h.c5
  have f5 := h.fz 5
  go_enter Try.func20, Try.ntmps20
  go_wp2_with (go_at_call 40; refine (made_fl h).mono ?_; rintro e w' ⟨rfl, rfl⟩)
  go_ret
  exact ⟨rfl, (h.setCut (-1)).setOff false, ((Keeps.refl _ _).setCell (.inl (by simp [foot])) _).setCell (.inl (by simp [foot])) _⟩

end Go.Proofs.Ytcaphgokckkmfaa
