/- FlashBits walked: but by an erase no bit of a word is ever set. -/
import Derived.Test.YtjebflafbkmokaaU
namespace Go.Proofs.Ytjebflafbkmokaa
open Go.RowKit
set_option linter.unusedVariables false

structure BitsR (w w3 wr : World) (b bw be : Nat) (dv0 dv' : Value) (s s' : FS) (g1 c1 M : Nat) : Prop where
  pl : Pl w w3 wr b bw be dv0 dv' tw0 s' M
  calm : Calm s'
  lost : Lost s'.w s.w
  arr : Arr wr g1 c1 s.w
  ne : g1 ∉ foot b bw be dv'

theorem BitsR.step {w w3 wr wx : World} {b bw be : Nat} {dv0 dv' dv2 : Value} {s s' : FS} {g1 c1 M : Nat} (h : BitsR w w3 wr b bw be dv0 dv' s s' g1 c1 M) {at_ x : Int} (hf : Fl wx b bw be dv2 (s'.prog at_ [x]).2)
    (hk : Keeps (foot b bw be dv') wr wx) (hn : ∀ j, dv2.ownBlock = some j → dv'.ownBlock = some j ∨ wr.heap.size ≤ j) : BitsR w w3 wx b bw be dv0 dv2 s (s'.prog at_ [x]).2 g1 c1 (M + 1) := by
  refine ⟨h.pl.step hf hk hn (h.pl.good.prog at_ [x]) ((FS.prog_n _ _ _).trans h.pl.n16), h.calm.prog _ _, h.lost.prog h.calm _ _, h.arr.keep hk h.ne, ?_⟩
  intro hx
  have hl := h.arr.lt
  have hne := h.ne
  rw [mem_foot] at hx hne
  rcases hx with hx | hx | hx | hx
  · exact hne (.inl hx)
  · exact hne (.inr (.inl hx))
  · exact hne (.inr (.inr (.inl hx)))
  · rcases hn _ hx with h1 | h1
    · exact hne (.inr (.inr (.inr h1)))
    · omega

theorem bits_prog {w w3 wr : World} {b bw be : Nat} {dv0 dv' : Value} {s s' : FS} {g1 c1 M : Nat} (h : BitsR w w3 wr b bw be dv0 dv' s s' g1 c1 M) (hM : M ≤ 100000) (q x : Int) :
    Calls Try.prog 17 #[.pointer (some ⟨b, 0, none⟩), .int .i64 q, .slice (some ⟨wr.heap.size, 0, none⟩) 1 1] (wr.alloc (.cells #[.int .i64 x] 3)).drew fun e w' =>
      e = .returned (.int .i64 (s'.prog q [x]).1) ∧ ∃ dv2, BitsR w w3 w' b bw be dv0 dv2 s (s'.prog q [x]).2 g1 c1 (M + 1) := by
  have hk : Keeps [] wr (wr.alloc (.cells #[.int .i64 x] 3)).drew := ((Keeps.refl _ _).alloc _).drew
  refine (program_yes ((h.pl.fl.alloc _).drew) h.pl.good q _ 1 1 [x] ((ints_one wr x).keep (F := []) (Keeps.refl _ _).drew (by simp)) (by omega) (one_sep h.pl.fl) (by simp; omega)).mono ?_
  rintro e w' ⟨he, dv2, f2, q2, n2⟩
  refine ⟨he, dv2, h.step f2 ((hk.mono (by simp)).trans q2 (fun x hx => .inl hx)) (fun j e => (n2 j e).imp id (fun hh => ?_))⟩
  simp at hh; omega

theorem among64 (x : Int) (w : World) : Calls Try.prog 15 #[.int .i64 x, .int .i64 64] w fun e w' => e = .returned (.int .i64 (amongI x 64)) ∧ w = w' := among_any x 64 w (by omega) (by omega)
theorem among65536 (x : Int) (w : World) : Calls Try.prog 15 #[.int .i64 x, .int .i64 65536] w fun e w' => e = .returned (.int .i64 (amongI x 65536)) ∧ w = w' := among_any x 65536 w (by omega) (by omega)

set_option maxRecDepth 100000 in
set_option maxHeartbeats 2000000 in
theorem bits_any (a : Option Addr) (n c : Nat) (acts : List ActR) (a1 : Option Addr) (n1 c1 : Nat) (xs : List Int) (at_ : Int) (w : World) (hA : ActsAt w a n acts) (hi : IntsAt w a1 n1 xs) (hn : n1 ≤ maxLen) :
    Calls Try.prog 4 #[.slice a n c, .slice a1 n1 c1, .int .i64 at_] w fun e w' => e = .returned (.bool true) ∧ Keeps [] w w' := by
  unfold maxLen at hn
  have HI := Lib.hid hi
  have HNX := Lib.hid (show xs.length = n1 from hi.1.symm)
  clear hi
  go_enter Try.func4, Try.ntmps4
  go_wp2_with fail
  refine (works_any _).mono ?_
  rintro e w1 ⟨rfl, k1⟩
  go_wp2_with fail
  refine (two_any _).mono ?_
  rintro e w2 ⟨rfl, k2⟩
  go_wp2_with fail
  refine (make_yes 2 2 16 _ (by decide +kernel)).mono ?_
  rintro e w3 ⟨b, rfl, hmd⟩
  have k03 : Keeps [] w w2 := k1.trans0 k2
  obtain ⟨bw, be, dv0, hf0, hup, k3⟩ := Own.of_made k03 hmd
  have hf1 : Fl w3 b bw be dv0 tw0 := hf0
  clear hmd hf0
  go_wp2_with fail
  refine (play_any hf1 tw0_good (by decide +kernel) (by omega) k3 hup a n c acts hA).mono ?_
  rintro e w4 ⟨rfl, dv, hP⟩
  have hcalm : Calm (tw0.plays (acts.take 40)) := tw0_calm.plays
  have hw16 : W16 (tw0.plays (acts.take 40)).w := W16.plays tw0_w16
  obtain ⟨s, hs⟩ : ∃ s, s = tw0.plays (acts.take 40) := ⟨_, rfl⟩
  rw [← hs] at hP hcalm hw16
  clear hs
  go_wp2_with fail
  refine (image_yes hP.fl (by rw [hcalm.wl]; omega)).mono ?_
  rintro e w5 ⟨v, rfl, g1, c2, rfl, hg1, hA1, k5⟩
  rw [hcalm.wl]
  have hR0 : BitsR w w3 w5 b bw be dv0 dv s s g1 c2 640 := ⟨hP.keep0 k5, hcalm, Lost.refl hw16, hA1, fun h => by have := hP.fl.lt _ h; omega⟩
  clear hA1
  go_wp2_with fail
  go_loopw [10] (fun v wr => ∃ (k : Nat) (dv' : Value) (s' : FS), k ≤ n1 ∧ k ≤ 20 ∧ v = .int .i64 k ∧ BitsR w w3 wr b bw be dv0 dv' s s' g1 c2 (640 + k)) (fun v _ => 20 - (intOf v).toNat)
  case atStart => exact ⟨0, dv, s, Nat.zero_le _, by omega, rfl, hR0⟩
  case round =>
    obtain ⟨k, dv', s', hk, hk20, rfl, hR⟩ := hrel
    by_cases hboth : k < n1 ∧ k < 20
    · obtain ⟨hlt, hlt2⟩ := hboth
      have hkx : k < xs.length := by rw [HNX.out]; exact hlt
      have hli := HI.out.keep0 hR.pl.k0
      rcases a1 with _ | ⟨lb, lo, ls⟩
      · have := hli.2.1 rfl; rw [this] at hkx; simp at hkx
      obtain ⟨rfl, hlc⟩ := hli.2.2 lb lo ls rfl (List.ne_nil_of_length_pos (by omega))
      have hx := hlc k hkx
      obtain ⟨x, ex⟩ : ∃ x, x = xs.getD k 0 := ⟨_, rfl⟩
      rw [← ex] at hx
      have hlb := World.block_lt_of_cell? _ _ hx
      simp only at hlb
      clear ex hlc hli
      go_upto_region 11 with (fail)
      go_region_with (first
        | (go_at_call 15; (with_reducible refine (among64 _ _).mono ?_); rintro e w' ⟨rfl, rfl⟩)
        | (go_at_call 15; (with_reducible refine (among65536 _ _).mono ?_); rintro e w' ⟨rfl, rfl⟩)
        | (go_at_call 17; (with_reducible refine (bits_prog hR (by omega) _ _).mono ?_); rintro e w' ⟨rfl, dv2, hR2⟩))
      all_goals go_wp2_with fail
      all_goals
        go_roundw
        case rel => exact ⟨k + 1, dv2, _, by omega, by omega, by go_num, hR2⟩
        case measure => simp [intOf]; omega
    · have hwl := hR.calm.wl
      have HWL := Lib.hid hwl
      clear hwl
      by_cases hlt : k < n1
      all_goals
        try have hlt2 : ¬ k < 20 := fun h => hboth ⟨hlt, h⟩
        clear hboth
        go_wp2_with fail
        refine (image_yes hR.pl.fl (by rw [HWL.out]; omega)).mono ?_
        rintro e w6 ⟨v, rfl, g2, c3, rfl, hg2, hA2, k6⟩
        rw [HWL.out]
        have hA1 := hR.arr.keep k6 (by simp)
        have kend := hR.pl.k0.trans0 k6
        go_wp2_with fail
        go_loopw [12] (fun v wx => ∃ (j m : Nat), j ≤ 64 ∧ v = .int .i64 j ∧ wx = w6.drewN m) (fun v _ => 64 - (intOf v).toNat)
        case atStart => exact ⟨0, 0, by omega, rfl, rfl⟩
        case round =>
          obtain ⟨j, mm, hj, rfl, rfl⟩ := hrel
          by_cases hjl : j < 64
          · have q1 := hA1.cell (i := j) (by rw [hcalm.wl]; exact hjl)
            have q2 := hA2.cell (i := j) (by rw [HWL.out]; exact hjl)
            obtain ⟨A, B, eA, eB, lA, lB, hAB⟩ := hR.lost j
            rw [eB] at q1
            rw [eA] at q2
            have hb : bits .and .u64 (B : Int) (A : Int) = (A : Int) := by rw [bits_u64_and B A lB lA, hAB]
            obtain ⟨X, hX⟩ : ∃ X : Int, X = (A : Int) := ⟨_, rfl⟩
            obtain ⟨Y, hY⟩ : ∃ Y : Int, Y = (B : Int) := ⟨_, rfl⟩
            have hwX : IntKind.u64.wrap X = X := IntWalk.u64_in _ (by omega)
            have hwY : IntKind.u64.wrap Y = Y := IntWalk.u64_in _ (by omega)
            rw [← hX, ← hY] at hb
            rw [← hX] at q2
            rw [← hY] at q1
            clear eA eB hAB lA lB hX hY
            go_upto_region 16 with (fail)
            go_quiet (fail)
            go_wp2_with fail
            exact ⟨⟨j + 1, _, by omega, by go_num, rfl⟩, by simp [intOf]; omega⟩
          · go_wp2_with fail
            go_ret
            exact ⟨rfl, kend.drewN _⟩

end Go.Proofs.Ytjebflafbkmokaa
