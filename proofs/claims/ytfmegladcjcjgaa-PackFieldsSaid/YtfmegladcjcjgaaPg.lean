/- pack: size, room, fit, and a field's bit: contracts. -/
import Derived.Test.YtfmegladcjcjgaaPc
import Derived.StillTailTactics
namespace Go.Proofs.Ytfmegladcjcjgaa
open Go.RowKit
set_option linter.unusedVariables false

def okW (ws : List Int) : Prop := ∀ w ∈ ws, 1 ≤ w ∧ w ≤ 16
instance (ws : List Int) : Decidable (okW ws) := by unfold okW; infer_instance
/-- How many words fields take. -/
def sizeR (ws : List Int) : Nat := if okW ws then (totL ws + 15) / 16 else 0
/-- May these widths be? -/
def mayC (ws : List Int) : Int := if 256 < ws.length then 3 else if okW ws then 0 else 2
theorem totL_cons (w : Int) (ws : List Int) : totL (w :: ws) = w.toNat + totL ws := by simp [totL]
theorem totL_le (ws : List Int) (h : okW ws) : totL ws ≤ 16 * ws.length := by
  induction ws with
  | nil => simp [totL]
  | cons w ws ih =>
    have h1 := ih (fun x hx => h x (by simp [hx]))
    have h2 := h w (by simp)
    rw [totL_cons, List.length_cons]
    omega
theorem totL_snoc (ws : List Int) (w : Int) : totL (ws ++ [w]) = totL ws + w.toNat := by simp [totL]
theorem take_snoc {ws : List Int} {i : Nat} (h : i < ws.length) : ws.take (i + 1) = ws.take i ++ [ws.getD i 0] := by
  rw [List.take_succ_eq_append_getElem h]
  simp [List.getD, h]
theorem getD_mem {ws : List Int} {i : Nat} (h : i < ws.length) : ws.getD i 0 ∈ ws := by simp [List.getD, h]
theorem okW_take {ws : List Int} (h : okW ws) (i : Nat) : okW (ws.take i) := fun x hx => h x (List.mem_of_mem_take hx)

set_option maxHeartbeats 1000000 in
theorem size_any (a : Option Addr) (n c : Nat) (ws : List Int) (w : World) (hi : IntsAt w a n ws) (hn : n ≤ 1000000) :
    Calls Try.prog 42 #[.slice a n c] w fun e w' => (∃ z, e = .returned (.tuple #[.int .i64 (sizeR ws), .int .i64 z]) ∧ (ws.length ≤ 256 → z = mayC ws)) ∧ w = w' := by
  have HI := Lib.hid hi
  have HLEN := Lib.hid (show n = ws.length from hi.1)
  clear hi
  go_enter Try.func42, Try.ntmps42
  go_wp2_with fail
  go_loop [4, 9] (fun vt vi => ∃ i : Nat, i ≤ n ∧ vi = .int .i64 i ∧ okW (ws.take i) ∧ vt = .int .i64 (totL (ws.take i))) (fun _ vi => n - (intOf vi).toNat)
  case atStart => exact ⟨0, Nat.zero_le _, rfl, by intro x hx; simp at hx, rfl⟩
  case round =>
    obtain ⟨i, hi, rfl, hok, rfl⟩ := hrel
    have htl := totL_le _ hok
    rw [List.length_take] at htl
    have HOK := Lib.hid hok
    obtain ⟨t, ht⟩ : ∃ t, t = totL (ws.take i) := ⟨_, rfl⟩
    rw [← ht] at htl ⊢
    have htl2 : t ≤ 16000000 := by omega
    have HT := Lib.hid ht
    clear hok ht htl
    by_cases hlt : i < n
    · have hix : i < ws.length := by rw [← HLEN.out]; exact hlt
      rcases a with _ | ⟨lb, lo', ls⟩
      · have := HI.out.2.1 rfl; rw [this] at hix; simp at hix
      obtain ⟨rfl, hlc⟩ := HI.out.2.2 lb lo' ls rfl (List.ne_nil_of_length_pos (by omega))
      have hx := hlc i hix
      obtain ⟨x, ex⟩ : ∃ x, x = ws.getD i 0 := ⟨_, rfl⟩
      rw [← ex] at hx
      have EX := Lib.hid ex
      have HIX := Lib.hid hix
      clear hlc ex hix
      obtain ⟨b, hb⟩ : ∃ b, b = decide (1 ≤ x ∧ x ≤ 16) := ⟨_, rfl⟩
      have HB := Lib.hid hb
      clear hb
      go_wp2_with fail
      refine (within_any _ _ _ _).mono ?_
      rintro e w' ⟨he, rfl⟩
      rw [← HB.out] at he
      subst he
      cases b
      · have hbad : ¬ okW ws := by
          intro hh
          have := HB.out
          rw [eq_comm, decide_eq_false_iff_not] at this
          exact this (by rw [EX.out]; exact hh _ (getD_mem HIX.out))
        have hs : sizeR ws = 0 := by unfold sizeR; rw [if_neg hbad]
        have hm : ws.length ≤ 256 → 2 = mayC ws := by intro h; unfold mayC; rw [if_neg (by omega), if_neg hbad]
        have HS := Lib.hid hs
        have HM := Lib.hid hm
        clear hbad hs hm
        go_wp2_with fail
        go_ret2
        exact ⟨⟨2, by rw [HS.out]; rfl, HM.out⟩, rfl⟩
      · have hxb := HB.out
        rw [eq_comm, decide_eq_true_iff] at hxb
        have hst : totL (ws.take (i + 1)) = t + x.toNat := by rw [take_snoc HIX.out, totL_snoc, ← EX.out, ← HT.out]
        have hok2 : okW (ws.take (i + 1)) := by
          rw [take_snoc HIX.out, ← EX.out]
          intro y hy
          rw [List.mem_append, List.mem_singleton] at hy
          rcases hy with hy | hy
          · exact HOK.out y hy
          · rw [hy]; exact hxb
        have HST := Lib.hid hst
        have HOK2 := Lib.hid hok2
        have hx1 := hxb.1
        have hx2 := hxb.2
        have HX1 := Lib.hid hxb.1
        clear hst hok2 hxb
        go_wp2_with fail
        go_round
        case rel =>
          refine ⟨i + 1, by omega, by go_num, HOK2.out, ?_⟩
          have e : (t : Int) + x = ((totL (ws.take (i + 1)) : Nat) : Int) := by rw [HST.out]; have := HX1.out; omega
          rw [e]
        case measure => simp [intOf]; omega
    · have hfin : ws.take i = ws := List.take_of_length_le (by have := HLEN.out; omega)
      have hok := HOK.out
      rw [hfin] at hok
      have hs : ((sizeR ws : Nat) : Int) = ((t : Int) + 16 - 1) / 16 := by unfold sizeR; rw [if_pos hok, ← hfin, ← HT.out]; omega
      have hm : ws.length ≤ 256 → 0 = mayC ws := by intro h; unfold mayC; rw [if_neg (by omega), if_pos hok]
      have HS := Lib.hid hs
      have HM := Lib.hid hm
      clear hok hs hm hfin
      go_wp2_with fail
      go_ret2
      exact ⟨⟨0, by rw [HS.out]; rfl, HM.out⟩, rfl⟩
theorem Size_any (a : Option Addr) (n c : Nat) (ws : List Int) (w : World) (hi : IntsAt w a n ws) (hn : n ≤ 1000000) :
    Calls Try.prog 22 #[.slice a n c] w fun e w' => e = .returned (.int .i64 (sizeR ws)) ∧ w = w' := by
  have HI := Lib.hid hi
  clear hi
  go_enter Try.func22, Try.ntmps22
  go_wp2_with fail
  refine (size_any a n c ws _ HI.out hn).mono ?_
  rintro e w' ⟨⟨z, rfl, -⟩, rfl⟩
  go_wp2_with fail
  go_ret
  exact ⟨rfl, rfl⟩
/-- What room answers of how many words there are. -/
def roomN (ws : List Int) : Nat := if 256 < ws.length then 0 else sizeR ws
theorem room_any (a : Option Addr) (n c : Nat) (ws : List Int) (w : World) (hi : IntsAt w a n ws) (hn : n ≤ 1000000) :
    Calls Try.prog 33 #[.slice a n c] w fun e w' => e = .returned (.tuple #[.int .i64 (roomN ws), .int .i64 (mayC ws)]) ∧ w = w' := by
  have HI := Lib.hid hi
  have HLEN := Lib.hid (show n = ws.length from hi.1)
  clear hi
  by_cases h : 256 < n
  · have e1 : roomN ws = 0 := by unfold roomN; rw [if_pos (by rw [← HLEN.out]; exact h)]
    have e2 : mayC ws = 3 := by unfold mayC; rw [if_pos (by rw [← HLEN.out]; exact h)]
    rw [e1, e2]
    clear e1 e2
    go_enter Try.func33, Try.ntmps33
    go_wp2_with fail
    go_ret2
    exact ⟨rfl, rfl⟩
  · have e1 : roomN ws = sizeR ws := by unfold roomN; rw [if_neg (by rw [← HLEN.out]; exact h)]
    rw [e1]
    have h2 : decide (256 < (n : Int)) = false := by simp; omega
    have HN := Lib.hid h
    clear e1 h
    obtain ⟨m, hm⟩ : ∃ m, m = mayC ws := ⟨_, rfl⟩
    rw [← hm]
    have HM := Lib.hid hm
    clear hm
    go_enter Try.func33, Try.ntmps33
    go_wp2_with fail
    refine (size_any a n c ws _ HI.out hn).mono ?_
    rintro e w' ⟨⟨z, rfl, hz⟩, rfl⟩
    have hz2 := hz (by rw [← HLEN.out]; have := HN.out; omega)
    rw [← HM.out] at hz2
    subst hz2
    clear hz
    go_wp2_with fail
    go_ret2
    exact ⟨rfl, rfl⟩

/-- Is there a value for each width, that goes into it? -/
def fitW (ws vs : List Int) : Prop := ws.length = vs.length ∧ ∀ i, i < vs.length → 0 ≤ vs.getD i 0 ∧ vs.getD i 0 < P2 (ws.getD i 0).toNat
theorem P2_le {j : Nat} (h : j ≤ 16) : P2 j ≤ 65536 := by
  have : ∀ j : Nat, j ≤ 16 → P2 j ≤ 65536 := by decide
  exact this j h

theorem fitW_step {ws vs : List Int} {i j : Nat} {x : Int} (hi : i < vs.length) (hx : x = vs.getD i 0) (hw : ws.getD i 0 = (j : Int)) (h : fitW ws vs) : 0 ≤ x ∧ x ≤ P2 j - 1 := by
  have := h.2 i hi
  rw [hw, Int.toNat_natCast, ← hx] at this
  omega
set_option maxHeartbeats 1000000 in
theorem fit_any (a a' : Option Addr) (n c n' c' : Nat) (ws vs : List Int) (w : World) (hi : IntsAt w a n ws) (hi' : IntsAt w a' n' vs) (hn : n ≤ 1000000) (hn' : n' ≤ 1000000) (hok : okW ws) (b : Bool) (hb : b = true ↔ fitW ws vs) :
    Calls Try.prog 34 #[.slice a n c, .slice a' n' c'] w fun e w' => e = .returned (.bool b) ∧ w = w' := by
  have HI := Lib.hid hi
  have HI' := Lib.hid hi'
  have HLEN := Lib.hid (show n = ws.length from hi.1)
  have HLEN' := Lib.hid (show n' = vs.length from hi'.1)
  have HOK := Lib.hid hok
  have HB := Lib.hid hb
  clear hi hi' hok hb
  by_cases hl : n = n'
  · subst hl
    go_enter Try.func34, Try.ntmps34
    go_wp2_with fail
    go_loop [14] (fun vi => ∃ i : Nat, i ≤ n ∧ vi = .int .i64 i ∧ ∀ k, k < i → 0 ≤ vs.getD k 0 ∧ vs.getD k 0 < P2 (ws.getD k 0).toNat) (fun vi => n - (intOf vi).toNat)
    case atStart => exact ⟨0, Nat.zero_le _, rfl, by intro k hk; omega⟩
    case round =>
      obtain ⟨i, hi, rfl, hall⟩ := hrel
      have HALL := Lib.hid hall
      clear hall
      by_cases hlt : i < n
      · have hix : i < ws.length := by rw [← HLEN.out]; exact hlt
        have hix' : i < vs.length := by rw [← HLEN'.out]; exact hlt
        rcases a with _ | ⟨lb, lo', ls⟩
        · have := HI.out.2.1 rfl; rw [this] at hix; simp at hix
        obtain ⟨rfl, hlc⟩ := HI.out.2.2 lb lo' ls rfl (List.ne_nil_of_length_pos (by omega))
        rcases a' with _ | ⟨mb, mo, ms⟩
        · have := HI'.out.2.1 rfl; rw [this] at hix'; simp at hix'
        obtain ⟨rfl, hlc'⟩ := HI'.out.2.2 mb mo ms rfl (List.ne_nil_of_length_pos (by omega))
        have hy := hlc i hix
        have hx := hlc' i hix'
        obtain ⟨x, ex⟩ : ∃ x, x = vs.getD i 0 := ⟨_, rfl⟩
        have hjm := HOK.out _ (getD_mem hix)
        obtain ⟨j, ej⟩ := Int.eq_ofNat_of_zero_le (show 0 ≤ ws.getD i 0 by omega)
        rw [← ex] at hx
        rw [ej] at hy hjm
        have hj16 : j ≤ 16 := by omega
        have hp := P2_le (j := j) (by omega)
        have hp0 := P2_pos j
        have e2 : P2 j = 2 ^ j := P2_eq j
        have hw1 : wrap64 ((2 : Int) ^ j) = P2 j := by rw [← e2]; exact IntWalk.wrap64_in _ (by omega)
        obtain ⟨Q, hQ⟩ : ∃ Q, Q = P2 j := ⟨_, rfl⟩
        rw [← hQ] at hw1 hp hp0
        obtain ⟨t, ht⟩ : ∃ t, t = decide (0 ≤ x ∧ x ≤ Q - 1) := ⟨_, rfl⟩
        have HT := Lib.hid ht
        have HQ := Lib.hid hQ
        have EX := Lib.hid ex
        have EJ := Lib.hid ej
        have HIX := Lib.hid hix'
        clear hlc hlc' ex ej hjm e2 hix hix' hQ ht
        go_wp2_with fail
        refine (within_any _ _ _ _).mono ?_
        rintro e w' ⟨he, rfl⟩
        rw [← HT.out] at he
        subst he
        cases t
        · have hbf : b = false := by
            cases b
            · rfl
            · have h1 := fitW_step HIX.out EX.out EJ.out (HB.out.1 rfl)
              have h2 := HT.out
              rw [eq_comm, decide_eq_false_iff_not] at h2
              rw [← HQ.out] at h1
              exact absurd h1 h2
          subst hbf
          go_wp2_with fail
          go_ret
          exact ⟨rfl, rfl⟩
        · go_wp2_with fail
          go_round
          case rel =>
            refine ⟨i + 1, by omega, by go_num, ?_⟩
            intro k hk
            by_cases hki : k < i
            · exact HALL.out k hki
            · obtain rfl : k = i := by omega
              have h2 := HT.out
              rw [eq_comm, decide_eq_true_iff] at h2
              rw [← EX.out, EJ.out, Int.toNat_natCast, ← HQ.out]
              omega
          case measure => simp [intOf]; omega
      · have hbt : b = true := by
          refine HB.out.2 ⟨by rw [← HLEN.out, ← HLEN'.out], ?_⟩
          intro k hk
          exact HALL.out k (by have := HLEN'.out; omega)
        subst hbt
        go_wp2_with fail
        go_ret
        exact ⟨rfl, rfl⟩
  · have hbf : b = false := by
      cases b
      · rfl
      · exact absurd (HB.out.1 rfl).1 (by rw [← HLEN.out, ← HLEN'.out]; exact hl)
    subst hbf
    have hl2 : ((n : Int) != n') = true := by simp; omega
    clear hl
    go_enter Try.func34, Try.ntmps34
    go_wp2_with fail
    go_ret
    exact ⟨rfl, rfl⟩
end Go.Proofs.Ytfmegladcjcjgaa
