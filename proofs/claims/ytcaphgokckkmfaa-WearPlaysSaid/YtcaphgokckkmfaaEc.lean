
/- Wear, the program: pages, counts, words, blank: their contracts. -/
import Derived.Test.YtcaphgokckkmfaaEb
namespace Go.Proofs.Ytcaphgokckkmfaa
open Go.RowKit
set_option maxRecDepth 100000
set_option linter.unusedVariables false
set_option linter.unusedSimpArgs false
variable {w w' : World} {b bw be : Nat} {dv : Value} {s : FS}

theorem ints_of_own {w : World} {base n : Nat} {v : Value} {xs : List Int} (h : w.ownsRow base 3 1 v n (xs.map (.int .i64))) :
    ∃ a c, v = .slice a n c ∧ IntsAt w a n xs ∧ n ≤ c ∧ c ≤ maxLen ∧ ∀ b o s, a = some ⟨b, o, s⟩ → base ≤ b ∧ b < w.heap.size := by
  have hn : n = xs.length := by have := h.1; simp at this; omega
  by_cases hv : v = .slice none 0 0
  · subst hv
    have h0 : n = 0 := by
      rcases h.2 with ⟨_, h⟩ | ⟨g, cap, _, h, _⟩
      · exact h
      · cases h
    subst h0
    obtain rfl : xs = [] := List.eq_nil_of_length_eq_zero hn.symm
    exact ⟨none, 0, rfl, IntsAt.nil _, Nat.le_refl _, by unfold maxLen; omega, by simp⟩
  · obtain ⟨g, c, e, hb, hA⟩ := Arr.of_own h hv
    subst hn
    refine ⟨some ⟨g, 0, none⟩, c, e, hA.ints, hA.le, hA.cm, ?_⟩
    rintro b o s e
    injection e with e
    injection e with e1 e2 e3
    subst e1
    exact ⟨hb, hA.lt⟩
theorem own_slice {w : World} {base n size : Nat} {e : TypeId} {v : Value} {xs : List Value} (h : w.ownsRow base e size v n xs) : ∃ a c, v = .slice a n c := by
  rcases h.2 with ⟨rfl, h0⟩ | ⟨g, cap, _, h, _⟩
  · exact ⟨none, 0, by rw [h0]⟩
  · exact ⟨_, cap, h⟩
/-- What a number appended to a list of one's own leaves. -/
theorem grown_facts {w wr u : World} {o : Obj} {base n : Nat} {e : TypeId} {size : Nat} {v : Value} {xs : List Value} (h : (wr.alloc o).ownsRow base e size v n xs) (hg : (wr.alloc o).grownBy u v.ownBlock) (hk : Keeps [] w wr) (hb : w.heap.size ≤ base) :
    Keeps [] w u ∧ ∀ k ob, k < base → wr.heap[k]? = some ob → u.heap[k]? = some ob := by
  refine ⟨(hk.alloc o).grown hg (fun j e => .inr (by have := (h.lt j e).1; omega)), fun k ob hl hh => ?_⟩
  have kk : Keeps v.ownBlock.toList wr u := ((Keeps.refl _ wr).alloc o).grown hg (by intro k e; rw [e]; simp)
  exact kk.held hh (by intro e; have := (h.lt _ (by simpa using e)).1; omega)

/-- A list that a call made: it reads so, and lies behind what was there. -/
def LOut (w w' : World) (v : Value) (n : Nat) (l : List Int) : Prop := ∃ a c, v = .slice a n c ∧ IntsAt w' a n l ∧ n ≤ c ∧ c ≤ maxLen ∧ (∀ b o s, a = some ⟨b, o, s⟩ → w.heap.size ≤ b ∧ b < w'.heap.size) ∧ Keeps [] w w'

abbrev boxR (p : Option Addr) (f m : Int) : Obj := .cells #[.pointer p, .int .i64 f, .int .i64 m] 84 (0, 0)

theorem pages_any (p : Option Addr) (f m : Nat) (w : World) (hf : f ≤ 1000000) (hm : m ≤ 1000) :
    Calls Try.prog 53 #[rnd p (f : Int) (m : Int)] w fun e w' => ∃ v, e = .returned v ∧ LOut w w' v m (pagesI (f : Int) m) := by
  obtain ⟨i0, hi0, hz0, hz1, hz2⟩ := info_parts Try.info3
  go_enter Try.func53, Try.ntmps53
  go_wp2_with fail
  go_loopw [3, 7] (fun vl vi wr => ∃ (i : Nat) (va : Option Addr) (vc : Nat), i ≤ m ∧ vi = .int .i64 (i : Int) ∧ vl = .slice va i vc ∧ wr.ownsRow (w.heap.size + 1) 3 1 (.slice va i vc) i ((pagesI (f : Int) i).map (.int .i64)) ∧ Keeps [] w wr ∧ wr.heap[w.heap.size]? = some (boxR p f m)) (fun _ vi _ => m - (intOf vi).toNat)
  case atStart => exact ⟨0, none, 0, Nat.zero_le _, rfl, rfl, World.ownsRow_nil _ _ _ _, (Keeps.refl _ _).alloc _, heap_alloc_new w _⟩
  case round =>
    obtain ⟨i, va, vc, hi, rfl, rfl, hown, hk, hb⟩ := hrel
    have c1 : wr.cell? ⟨w.heap.size, 1, none⟩ = some (.int .i64 (f : Int)) := cell_of_block hb rfl
    have lw := lt_of_block hb
    have HO := Lib.hid hown
    have HK := Lib.hid hk
    have HB := Lib.hid hb
    clear hown hk hb
    by_cases hlt : i < m
    · have hlti : (i : Int) < (m : Int) := by omega
      have hx : IntKind.i64.wrap ((f : Int) + (i : Int)) = (f : Int) + (i : Int) := IntWalk.i64_in _ (by omega)
      have HO2 := Lib.hid (ownsRow_keep HO.out ((Keeps.refl [] wr).alloc (.cells #[.int .i64 ((f : Int) + (i : Int))] 3)) (by simp))
      have HN := Lib.hid (cell_one_new wr (.int .i64 ((f : Int) + (i : Int))) 3)
      have hbs : w.heap.size + 1 ≤ (wr.alloc (.cells #[.int .i64 ((f : Int) + (i : Int))] 3)).heap.size := by simp; omega
      go_wp2_with (at_builtin; refine wpList_append_new _ rfl (.tmp 10) (.tmp 15) 38 rfl (w.heap.size + 1) 3 i0 (.int .i64 0) 1 8 Try.underlying38 hi0 hz0 hz1 hz2 rfl (by decide) (.slice va i vc) i _ rfl HO2.out ⟨wr.heap.size, 0, none⟩ 1 1 [.int .i64 ((f : Int) + (i : Int))] rfl rfl HN.out (by simp [Value.oneCell']) (by unfold maxLen; omega) (by omega) hbs ?_; intro v' u5 q1 q2 q3 q4; obtain ⟨va', vc', rfl⟩ := own_slice q1; have H1 := Lib.hid q1; have H2 := Lib.hid (grown_facts HO2.out q2 HK.out (by omega)); clear q1 q2 q3 q4)
      go_roundw
      case rel => exact ⟨i + 1, va', vc', by omega, by go_num, rfl, by rw [pagesI_succ, List.map_append]; exact H1.out, H2.out.1, H2.out.2 _ _ (by omega) HB.out⟩
      case measure => simp [intOf]; omega
    · have hin : i = m := by omega
      subst hin
      obtain ⟨a, c, e, h1, h2, h3, h4⟩ := ints_of_own HO.out
      have HE := Lib.hid e
      clear e
      go_wp2_with fail
      go_ret
      exact ⟨_, rfl, a, c, HE.out, h1, h2, h3, fun b o s e => ⟨by have := h4 b o s e; omega, (h4 b o s e).2⟩, HK.out⟩

/-- A number of a list that a call made. -/
theorem list_cell {w w1 : World} {a : Option Addr} {n : Nat} {l : List Int} (h : IntsAt w a n l) (hk : Keeps [] w w1) {i : Nat} (hi : i < n) : ∃ b o, a = some ⟨b, o, none⟩ ∧ w1.cell? ⟨b, o + i, none⟩ = some (.int .i64 (l.getD i 0)) := by
  have hl := h.1
  rcases a with _ | ⟨b, o, sp⟩
  · have := h.2.1 rfl
    rw [this] at hl
    simp at hl
    omega
  · obtain ⟨rfl, hc⟩ := (h.keep hk (by simp)).2.2 b o sp rfl (List.ne_nil_of_length_pos (by omega))
    exact ⟨b, o, rfl, hc i (by omega)⟩

set_option maxHeartbeats 1000000 in
theorem counts_any (hF : Fl w b bw be dv s) (hel : s.er.length ≤ 1000000) (f m : Nat) (hfm : f + m ≤ s.er.length) (hm : m ≤ 1000) :
    Calls Try.prog 55 #[rnd (some ⟨b, 0, none⟩) (f : Int) (m : Int)] w fun e w' => ∃ v, e = .returned v ∧ LOut w w' v m (partL s.er f m) := by
  obtain ⟨i0, hi0, hz0, hz1, hz2⟩ := info_parts Try.info3
  have HF := Lib.hid hF
  clear hF
  go_enter Try.func55, Try.ntmps55
  go_wp2_with (go_at_call 53; refine (pages_any _ f m _ (by omega) hm).mono ?_; rintro e w2 ⟨v, rfl, pa, pc, rfl, pi, p2, p3, p4, k2⟩; have PI := Lib.hid pi; have P3 := Lib.hid (And.intro p2 p3); have B2 := Lib.hid (show w2.heap[w.heap.size]? = some (boxR (some ⟨b, 0, none⟩) f m) from k2.held (heap_alloc_new w _) (by simp)); have K2 := Lib.hid (((Keeps.refl [] w).alloc (.cells #[.pointer (some ⟨b, 0, none⟩), .int .i64 (f : Int), .int .i64 (m : Int)] 84)).trans0 k2); clear pi p2 p3 p4 k2)
  go_loopw [3, 9] (fun vl vi wr => ∃ (i : Nat) (va : Option Addr) (vc : Nat), i ≤ m ∧ vi = .int .i64 (i : Int) ∧ vl = .slice va i vc ∧ wr.ownsRow w2.heap.size 3 1 (.slice va i vc) i ((partL s.er f i).map (.int .i64)) ∧ Keeps [] w2 wr) (fun _ vi _ => m - (intOf vi).toNat)
  case atStart => exact ⟨0, none, 0, Nat.zero_le _, rfl, rfl, World.ownsRow_nil _ _ _ _, Keeps.refl _ _⟩
  case round =>
    obtain ⟨i, va, vc, hi, rfl, rfl, hown, hk⟩ := hrel
    have hb := hk.held B2.out (by simp)
    have c0 : wr.cell? ⟨w.heap.size, 0, none⟩ = some (.pointer (some ⟨b, 0, none⟩)) := cell_of_block hb rfl
    have lw := lt_of_block hb
    have HO := Lib.hid hown
    have HK := Lib.hid hk
    have HKw := Lib.hid (K2.out.trans0 hk)
    have hs2 := K2.out.size
    have hs3 := hk.size
    clear hown hk hb
    by_cases hlt : i < m
    · have hlti : (i : Int) < (m : Int) := by omega
      obtain ⟨pb, po, rfl, gx⟩ := list_cell PI.out HK.out hlt
      rw [pagesI_get hlt] at gx
      obtain ⟨q, hq⟩ : ∃ q, q = f + i := ⟨_, rfl⟩
      rw [show (f : Int) + (i : Int) = (q : Int) by omega] at gx
      obtain ⟨x, hx⟩ : ∃ x, x = s.er.getD q 0 := ⟨_, rfl⟩
      have HX := Lib.hid (show partL s.er f (i + 1) = partL s.er f i ++ [x] by rw [partL_succ (by omega), hx, hq])
      have HE := Lib.hid (erases_in (HF.out.keep HKw.out (by simp)) q hel (by omega))
      rw [← hx] at HE
      have HO2 := Lib.hid (ownsRow_keep HO.out ((Keeps.refl [] wr).alloc (.cells #[.int .i64 x] 3)) (by simp))
      have HN := Lib.hid (cell_one_new wr (.int .i64 x) 3)
      have hbs : w2.heap.size ≤ (wr.alloc (.cells #[.int .i64 x] 3)).heap.size := by simp; omega
      clear hq hx
      go_wp2_with (first
        | (go_at_call 66; refine HE.out.mono ?_; rintro e w' ⟨rfl, rfl⟩)
        | (at_builtin; refine wpList_append_new _ rfl (.tmp 13) (.tmp 18) 38 rfl w2.heap.size 3 i0 (.int .i64 0) 1 8 Try.underlying38 hi0 hz0 hz1 hz2 rfl (by decide) (.slice va i vc) i _ rfl HO2.out ⟨wr.heap.size, 0, none⟩ 1 1 [.int .i64 x] rfl rfl HN.out (by simp [Value.oneCell']) (by unfold maxLen; omega) (by omega) hbs ?_; intro v' u5 q1 q2 q3 q4; obtain ⟨va', vc', rfl⟩ := own_slice q1; have H1 := Lib.hid q1; have H2 := Lib.hid (grown_facts HO2.out q2 HK.out (Nat.le_refl _)); clear q1 q2 q3 q4))
      go_roundw
      case rel => exact ⟨i + 1, va', vc', by omega, by go_num, rfl, by rw [HX.out, List.map_append]; exact H1.out, H2.out.1⟩
      case measure => simp [intOf]; omega
    · have hin : i = m := by omega
      subst hin
      obtain ⟨a, c, e, h1, h2, h3, h4⟩ := ints_of_own HO.out
      have HE := Lib.hid e
      clear e
      go_wp2_with fail
      go_ret
      exact ⟨_, rfl, a, c, HE.out, h1, h2, h3, fun b o s e => ⟨by have := h4 b o s e; omega, (h4 b o s e).2⟩, HKw.out⟩

end Go.Proofs.Ytcaphgokckkmfaa
