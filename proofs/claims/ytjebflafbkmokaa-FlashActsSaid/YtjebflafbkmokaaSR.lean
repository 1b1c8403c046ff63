/- Since, and whether two lists of raw writes are the same: their contracts. -/
import Derived.Test.YtjebflafbkmokaaK
import Derived.StillTailTactics
import Derived.Deep.DeepCutAuto
namespace Go.Proofs.Ytjebflafbkmokaa
open Go.RowKit
set_option linter.unusedVariables false
variable {w w' : World} {F : List Nat} {L M : List Raw3}

/-- What a slice of raw writes reads as. -/
def RawsAt (w : World) (a : Option Addr) (n : Nat) (L : List Raw3) : Prop :=
  n = L.length ∧ (a = none → L = []) ∧ ∀ b o s, a = some ⟨b, o, s⟩ → L ≠ [] → s = none ∧ ∀ i r, L[i]? = some r →
    w.cell? ⟨b, o + i * 3, none⟩ = some (.bool r.1) ∧ w.cell? ⟨b, o + i * 3 + 1, none⟩ = some (.int .i64 r.2.1) ∧ w.cell? ⟨b, o + i * 3 + 2, none⟩ = some (.int .i64 r.2.2)

theorem RawsAt.keep {a : Option Addr} {n : Nat} (h : RawsAt w a n L) (hk : Keeps F w w') (hn : ∀ b o s, a = some ⟨b, o, s⟩ → b ∉ F) : RawsAt w' a n L := by
  refine ⟨h.1, h.2.1, fun b o s e hne => ⟨(h.2.2 b o s e hne).1, fun i r hr => ?_⟩⟩
  have hc := (h.2.2 b o s e hne).2 i r hr
  have k : ∀ {p : Addr} {v : Value}, p.block = b → w.cell? p = some v → w'.cell? p = some v := fun hp hc => (hk.cell (World.block_lt_of_cell? _ _ hc) (by rw [hp]; exact hn b o s e)).trans hc
  exact ⟨k rfl hc.1, k rfl hc.2.1, k rfl hc.2.2⟩

theorem rawCells_get : ∀ {L : List Raw3} {i : Nat} {r : Raw3}, L[i]? = some r → (rawCells L)[i * 3]? = some (.bool r.1) ∧ (rawCells L)[i * 3 + 1]? = some (.int .i64 r.2.1) ∧ (rawCells L)[i * 3 + 2]? = some (.int .i64 r.2.2) := by
  intro L
  induction L with
  | nil => intro i r h; simp at h
  | cons x l ih =>
    intro i r h
    have e : rawCells (x :: l) = Value.bool x.1 :: .int .i64 x.2.1 :: .int .i64 x.2.2 :: rawCells l := rfl
    cases i with
    | zero =>
      simp at h; subst h
      rw [e]; exact ⟨rfl, rfl, rfl⟩
    | succ j =>
      have hj := ih (i := j) (by simpa using h)
      rw [e, show (j + 1) * 3 = j * 3 + 1 + 1 + 1 from by omega]
      exact hj

/-- A row of raw writes reads so. -/
theorem RawsAt.of_own {base : Nat} {v : Value} {n : Nat} (h : w.ownsRow base 63 3 v n (rawCells L)) : ∃ a c, v = .slice a n c ∧ RawsAt w a n L ∧ (∀ b o s, a = some ⟨b, o, s⟩ → v.ownBlock = some b) := by
  have hn : n = L.length := by have := h.1; rw [length_rawCells] at this; omega
  rcases h.2 with ⟨rfl, h0⟩ | ⟨g, cap, cur, rfl, hb, hg, h1, h2, h3, h4⟩
  · subst h0
    refine ⟨none, 0, rfl, ⟨hn, fun _ => List.eq_nil_of_length_eq_zero hn.symm, by simp⟩, by simp⟩
  · refine ⟨_, cap, rfl, ⟨hn, by simp, ?_⟩, ?_⟩
    · rintro b o s e hne
      injection e with e
      injection e with e1 e2 e3
      subst e1; subst e2; subst e3
      refine ⟨rfl, fun i r hr => ?_⟩
      have hi : i < L.length := (List.getElem?_eq_some_iff.1 hr).1
      obtain ⟨q0, q1, q2⟩ := rawCells_get hr
      have k : ∀ j u, j < 3 → (rawCells L)[i * 3 + j]? = some u → w.cell? ⟨g, 0 + i * 3 + j, none⟩ = some u := by
        intro j u hj hu
        refine cell_of_block hg ?_
        rw [← h4, List.getElem?_take, if_pos (by omega)] at hu
        rw [Nat.zero_add]
        simpa using hu
      exact ⟨k 0 _ (by omega) q0, k 1 _ (by omega) q1, k 2 _ (by omega) q2⟩
    · rintro b o s e
      injection e with e
      injection e with e1 _ _
      subst e1; rfl

theorem own_empty63 (w : World) : (w.alloc (.cells #[] 63)).ownsRow w.heap.size 63 3 (.slice (some ⟨w.heap.size, 0, none⟩) 0 0) 0 [] :=
  World.ownsRow_made w #[] 0 (Nat.le_refl _) (by unfold maxLen; omega) (by simp)

theorem rawCells_one (L : List Raw3) : ∀ u ∈ rawCells L, u.oneCell' = true := by
  induction L with
  | nil => intro u hu; simp [rawCells] at hu
  | cons x l ih =>
    intro u hu
    have e : rawCells (x :: l) = Value.bool x.1 :: .int .i64 x.2.1 :: .int .i64 x.2.2 :: rawCells l := rfl
    rw [e] at hu
    simp only [List.mem_cons] at hu
    rcases hu with rfl | rfl | rfl | hu
    · rfl
    · rfl
    · rfl
    · exact ih u hu

theorem RawsAt.news {ad : Addr} {n : Nat} (h : RawsAt w (some ad) n L) : ∀ j u, (rawCells L)[j]? = some u → w.cell? (ad.add j) = some u := by
  intro j u hu
  have hj : j < L.length * 3 := by have := (List.getElem?_eq_some_iff.1 hu).1; rw [length_rawCells] at this; exact this
  obtain ⟨b, o, s⟩ := ad
  obtain ⟨rfl, h2⟩ := h.2.2 b o s rfl (List.ne_nil_of_length_pos (by omega))
  have hadd : (⟨b, o, none⟩ : Addr).add j = ⟨b, o + j, none⟩ := by unfold Addr.add; split <;> simp_all
  rw [hadd]
  have hq : j / 3 < L.length := by omega
  obtain ⟨r, hr⟩ : ∃ r, L[j / 3]? = some r := ⟨_, List.getElem?_eq_getElem hq⟩
  obtain ⟨c0, c1, c2⟩ := h2 _ _ hr
  obtain ⟨q0, q1, q2⟩ := rawCells_get hr
  rcases (show j = j / 3 * 3 ∨ j = j / 3 * 3 + 1 ∨ j = j / 3 * 3 + 2 from by omega) with e | e | e
  · rw [← e] at q0 c0; rw [hu] at q0; rw [q0]; exact c0
  · rw [← e] at q1; rw [Nat.add_assoc, ← e] at c1; rw [hu] at q1; rw [q1]; exact c1
  · rw [← e] at q2; rw [Nat.add_assoc, ← e] at c2; rw [hu] at q2; rw [q2]; exact c2

/-- A copy of raw writes: fresh. -/
def RawCopy (w w' : World) (v : Value) (L : List Raw3) : Prop := ∃ a c, v = .slice a L.length c ∧ RawsAt w' a L.length L ∧ (∀ b o s, a = some ⟨b, o, s⟩ → w.heap.size ≤ b) ∧ Keeps [] w w' ∧ L.length ≤ c

theorem clone_raws_none (n c : Nat) (w : World) (hn : L = []) : Calls Try.prog 48 #[.slice none n c] w fun e w' => ∃ v, e = .returned v ∧ RawCopy w w' v L := by
  subst hn
  have q := fun (w : World) (a : Option Addr) (n c : Nat) => Lib.run_eql_slice_nil (P := Try.prog) w 47 63 a n c 0 0 Try.underlying47
  go_enter Try.func48, Try.ntmps48
  go_wp2
  go_ret
  exact ⟨_, rfl, none, 0, rfl, ⟨rfl, fun _ => rfl, by simp⟩, by simp, Keeps.refl _ _, Nat.le_refl _⟩
theorem clone_raws_some (ad : Addr) (n c : Nat) (L : List Raw3) (w : World) (h : RawsAt w (some ad) n L) (hn : n ≤ 1000000000) :
    Calls Try.prog 48 #[.slice (some ad) n c] w fun e w' => ∃ v, e = .returned v ∧ RawCopy w w' v L := by
  obtain ⟨i0, hi, hz0, hz1, hz2⟩ := info_parts Try.info63
  obtain ⟨rfl, h2⟩ := h
  have h : RawsAt w (some ad) L.length L := ⟨rfl, h2⟩
  have hka : Keeps [] w (w.alloc (.cells #[] 63)) := (Keeps.refl _ _).alloc _
  have hno := (h.keep hka (by simp)).news
  have q := fun (w : World) (a : Option Addr) (n c : Nat) => Lib.run_eql_slice_nil (P := Try.prog) w 47 63 a n c 0 0 Try.underlying47
  go_enter Try.func48, Try.ntmps48
  go_wp2_with (at_builtin; refine wpList_append_new _ rfl (.tmp 5) (.tmp 6) 47 rfl w.heap.size 63 i0 (.agg #[.bool false, .int .i64 0, .int .i64 0]) 3 24 Try.underlying47 hi hz0 hz1 hz2 rfl (by decide) (.slice (some ⟨w.heap.size, 0, none⟩) 0 0) 0 [] rfl (own_empty63 w) ad L.length c (rawCells L) rfl (length_rawCells L) hno (rawCells_one L) (by unfold maxLen; omega) (by omega) (by simp) ?_; intro v' w' q1 q2 q3 q4)
  go_ret
  refine ⟨_, rfl, ?_⟩
  have q1' : w'.ownsRow w.heap.size 63 3 v' L.length (rawCells L) := by simpa using q1
  have hlc : ∃ a c, v' = .slice a L.length c ∧ L.length ≤ c := by
    rcases q1'.2 with ⟨rfl, h0⟩ | ⟨g, cap, cur, rfl, _, _, h1, _⟩
    · exact ⟨none, 0, by rw [h0], by omega⟩
    · exact ⟨_, cap, rfl, h1⟩
  obtain ⟨a0, c0, e0, hle⟩ := hlc
  obtain ⟨a, c', rfl, hr, hb⟩ := RawsAt.of_own q1'
  injection e0 with _ _ e3
  subst e3
  refine ⟨a, _, rfl, hr, fun b o s e => ?_, hka.grown q2 (by intro k e; right; simp [Value.ownBlock] at e; omega), hle⟩
  exact (q1'.lt b (hb b o s e)).1

theorem Fl.raws {b bw be : Nat} {dv : Value} {s : FS} (h : Fl w b bw be dv s) : ∃ a c, dv = .slice a s.done.length c ∧ RawsAt w a s.done.length s.done := by
  obtain ⟨a, c, e, hr, _⟩ := RawsAt.of_own h.hd
  exact ⟨a, c, e, hr⟩

/-- Are two lists of raw writes the same: as the walk tells it. -/
theorem sameRaws_any (a a' : Option Addr) (n n' c c' : Nat) (xs ys : List Raw3) (w : World) (h : RawsAt w a n xs) (h' : RawsAt w a' n' ys) (hn : n ≤ maxLen) (hn' : n' ≤ maxLen) (hxy : xs = ys) :
    Calls Try.prog 32 #[.slice a n c, .slice a' n' c'] w fun e w' => e = .returned (.bool true) ∧ ∃ m, w' = w.drewN m := by
  subst hxy
  unfold maxLen at hn hn'
  obtain ⟨rfl, ha1, ha2⟩ := h
  obtain ⟨hl, hb1, hb2⟩ := h'
  subst hl
  go_enter Try.func32, Try.ntmps32
  go_wp2
  go_loopw [5] (fun v wr => ∃ (k m : Nat), k ≤ xs.length ∧ v = .int .i64 k ∧ wr = w.drewN m) (fun v _ => xs.length - (intOf v).toNat)
  case atStart => exact ⟨0, 0, Nat.zero_le _, rfl, rfl⟩
  case round =>
    obtain ⟨k, m, hk, rfl, rfl⟩ := hrel
    by_cases hlt : k < xs.length
    · rcases a with _ | ⟨b, o, sp⟩
      · have := ha1 rfl; rw [this] at hlt; simp at hlt
      rcases a' with _ | ⟨b', o', sp'⟩
      · have := hb1 rfl; rw [this] at hlt; simp at hlt
      obtain ⟨rfl, hx⟩ := ha2 b o sp rfl (List.ne_nil_of_length_pos (by omega))
      obtain ⟨rfl, hy⟩ := hb2 b' o' sp' rfl (List.ne_nil_of_length_pos (by omega))
      obtain ⟨⟨r1, r2, r3⟩, hr⟩ : ∃ r, xs[k]? = some r := ⟨_, List.getElem?_eq_getElem hlt⟩
      obtain ⟨p0, p1, p2⟩ := hx k _ hr
      obtain ⟨q0, q1, q2⟩ := hy k _ hr
      simp only at p0 p1 p2 q0 q1 q2
      clear hx hy hr ha1 ha2 hb1 hb2
      go_upto_region 6 with (fail)
      go_quiet (fail)
      go_wp2
      exact ⟨⟨k + 1, _, by omega, by go_num, rfl⟩, by simp [intOf]; omega⟩
    · clear ha1 ha2 hb1 hb2
      go_wp2
      go_ret
      exact ⟨rfl, _, rfl⟩

end Go.Proofs.Ytjebflafbkmokaa
