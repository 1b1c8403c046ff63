
/- Since, and whether two lists of raw writes are the same: their contracts. -/
import Derived.Test.YtcaphgokckkmfaaLK
import Derived.StillTailTactics
import Derived.Deep.DeepCutAuto
namespace Go.Proofs.Ytcaphgokckkmfaa
open Go.RowKit
set_option maxRecDepth 100000
set_option linter.unusedVariables false
variable {w w' : World} {F : List Nat} {L M : List Raw3}

/-- What a slice of raw writes reads as. -/
def RawsAt (w : World) (a : Option Addr) (n : Nat) (L : List Raw3) : Prop :=
  n = L.length ∧ (a = none → L = []) ∧ ∀ b o s, a = some ⟨b, o, s⟩ → L ≠ [] → s = none ∧ ∀ i r, L[i]? = some r →
    w.cell? ⟨b, o + i * 3, none⟩ = some (.bool r.1) ∧ w.cell? ⟨b, o + i * 3 + 1, none⟩ = some (.int .i64 r.2.1) ∧ w.cell? ⟨b, o + i * 3 + 2, none⟩ = some (.int .i64 r.2.2)

theorem RawsAt.keep {a : Option Addr} {n : Nat} (h : RawsAt w a n L) (hk : Keeps F w w') (hn : ∀ b o s, a = some ⟨b, o, s⟩ → b ∉ F) : RawsAt w' a n L := by
  refine ⟨h.1, h.2.1, fun b o s e hne => ⟨(h.2.2 b o s e hne).1, fun i r hr => ?_⟩⟩
  have hc := (h.2.2 b o s e hne).2 i r hr
  have k : ∀ {p : Addr} {v : Value}, p.block = b → w.cell? p = some v → w'.cell? p = some v := fun hp hc => (hk.cell (World.block_lt_of_cell? _ _ hc) (by rw [hp]; exact hn b o s e)).trans hc
  exact ⟨k rfl hc.1, k rfl hc.2.1, k rfl hc.2.2⟩

theorem rawCells_get : ∀ {L : List Raw3} {i : Nat} {r : Raw3}, L[i]? = some r → (rawCells L)[i * 3]? = some (.bool r.1) ∧ (rawCells L)[i * 3 + 1]? = some (.int .i64 r.2.1) ∧ (rawCells L)[i * 3 + 2]? = some (.int .i64 r.2.2) := by
  intro L
  induction L with
  | nil => intro i r h; simp at h
  | cons x l ih =>
    intro i r h
    have e : rawCells (x :: l) = Value.bool x.1 :: .int .i64 x.2.1 :: .int .i64 x.2.2 :: rawCells l := rfl
    cases i with
    | zero =>
      simp at h; subst h
      rw [e]; exact ⟨rfl, rfl, rfl⟩
    | succ j =>
      have hj := ih (i := j) (by simpa using h)
      rw [e, show (j + 1) * 3 = j * 3 + 1 + 1 + 1 from by omega]
      exact hj

/-- A row of raw writes reads so. -/
theorem RawsAt.of_own {base : Nat} {v : Value} {n : Nat} (h : w.ownsRow base 80 3 v n (rawCells L)) : ∃ a c, v = .slice a n c ∧ RawsAt w a n L ∧ (∀ b o s, a = some ⟨b, o, s⟩ → v.ownBlock = some b) := by
  have hn : n = L.length := by have := h.1; rw [length_rawCells] at this; omega
  rcases h.2 with ⟨rfl, h0⟩ | ⟨g, cap, cur, rfl, hb, hg, h1, h2, h3, h4⟩
  · subst h0
    refine ⟨none, 0, rfl, ⟨hn, fun _ => List.eq_nil_of_length_eq_zero hn.symm, by simp⟩, by simp⟩
  · refine ⟨_, cap, rfl, ⟨hn, by simp, ?_⟩, ?_⟩
    · rintro b o s e hne
      injection e with e
      injection e with e1 e2 e3
      subst e1; subst e2; subst e3
      refine ⟨rfl, fun i r hr => ?_⟩
      have hi : i < L.length := (List.getElem?_eq_some_iff.1 hr).1
      obtain ⟨q0, q1, q2⟩ := rawCells_get hr
      have k : ∀ j u, j < 3 → (rawCells L)[i * 3 + j]? = some u → w.cell? ⟨g, 0 + i * 3 + j, none⟩ = some u := by
        intro j u hj hu
        refine cell_of_block hg ?_
        rw [← h4, List.getElem?_take, if_pos (by omega)] at hu
        rw [Nat.zero_add]
        simpa using hu
      exact ⟨k 0 _ (by omega) q0, k 1 _ (by omega) q1, k 2 _ (by omega) q2⟩
    · rintro b o s e
      injection e with e
      injection e with e1 _ _
      subst e1; rfl

theorem own_empty63 (w : World) : (w.alloc (.cells #[] 80)).ownsRow w.heap.size 80 3 (.slice (some ⟨w.heap.size, 0, none⟩) 0 0) 0 [] :=
  World.ownsRow_made w #[] 0 (Nat.le_refl _) (by unfold maxLen; omega) (by simp)

theorem rawCells_one (L : List Raw3) : ∀ u ∈ rawCells L, u.oneCell' = true := by
  induction L with
  | nil => intro u hu; simp [rawCells] at hu
  | cons x l ih =>
    intro u hu
    have e : rawCells (x :: l) = Value.bool x.1 :: .int .i64 x.2.1 :: .int .i64 x.2.2 :: rawCells l := rfl
    rw [e] at hu
    simp only [List.mem_cons] at hu
    rcases hu with rfl | rfl | rfl | hu
    · rfl
    · rfl
    · rfl
    · exact ih u hu

theorem RawsAt.news {ad : Addr} {n : Nat} (h : RawsAt w (some ad) n L) : ∀ j u, (rawCells L)[j]? = some u → w.cell? (ad.add j) = some u := by
  intro j u hu
  have hj : j < L.length * 3 := by have := (List.getElem?_eq_some_iff.1 hu).1; rw [length_rawCells] at this; exact this
  obtain ⟨b, o, s⟩ := ad
  obtain ⟨rfl, h2⟩ := h.2.2 b o s rfl (List.ne_nil_of_length_pos (by omega))
  have hadd : (⟨b, o, none⟩ : Addr).add j = ⟨b, o + j, none⟩ := by unfold Addr.add; split <;> simp_all
  rw [hadd]
  have hq : j / 3 < L.length := by omega
  obtain ⟨r, hr⟩ : ∃ r, L[j / 3]? = some r := ⟨_, List.getElem?_eq_getElem hq⟩
  obtain ⟨c0, c1, c2⟩ := h2 _ _ hr
  obtain ⟨q0, q1, q2⟩ := rawCells_get hr
  rcases (show j = j / 3 * 3 ∨ j = j / 3 * 3 + 1 ∨ j = j / 3 * 3 + 2 from by omega) with e | e | e
  · rw [← e] at q0 c0; rw [hu] at q0; rw [q0]; exact c0
  · rw [← e] at q1; rw [Nat.add_assoc, ← e] at c1; rw [hu] at q1; rw [q1]; exact c1
  · rw [← e] at q2; rw [Nat.add_assoc, ← e] at c2; rw [hu] at q2; rw [q2]; exact c2

/-- A copy of raw writes: fresh. -/
def RawCopy (w w' : World) (v : Value) (L : List Raw3) : Prop := ∃ a c, v = .slice a L.length c ∧ RawsAt w' a L.length L ∧ (∀ b o s, a = some ⟨b, o, s⟩ → w.heap.size ≤ b) ∧ Keeps [] w w' ∧ L.length ≤ c

theorem Fl.raws {b bw be : Nat} {dv : Value} {s : FS} (h : Fl w b bw be dv s) : ∃ a c, dv = .slice a s.done.length c ∧ RawsAt w a s.done.length s.done := by
  obtain ⟨a, c, e, hr, _⟩ := RawsAt.of_own h.hd
  exact ⟨a, c, e, hr⟩

end Go.Proofs.Ytcaphgokckkmfaa
