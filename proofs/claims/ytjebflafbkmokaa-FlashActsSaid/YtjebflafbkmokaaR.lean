/- Acts that came in, opened: what their reading says of the cells. No condition. -/
import Derived.Test.YtjebflafbkmokaaQ
import Derived.Test.YtjebflafbkmokaaZ
import Derived.Deep.Slices
import Derived.Deep.Fields
namespace Go.Proofs.Ytjebflafbkmokaa
open Go.ChangeShapes Go.WideShapes Go.ChangeAt Go.RowKit Go.Deep
set_option linter.unusedVariables false

theorem cells38 : Try.prog.cellsOf 38 = 4 := by kernel_rfl
theorem cells36 : Try.prog.cellsOf 36 = 1 := by kernel_rfl

section
variable {H : Type} {enc : TypeId × Value → H} {W : World}

theorem spot_none {a : Addr} {v : Value} (h : W.cell? a = some v) : a.spot = none := by
  obtain ⟨b, o, s⟩ := a
  cases s with
  | none => rfl
  | some x => simp only [World.cell?, Option.isSome_some, if_true] at h; split at h <;> cases h
theorem add_plain (b o i : Nat) : (⟨b, o, none⟩ : Addr).add i = ⟨b, o + i, none⟩ := by unfold Addr.add; split <;> simp_all

theorem open_ints_cell {fuel : Nat} {v : Value} {x : DataW H × List MemPlace} (h : DataW.trod enc Try.prog W 0 (fun _ => true) true fuel 36 [v] = some x) :
    ∃ a n c xs, v = .slice a n c ∧ IntsAt W a n xs ∧ n ≤ maxLen := by
  rcases open_ints Try.underlying36 Try.underlying3 cells3 h with ⟨hcs, hx⟩ | ⟨a, len, cap, zs, hcs, _, hl, hm, hz, hx, hcell, hwz⟩
  · injection hcs with h1 _
    exact ⟨none, 0, 0, [], h1, ⟨rfl, fun _ => rfl, by simp⟩, by unfold maxLen; omega⟩
  · injection hcs with h1 _
    simp only [if_true] at hz
    refine ⟨some a, len, cap, zs.take len, h1, ⟨by simp; omega, by simp, ?_⟩, Nat.le_trans hl hm⟩
    rintro b o s e hne
    injection e with e
    subst e
    have hpos : 0 < len := by
      have := List.length_pos_iff.2 hne
      simp at this; omega
    have hs : s = none := spot_none (a := ⟨b, o, s⟩) (hcell 0 (by omega))
    subst hs
    refine ⟨rfl, fun i hi => ?_⟩
    have hil : i < len := by simp at hi; omega
    rw [← add_plain, hcell i (by omega)]
    simp [List.getD, hil]

theorem open_act {fuel : Nat} {cs : List Value} {x : DataW H × List MemPlace} (h : DataW.trod enc Try.prog W 0 (fun _ => true) true fuel 38 cs = some x) :
    ∃ r : ActR, cs = [.int .i64 r.d, .int .i64 r.at_, .int .i64 r.n, .slice r.la r.ln r.lc] ∧ IntsAt W r.la r.ln r.l ∧ r.ln ≤ maxLen := by
  obtain ⟨xs, n', _, _, hlen, hxl, hf⟩ := DataW.trod_struct Try.underlying38 h
  rw [cells38] at hlen
  match cs, hlen with
  | [c0, c1, c2, c3], _ =>
    have h0 := hf 0 _ rfl
    have h1 := hf 1 _ rfl
    have h2 := hf 2 _ rfl
    have h3 := hf 3 _ rfl
    simp [cells3, cells36] at h0 h1 h2 h3
    have e : ∀ j, j < 4 → ∃ y, xs[j]? = some y := fun j hj => ⟨xs[j]'(by rw [hxl]; exact hj), List.getElem?_eq_getElem _⟩
    obtain ⟨y0, e0⟩ := e 0 (by omega)
    obtain ⟨y1, e1⟩ := e 1 (by omega)
    obtain ⟨y2, e2⟩ := e 2 (by omega)
    obtain ⟨y3, e3⟩ := e 3 (by omega)
    rw [e0] at h0
    rw [e1] at h1
    rw [e2] at h2
    rw [e3] at h3
    obtain ⟨d, k0, _, _⟩ := DataW.trod_int Try.underlying3 h0
    obtain ⟨at_, k1, _, _⟩ := DataW.trod_int Try.underlying3 h1
    obtain ⟨n, k2, _, _⟩ := DataW.trod_int Try.underlying3 h2
    obtain ⟨la, ln, lc, l, rfl, hi, hm⟩ := open_ints_cell h3
    injection k0 with k0 _
    injection k1 with k1 _
    injection k2 with k2 _
    subst k0; subst k1; subst k2
    exact ⟨⟨d, at_, n, la, ln, lc, l⟩, rfl, hi, hm⟩

theorem choose_list {α : Type} {P : Nat → α → Prop} : ∀ (n : Nat), (∀ i, i < n → ∃ r, P i r) → ∃ l : List α, l.length = n ∧ ∀ i r, l[i]? = some r → P i r := by
  intro n
  induction n with
  | zero => intro _; exact ⟨[], rfl, by simp⟩
  | succ n ih =>
    intro h
    obtain ⟨l, hl, hp⟩ := ih (fun i hi => h i (by omega))
    obtain ⟨r, hr⟩ := h n (by omega)
    refine ⟨l ++ [r], by simp [hl], fun i q hq => ?_⟩
    by_cases hi : i < l.length
    · rw [List.getElem?_append_left hi] at hq; exact hp i q hq
    · rw [List.getElem?_append_right (by omega)] at hq
      have h0 : i - l.length = 0 := by
        rcases Nat.eq_zero_or_pos (i - l.length) with h | h
        · exact h
        · rw [List.getElem?_eq_none (by simp; omega)] at hq; cases hq
      have hin : i = n := by omega
      rw [h0] at hq
      simp at hq
      subst hq
      rw [hin]; exact hr

/-- A parameter of type []Act, opened. -/
theorem open_acts {base : Nat} {v : Value} {d : DataW H} {p : List MemPlace} (hv : Value.okWide Try.prog W .any base 24 v) (h : DataW.Trod enc Try.prog W 0 (fun _ => true) true 24 v d p) :
    ∃ a n c acts, v = .slice a n c ∧ ActsAt W a n acts := by
  obtain ⟨a0, len, cap, rfl⟩ := okWide_slice Try.underlying24 hv
  obtain ⟨fuel, hf⟩ := h
  rcases open_slice Try.underlying24 hf with ⟨hcs, _⟩ | ⟨a, len', cap', m, n, D, Pl, hcs, hb, hl, hm, hmm, hx, hi⟩
  · simp [Value.cells] at hcs
    obtain ⟨rfl, rfl, rfl⟩ := hcs
    exact ⟨none, 0, 0, [], rfl, rfl, by unfold maxLen; omega, fun _ => rfl, by simp⟩
  · simp [Value.cells] at hcs
    obtain ⟨rfl, rfl, rfl⟩ := hcs
    simp only [if_true] at hmm
    rw [cells38] at hi
    have hall : ∀ i, i < len → ∃ r : ActR, (a.add (i * 4)).spot = none ∧ ActAt W a.block ((a.add (i * 4)).off) r := by
      intro i hil
      obtain ⟨cs, hc, ht⟩ := hi i (by omega)
      obtain ⟨r, rfl, hri, hrm⟩ := open_act ht
      obtain ⟨_, _, hat⟩ := World.cells?_some hc
      have g0 := hat 0 (by omega)
      have hsp : (a.add (i * 4)).spot = none := spot_none (by have : (a.add (i * 4)).add 0 = a.add (i * 4) := rfl; rw [this] at g0; exact g0)
      have hbl : (a.add (i * 4)).block = a.block := by unfold Addr.add; split <;> rfl
      have hadd : ∀ j, (a.add (i * 4)).add j = ⟨a.block, (a.add (i * 4)).off + j, none⟩ := by
        intro j
        have : a.add (i * 4) = ⟨a.block, (a.add (i * 4)).off, none⟩ := by
          rw [← hbl, ← hsp]
        rw [this, add_plain]
      refine ⟨r, hsp, ⟨?_, ?_, ?_, ?_, hri, hrm⟩⟩
      · have := hat 0 (by omega); rw [hadd] at this; exact this
      · have := hat 1 (by omega); rw [hadd] at this; exact this
      · have := hat 2 (by omega); rw [hadd] at this; exact this
      · have := hat 3 (by omega); rw [hadd] at this; exact this
    obtain ⟨acts, hlen, hacts⟩ := choose_list len hall
    refine ⟨some a, len, cap, acts, rfl, hlen.symm, Nat.le_trans hl hm, by simp, ?_⟩
    rintro b o s e hne
    injection e with e
    subst e
    have hpos : 0 < acts.length := List.length_pos_iff.2 hne
    obtain ⟨r0, hr0⟩ : ∃ r, acts[0]? = some r := ⟨_, List.getElem?_eq_getElem hpos⟩
    have hs : s = none := by have := (hacts 0 r0 hr0).1; simpa [Addr.add] using this
    subst hs
    refine ⟨rfl, fun i r hr => ?_⟩
    have := (hacts i r hr).2
    rwa [add_plain] at this
end
end Go.Proofs.Ytjebflafbkmokaa
