/- Acts that came in, opened, with the bounds of their cuts. No condition. -/
import Derived.Test.YtjebflafbkmokaaR
import Derived.OpenShut
namespace Go.Proofs.Ytjebflafbkmokaa
open Go.ChangeShapes Go.WideShapes Go.ChangeAt Go.RowKit Go.Deep
set_option linter.unusedVariables false

/-- The number that a Cut and a Load take is an int64. -/
def InR (r : ActR) : Prop := (-9223372036854775808 ≤ r.n ∧ r.n ≤ 9223372036854775807) ∧ r.ln ≤ r.lc ∧ r.lc ≤ maxLen

section
variable {H : Type} {enc : TypeId × Value → H} {W : World}

theorem open_ints_cell2 {fuel : Nat} {v : Value} {x : DataW H × List MemPlace} (h : DataW.trod enc Try.prog W 0 (fun _ => true) true fuel 36 [v] = some x) :
    ∃ a n c xs, v = .slice a n c ∧ IntsAt W a n xs ∧ n ≤ c ∧ c ≤ maxLen := by
  rcases open_ints Try.underlying36 Try.underlying3 cells3 h with ⟨hcs, hx⟩ | ⟨a, len, cap, zs, hcs, _, hl, hm, hz, hx, hcell, hwz⟩
  · injection hcs with h1 _
    exact ⟨none, 0, 0, [], h1, ⟨rfl, fun _ => rfl, by simp⟩, Nat.le_refl _, by unfold maxLen; omega⟩
  · injection hcs with h1 _
    simp only [if_true] at hz
    refine ⟨some a, len, cap, zs.take len, h1, ⟨by simp; omega, by simp, ?_⟩, hl, hm⟩
    rintro b o s e hne
    injection e with e
    subst e
    have hpos : 0 < len := by
      have := List.length_pos_iff.2 hne
      simp at this; omega
    have hs : s = none := spot_none (a := ⟨b, o, s⟩) (hcell 0 (by omega))
    subst hs
    refine ⟨rfl, fun i hi => ?_⟩
    have hil : i < len := by simp at hi; omega
    rw [← add_plain, hcell i (by omega)]
    simp [List.getD, hil]

theorem open_act2 {fuel : Nat} {cs : List Value} {x : DataW H × List MemPlace} (h : DataW.trod enc Try.prog W 0 (fun _ => true) true fuel 38 cs = some x) :
    ∃ r : ActR, cs = [.int .i64 r.d, .int .i64 r.at_, .int .i64 r.n, .slice r.la r.ln r.lc] ∧ IntsAt W r.la r.ln r.l ∧ r.ln ≤ maxLen ∧ InR r := by
  obtain ⟨xs, n', _, _, hlen, hxl, hf⟩ := DataW.trod_struct Try.underlying38 h
  rw [cells38] at hlen
  match cs, hlen with
  | [c0, c1, c2, c3], _ =>
    have h0 := hf 0 _ rfl
    have h1 := hf 1 _ rfl
    have h2 := hf 2 _ rfl
    have h3 := hf 3 _ rfl
    simp [cells3, cells36] at h0 h1 h2 h3
    have e : ∀ j, j < 4 → ∃ y, xs[j]? = some y := fun j hj => ⟨xs[j]'(by rw [hxl]; exact hj), List.getElem?_eq_getElem _⟩
    obtain ⟨y0, e0⟩ := e 0 (by omega)
    obtain ⟨y1, e1⟩ := e 1 (by omega)
    obtain ⟨y2, e2⟩ := e 2 (by omega)
    obtain ⟨y3, e3⟩ := e 3 (by omega)
    rw [e0] at h0
    rw [e1] at h1
    rw [e2] at h2
    rw [e3] at h3
    obtain ⟨d, k0, _, _⟩ := DataW.trod_int Try.underlying3 h0
    obtain ⟨at_, k1, _, _⟩ := DataW.trod_int Try.underlying3 h1
    obtain ⟨n, k2, _, w2⟩ := DataW.trod_int Try.underlying3 h2
    obtain ⟨la, ln, lc, l, rfl, hi, hlc, hcm⟩ := open_ints_cell2 h3
    injection k0 with k0 _
    injection k1 with k1 _
    injection k2 with k2 _
    subst k0; subst k1; subst k2
    exact ⟨⟨d, at_, n, la, ln, lc, l⟩, rfl, hi, Nat.le_trans hlc hcm, bounds_i64 w2, hlc, hcm⟩

/-- A parameter of type []Act, opened. -/
theorem open_acts2 {base : Nat} {v : Value} {d : DataW H} {p : List MemPlace} (hv : Value.okWide Try.prog W .any base 24 v) (h : DataW.Trod enc Try.prog W 0 (fun _ => true) true 24 v d p) :
    ∃ a n c acts, v = .slice a n c ∧ ActsAt W a n acts ∧ ∀ r ∈ acts, InR r := by
  obtain ⟨a0, len, cap, rfl⟩ := okWide_slice Try.underlying24 hv
  obtain ⟨fuel, hf⟩ := h
  rcases open_slice Try.underlying24 hf with ⟨hcs, _⟩ | ⟨a, len', cap', m, n, D, Pl, hcs, hb, hl, hm, hmm, hx, hi⟩
  · simp [Value.cells] at hcs
    obtain ⟨rfl, rfl, rfl⟩ := hcs
    exact ⟨none, 0, 0, [], rfl, ⟨rfl, by unfold maxLen; omega, fun _ => rfl, by simp⟩, by simp⟩
  · simp [Value.cells] at hcs
    obtain ⟨rfl, rfl, rfl⟩ := hcs
    simp only [if_true] at hmm
    rw [cells38] at hi
    have hall : ∀ i, i < len → ∃ r : ActR, (a.add (i * 4)).spot = none ∧ ActAt W a.block ((a.add (i * 4)).off) r ∧ InR r := by
      intro i hil
      obtain ⟨cs, hc, ht⟩ := hi i (by omega)
      obtain ⟨r, rfl, hri, hrm, hrw⟩ := open_act2 ht
      obtain ⟨_, _, hat⟩ := World.cells?_some hc
      have g0 := hat 0 (by omega)
      have hsp : (a.add (i * 4)).spot = none := spot_none (by have : (a.add (i * 4)).add 0 = a.add (i * 4) := rfl; rw [this] at g0; exact g0)
      have hbl : (a.add (i * 4)).block = a.block := by unfold Addr.add; split <;> rfl
      have hadd : ∀ j, (a.add (i * 4)).add j = ⟨a.block, (a.add (i * 4)).off + j, none⟩ := by
        intro j
        have : a.add (i * 4) = ⟨a.block, (a.add (i * 4)).off, none⟩ := by
          rw [← hbl, ← hsp]
        rw [this, add_plain]
      refine ⟨r, hsp, ⟨?_, ?_, ?_, ?_, hri, hrm⟩, hrw⟩
      · have := hat 0 (by omega); rw [hadd] at this; exact this
      · have := hat 1 (by omega); rw [hadd] at this; exact this
      · have := hat 2 (by omega); rw [hadd] at this; exact this
      · have := hat 3 (by omega); rw [hadd] at this; exact this
    obtain ⟨acts, hlen, hacts⟩ := choose_list len hall
    refine ⟨some a, len, cap, acts, rfl, ⟨hlen.symm, Nat.le_trans hl hm, by simp, ?_⟩, fun r hr => by obtain ⟨i, hi⟩ := List.mem_iff_getElem?.1 hr; exact (hacts i r hi).2.2⟩
    rintro b o s e hne
    injection e with e
    subst e
    have hpos : 0 < acts.length := List.length_pos_iff.2 hne
    obtain ⟨r0, hr0⟩ : ∃ r, acts[0]? = some r := ⟨_, List.getElem?_eq_getElem hpos⟩
    have hs : s = none := by have := (hacts 0 r0 hr0).1; simpa [Addr.add] using this
    subst hs
    refine ⟨rfl, fun i r hr => ?_⟩
    have := (hacts i r hr).2.1
    rwa [add_plain] at this

theorem cells23 : Try.prog.cellsOf 23 = 3 := by kernel_rfl

/-- A geometry that came in, opened. -/
theorem open_geo {base : Nat} {v : Value} {d : DataW H} {p : List MemPlace} (hv : Value.okWide Try.prog W .any base 23 v) (h : DataW.Trod enc Try.prog W 0 (fun _ => true) true 23 v d p) :
    ∃ g q n : Int, v = .agg #[.int .i64 g, .int .i64 q, .int .i64 n] ∧ (-9223372036854775808 ≤ g ∧ g ≤ 9223372036854775807) ∧ (-9223372036854775808 ≤ q ∧ q ≤ 9223372036854775807) ∧ (-9223372036854775808 ≤ n ∧ n ≤ 9223372036854775807) := by
  obtain ⟨cs, rfl, hsz⟩ := okWide_struct Try.underlying23 hv
  obtain ⟨fuel, hf⟩ := h
  obtain ⟨xs, n', _, _, hlen, hxl, hf⟩ := DataW.trod_struct Try.underlying23 hf
  rw [cells23] at hsz
  obtain ⟨l⟩ := cs
  match l, hsz with
  | [c0, c1, c2], _ =>
    have h0 := hf 0 _ rfl
    have h1 := hf 1 _ rfl
    have h2 := hf 2 _ rfl
    simp [cells3, Value.cells] at h0 h1 h2
    have e : ∀ j, j < 3 → ∃ y, xs[j]? = some y := fun j hj => ⟨xs[j]'(by rw [hxl]; exact hj), List.getElem?_eq_getElem _⟩
    obtain ⟨y0, e0⟩ := e 0 (by omega)
    obtain ⟨y1, e1⟩ := e 1 (by omega)
    obtain ⟨y2, e2⟩ := e 2 (by omega)
    rw [e0] at h0
    rw [e1] at h1
    rw [e2] at h2
    obtain ⟨g, k0, _, w0⟩ := DataW.trod_int Try.underlying3 h0
    obtain ⟨q, k1, _, w1⟩ := DataW.trod_int Try.underlying3 h1
    obtain ⟨n, k2, _, w2⟩ := DataW.trod_int Try.underlying3 h2
    injection k0 with k0 _
    injection k1 with k1 _
    injection k2 with k2 _
    subst k0; subst k1; subst k2
    exact ⟨g, q, n, rfl, bounds_i64 w0, bounds_i64 w1, bounds_i64 w2⟩
end
end Go.Proofs.Ytjebflafbkmokaa
