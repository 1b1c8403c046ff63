/- A flash and the document's own one side by side in memory: steps of the one and of the other, and what stays. -/
import Derived.Test.YtjebflafbkmokaaRL
import Derived.Test.YtjebflafbkmokaaNM
import Derived.Test.YtjebflafbkmokaaRD
import Derived.Test.YtjebflafbkmokaaU
namespace Go.Proofs.Ytjebflafbkmokaa
open Go.RowKit
set_option linter.unusedVariables false

/-- The flash (blocks xb, xw, xe, its list dx) in state s; the document's (rb, gw, re, its list lv) in state t; both made behind W, and apart. -/
structure Two (W wr : World) (xb xw xe : Nat) (dx : Value) (rb gw cw re : Nat) (lv : Value) (s t : FS) : Prop where
  fx : Fl wr xb xw xe dx s
  fr : Rf wr rb gw cw re lv t
  apart : ∀ k ∈ foot xb xw xe dx, k ∉ foot rb gw re lv
  upx : ∀ k ∈ foot xb xw xe dx, W.heap.size ≤ k
  upr : ∀ k ∈ foot rb gw re lv, W.heap.size ≤ k
  k0 : Keeps [] W wr

/-- A block that neither of the two holds. -/
structure Free (wr : World) (xb xw xe : Nat) (dx : Value) (rb gw re : Nat) (lv : Value) (o : Nat) : Prop where
  lt : o < wr.heap.size
  nx : o ∉ foot xb xw xe dx
  nr : o ∉ foot rb gw re lv

variable {W wr wx : World} {xb xw xe rb gw cw re gw2 cw2 : Nat} {dx dx2 lv lv2 : Value} {s t s2 t2 : FS}

theorem Two.step0 (h : Two W wr xb xw xe dx rb gw cw re lv s t) (hk : Keeps [] wr wx) : Two W wx xb xw xe dx rb gw cw re lv s t :=
  ⟨h.fx.keep hk (by simp), h.fr.keep0 hk, h.apart, h.upx, h.upr, h.k0.trans0 hk⟩

theorem Two.stepx (h : Two W wr xb xw xe dx rb gw cw re lv s t) (hf : Fl wx xb xw xe dx2 s2) (hk : Keeps (foot xb xw xe dx) wr wx) (hn : ∀ j, dx2.ownBlock = some j → dx.ownBlock = some j ∨ wr.heap.size ≤ j) :
    Two W wx xb xw xe dx2 rb gw cw re lv s2 t := by
  have hs := h.k0.size
  refine ⟨hf, h.fr.keep hk (fun k hk2 hx => h.apart k hx hk2), ?_, ?_, h.upr, h.k0.trans hk (fun x hx => .inr (h.upx x hx))⟩
  · intro k hk2 hr
    have h1 := h.apart k
    have h2 := h.fr.lt k hr
    rw [mem_foot] at hk2 h1
    rcases hk2 with hx | hx | hx | hx
    · exact h1 (.inl hx) hr
    · exact h1 (.inr (.inl hx)) hr
    · exact h1 (.inr (.inr (.inl hx))) hr
    · rcases hn k hx with h3 | h3
      · exact h1 (.inr (.inr (.inr h3))) hr
      · omega
  · intro k hk2
    have h1 := h.upx k
    rw [mem_foot] at hk2 h1
    rcases hk2 with hx | hx | hx | hx
    · exact h1 (.inl hx)
    · exact h1 (.inr (.inl hx))
    · exact h1 (.inr (.inr (.inl hx)))
    · rcases hn k hx with h3 | h3
      · exact h1 (.inr (.inr (.inr h3)))
      · omega

theorem Two.stepr (h : Two W wr xb xw xe dx rb gw cw re lv s t) (hf : Rf wx rb gw2 cw2 re lv2 t2) (hk : Keeps (foot rb gw re lv) wr wx) (hg : gw2 = gw ∨ wr.heap.size ≤ gw2) (hn : ∀ j, lv2.ownBlock = some j → lv.ownBlock = some j ∨ wr.heap.size ≤ j) :
    Two W wx xb xw xe dx rb gw2 cw2 re lv2 s t2 := by
  have hs := h.k0.size
  refine ⟨h.fx.keep hk (fun k hk2 hx => h.apart k hk2 hx), hf, ?_, h.upx, ?_, h.k0.trans hk (fun x hx => .inr (h.upr x hx))⟩
  · intro k hx hr
    have h1 := h.apart k hx
    have h2 := h.fx.lt k hx
    rw [mem_foot] at hr h1
    rcases hr with hr | hr | hr | hr
    · exact h1 (.inl hr)
    · rcases hg with h3 | h3
      · exact h1 (.inr (.inl (hr.trans h3)))
      · omega
    · exact h1 (.inr (.inr (.inl hr)))
    · rcases hn k hr with h3 | h3
      · exact h1 (.inr (.inr (.inr h3)))
      · omega
  · intro k hr
    have h1 := h.upr k
    rw [mem_foot] at hr h1
    rcases hr with hr | hr | hr | hr
    · exact h1 (.inl hr)
    · rcases hg with h3 | h3
      · exact h1 (.inr (.inl (hr.trans h3)))
      · omega
    · exact h1 (.inr (.inr (.inl hr)))
    · rcases hn k hr with h3 | h3
      · exact h1 (.inr (.inr (.inr h3)))
      · omega

theorem Free.step {F : List Nat} {o : Nat} (h : Free wr xb xw xe dx rb gw re lv o) (hk : Keeps F wr wx) (hd : ∀ j, dx2.ownBlock = some j → dx.ownBlock = some j ∨ wr.heap.size ≤ j) (hg : gw2 = gw ∨ wr.heap.size ≤ gw2)
    (hn : ∀ j, lv2.ownBlock = some j → lv.ownBlock = some j ∨ wr.heap.size ≤ j) : Free wx xb xw xe dx2 rb gw2 re lv2 o := by
  have hs := hk.size
  have hl := h.lt
  have h1 := h.nx
  have h2 := h.nr
  rw [mem_foot] at h1 h2
  refine ⟨by omega, ?_, ?_⟩
  · rw [mem_foot]
    rintro (hx | hx | hx | hx)
    · exact h1 (.inl hx)
    · exact h1 (.inr (.inl hx))
    · exact h1 (.inr (.inr (.inl hx)))
    · rcases hd o hx with h3 | h3
      · exact h1 (.inr (.inr (.inr h3)))
      · omega
  · rw [mem_foot]
    rintro (hr | hr | hr | hr)
    · exact h2 (.inl hr)
    · rcases hg with h3 | h3
      · exact h2 (.inr (.inl (hr.trans h3)))
      · omega
    · exact h2 (.inr (.inr (.inl hr)))
    · rcases hn o hr with h3 | h3
      · exact h2 (.inr (.inr (.inr h3)))
      · omega
/-- A block that was there ahead of both is free. -/
theorem Two.old (h : Two W wr xb xw xe dx rb gw cw re lv s t) {o : Nat} (ho : o < W.heap.size) : Free wr xb xw xe dx rb gw re lv o :=
  ⟨by have := h.k0.size; omega, fun hx => by have := h.upx o hx; omega, fun hx => by have := h.upr o hx; omega⟩
/-- A block that is made behind them is free. -/
theorem Two.fresh (h : Two W wr xb xw xe dx rb gw cw re lv s t) {o : Nat} (ho : wr.heap.size ≤ o) (hl : o < wx.heap.size) : Free wx xb xw xe dx rb gw re lv o :=
  ⟨hl, fun hx => by have := h.fx.lt o hx; omega, fun hx => by have := h.fr.lt o hx; omega⟩

end Go.Proofs.Ytjebflafbkmokaa
