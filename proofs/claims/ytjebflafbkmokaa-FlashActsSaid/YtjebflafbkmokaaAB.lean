/- Two flashes side by side, with two boxes that neither holds: what each step leaves. -/
import Derived.Test.YtjebflafbkmokaaAA
namespace Go.Proofs.Ytjebflafbkmokaa
open Go.RowKit
set_option linter.unusedVariables false

/-- A block that neither flash holds, and what it holds. -/
structure Box (wr : World) (xb xw xe : Nat) (dx : Value) (rb gw re : Nat) (lv : Value) (o : Nat) (ob : Obj) : Prop where
  fr : Free wr xb xw xe dx rb gw re lv o
  bk : wr.heap[o]? = some ob

variable {W wr wx : World} {xb xw xe rb gw cw re gw2 cw2 o : Nat} {dx dx2 lv lv2 : Value} {s t s2 t2 : FS} {ob : Obj}

theorem Box.step0 (h : Box wr xb xw xe dx rb gw re lv o ob) (hk : Keeps [] wr wx) : Box wx xb xw xe dx rb gw re lv o ob :=
  ⟨h.fr.step hk (fun _ e => .inl e) (.inl rfl) (fun _ e => .inl e), hk.held h.bk (by simp)⟩
theorem Box.stepx (h : Box wr xb xw xe dx rb gw re lv o ob) (hk : Keeps (foot xb xw xe dx) wr wx) (hd : ∀ j, dx2.ownBlock = some j → dx.ownBlock = some j ∨ wr.heap.size ≤ j) : Box wx xb xw xe dx2 rb gw re lv o ob :=
  ⟨h.fr.step hk hd (.inl rfl) (fun _ e => .inl e), hk.held h.bk h.fr.nx⟩
theorem Box.stepr (h : Box wr xb xw xe dx rb gw re lv o ob) (hk : Keeps (foot rb gw re lv) wr wx) (hg : gw2 = gw ∨ wr.heap.size ≤ gw2) (hn : ∀ j, lv2.ownBlock = some j → lv.ownBlock = some j ∨ wr.heap.size ≤ j) : Box wx xb xw xe dx rb gw2 re lv2 o ob :=
  ⟨h.fr.step hk (fun _ e => .inl e) hg hn, hk.held h.bk h.fr.nr⟩

/-- Both flashes, the geometry's box (go holds it), the act's box (ab). -/
structure Tri (W wr : World) (xb xw xe : Nat) (dx : Value) (rb gw cw re : Nat) (lv : Value) (s t : FS) (gb : Nat) (go : Obj) (ab : Nat) (ao : Obj) : Prop where
  two : Two W wr xb xw xe dx rb gw cw re lv s t
  bg : Box wr xb xw xe dx rb gw re lv gb go
  ba : Box wr xb xw xe dx rb gw re lv ab ao

variable {gb ab : Nat} {go ao : Obj}

theorem Tri.step0 (h : Tri W wr xb xw xe dx rb gw cw re lv s t gb go ab ao) (hk : Keeps [] wr wx) : Tri W wx xb xw xe dx rb gw cw re lv s t gb go ab ao :=
  ⟨h.two.step0 hk, h.bg.step0 hk, h.ba.step0 hk⟩
theorem Tri.stepx (h : Tri W wr xb xw xe dx rb gw cw re lv s t gb go ab ao) (hf : Fl wx xb xw xe dx2 s2) (hk : Keeps (foot xb xw xe dx) wr wx) (hn : ∀ j, dx2.ownBlock = some j → dx.ownBlock = some j ∨ wr.heap.size ≤ j) :
    Tri W wx xb xw xe dx2 rb gw cw re lv s2 t gb go ab ao := ⟨h.two.stepx hf hk hn, h.bg.stepx hk hn, h.ba.stepx hk hn⟩
theorem Tri.stepr (h : Tri W wr xb xw xe dx rb gw cw re lv s t gb go ab ao) (hf : Rf wx rb gw2 cw2 re lv2 t2) (hk : Keeps (foot rb gw re lv) wr wx) (hg : gw2 = gw ∨ wr.heap.size ≤ gw2) (hn : ∀ j, lv2.ownBlock = some j → lv.ownBlock = some j ∨ wr.heap.size ≤ j) :
    Tri W wx xb xw xe dx rb gw2 cw2 re lv2 s t2 gb go ab ao := ⟨h.two.stepr hf hk hg hn, h.bg.stepr hk hg hn, h.ba.stepr hk hg hn⟩
/-- The act's box is made. -/
theorem Tri.start (h : Two W wr xb xw xe dx rb gw cw re lv s t) (hb : Box wr xb xw xe dx rb gw re lv gb go) (cs : Array Value) (ty : TypeId) : Tri W (wr.alloc (.cells cs ty)) xb xw xe dx rb gw cw re lv s t gb go wr.heap.size (.cells cs ty (0, 0)) :=
  ⟨h.step0 ((Keeps.refl _ _).alloc _), hb.step0 ((Keeps.refl _ _).alloc _), h.fresh (Nat.le_refl _) (by simp), heap_alloc_new _ _⟩

end Go.Proofs.Ytjebflafbkmokaa
