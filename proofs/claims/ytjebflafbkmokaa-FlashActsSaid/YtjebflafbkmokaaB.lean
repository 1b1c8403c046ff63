/- What a call leaves of memory: nothing but the named blocks, and new ones, has turned; and what a flash is in memory. No condition. -/
import Derived.Test.YtjebflafbkmokaaA
import Derived.ChangeAlike
import Derived.ChangeSame
import Derived.Deep.Draws
namespace Go.Proofs.Ytjebflafbkmokaa
open Go.RowKit Go.WideShapes Go.ChangeShapes

/-- Of what was there only the blocks F have turned. -/
structure Keeps (F : List Nat) (w w' : World) : Prop where
  os : w'.os = w.os
  output : w'.output = w.output
  size : w.heap.size ≤ w'.heap.size
  block : ∀ k, k < w.heap.size → k ∉ F → w'.heap[k]? = w.heap[k]?

variable {F G : List Nat} {a b c w w' : World}

theorem Keeps.refl (F : List Nat) (w : World) : Keeps F w w := ⟨rfl, rfl, Nat.le_refl _, fun _ _ _ => rfl⟩

theorem Keeps.trans (h : Keeps F a b) (k : Keeps G b c) (hG : ∀ x ∈ G, x ∈ F ∨ a.heap.size ≤ x) : Keeps F a c :=
  ⟨k.os.trans h.os, k.output.trans h.output, Nat.le_trans h.size k.size, fun i hi hn =>
    (k.block i (Nat.lt_of_lt_of_le hi h.size) (fun hg => by rcases hG i hg with h1 | h1; exact hn h1; omega)).trans (h.block i hi hn)⟩

theorem Keeps.trans0 (h : Keeps F a b) (k : Keeps [] b c) : Keeps F a c := h.trans k (by simp)

theorem Keeps.mono (h : Keeps F a b) (hG : ∀ x ∈ F, x ∈ G ∨ a.heap.size ≤ x) : Keeps G a b :=
  ⟨h.os, h.output, h.size, fun i hi hn => h.block i hi (fun hf => by rcases hG i hf with h1 | h1; exact hn h1; omega)⟩

theorem Keeps.alloc (h : Keeps F a w) (o : Obj) : Keeps F a (w.alloc o) :=
  ⟨h.os, h.output, Nat.le_trans h.size (by simp), fun i hi hn => (Below.heap_alloc w o i (Nat.lt_of_lt_of_le hi h.size)).trans (h.block i hi hn)⟩

theorem Keeps.setCell (h : Keeps F a w) {p : Addr} (hp : p.block ∈ F ∨ a.heap.size ≤ p.block) (u : Value) : Keeps F a (w.setCell p u) :=
  ⟨h.os, h.output, by simpa using h.size, fun i hi hn => (Below.heap_setCell w p u i (by
    rintro rfl
    rcases hp with hp | hp
    · exact hn hp
    · omega)).trans (h.block i hi hn)⟩

theorem Keeps.drew (h : Keeps F a w) : Keeps F a w.drew := ⟨h.os, h.output, h.size, h.block⟩
theorem Keeps.drewN (h : Keeps F a w) (n : Nat) : Keeps F a (w.drewN n) := ⟨h.os, h.output, h.size, h.block⟩
theorem Keeps.grown (h : Keeps F a w) {row : Option Nat} (hg : w.grownBy w' row) (hr : ∀ k, row = some k → k ∈ F ∨ a.heap.size ≤ k) : Keeps F a w' :=
  ⟨hg.os.trans h.os, hg.output.trans h.output, Nat.le_trans h.size hg.size, fun i hi hn =>
    (hg.block i (Nat.lt_of_lt_of_le hi h.size) (fun e => by rcases hr i e.symm with h1 | h1; exact hn h1; omega)).trans (h.block i hi hn)⟩
theorem Keeps.alike (h : Keeps F a w) (hg : w'.Alike w) : Keeps F a w' := by
  obtain ⟨g1, g2, g3⟩ := hg
  exact ⟨g2.trans h.os, g3.trans h.output, by rw [g1]; exact h.size, by rw [g1]; exact h.block⟩
theorem Keeps.of_below (h : Below w.heap.size w w') : Keeps F w w' := ⟨h.os, h.output, h.size, fun i hi _ => h.block i hi⟩
theorem Keeps.cell (h : Keeps F w w') {p : Addr} (hp : p.block < w.heap.size) (hn : p.block ∉ F) : w'.cell? p = w.cell? p := World.cell?_of_block (w := w) (h.block p.block hp hn)
theorem Keeps.frozen (h : Keeps F w w') {p : Addr} (hp : p.block < w.heap.size) (hn : p.block ∉ F) : w'.frozen? p = w.frozen? p := World.frozen?_of_block (w := w) (h.block p.block hp hn)

theorem lt_of_block {w : World} {k : Nat} {o : Obj} (h : w.heap[k]? = some o) : k < w.heap.size := (Array.getElem?_eq_some_iff.1 h).1

/-- A block that is held stays, where it is none of those that turn. -/
theorem Keeps.held (h : Keeps F w w') {k : Nat} {o : Obj} (hk : w.heap[k]? = some o) (hn : k ∉ F) : w'.heap[k]? = some o :=
  (h.block k (lt_of_block hk) hn).trans hk

theorem heap_setCell_same {w : World} {k o : Nat} {x : Array Value} {t : TypeId} {fr : Nat × Nat} (h : w.heap[k]? = some (.cells x t fr)) (u : Value) :
    (w.setCell ⟨k, o, none⟩ u).heap[k]? = some (.cells (x.setIfInBounds o u) t fr) := by
  simp [World.setCell, Array.getElem?_modify, h]
theorem heap_setCell_other {w : World} {p : Addr} {k : Nat} (hne : k ≠ p.block) (u : Value) : (w.setCell p u).heap[k]? = w.heap[k]? := Below.heap_setCell _ _ _ _ hne
theorem heap_alloc_held {w : World} {k : Nat} {o : Obj} (h : w.heap[k]? = some o) (o' : Obj) : (w.alloc o').heap[k]? = some o :=
  (Below.heap_alloc w o' k (lt_of_block h)).trans h

theorem cell_of_block {w : World} {k o : Nat} {x : Array Value} {t : TypeId} {fr : Nat × Nat} {v : Value} (h : w.heap[k]? = some (.cells x t fr)) (hv : x[o]? = some v) : w.cell? ⟨k, o, none⟩ = some v := by
  simp [World.cell?, h, hv]
theorem frozen_of_block {w : World} {k : Nat} {x : Array Value} {t : TypeId} (h : w.heap[k]? = some (.cells x t (0, 0))) (o : Nat) : w.frozen? ⟨k, o, none⟩ = false := by
  simp [World.frozen?, h]

theorem ownsRow_keep {base : Nat} {e : TypeId} {size : Nat} {v : Value} {n : Nat} {xs : List Value} (h : w.ownsRow base e size v n xs) (hk : Keeps F w w') (hn : ∀ k, v.ownBlock = some k → k ∉ F) : w'.ownsRow base e size v n xs := by
  refine ⟨h.1, ?_⟩
  rcases h.2 with h2 | ⟨g, cap, cur, rfl, hb, hg, r⟩
  · exact .inl h2
  · exact .inr ⟨g, cap, cur, rfl, hb, hk.held hg (hn g rfl), r⟩

/-! ### A flash in memory -/

abbrev Raw3 := Bool × Int × Int
def rawCells (l : List Raw3) : List Value := l.flatMap fun r => [Value.bool r.1, .int .i64 r.2.1, .int .i64 r.2.2]
def ints (l : List Int) : Array Value := (l.map (Value.int .i64)).toArray

structure FS where
  w : List Int
  g : Int
  p : Int
  n : Int
  cut : Int
  off : Bool
  done : List Raw3
  er : List Int

def flCells (s : FS) (bw be : Nat) (dv : Value) : Array Value :=
  #[.slice (some ⟨bw, 0, none⟩) s.w.length s.w.length, .int .i64 s.g, .int .i64 s.p, .int .i64 s.n, .int .i64 s.cut, .bool s.off, dv, .slice (some ⟨be, 0, none⟩) s.er.length s.er.length]

structure Fl (w : World) (b bw be : Nat) (dv : Value) (s : FS) : Prop where
  hb : w.heap[b]? = some (.cells (flCells s bw be dv) 69 (0, 0))
  hw : w.heap[bw]? = some (.cells (ints s.w) 3 (0, 0))
  he : w.heap[be]? = some (.cells (ints s.er) 3 (0, 0))
  hd : w.ownsRow 0 63 3 dv s.done.length (rawCells s.done)
  n1 : b ≠ bw
  n2 : b ≠ be
  n3 : bw ≠ be
  nd : ∀ k, dv.ownBlock = some k → k ≠ b ∧ k ≠ bw ∧ k ≠ be

def foot (b bw be : Nat) (dv : Value) : List Nat := b :: bw :: be :: dv.ownBlock.toList

theorem Fl.keep {b bw be : Nat} {dv : Value} {s : FS} (h : Fl w b bw be dv s) (hk : Keeps F w w') (hn : ∀ k ∈ foot b bw be dv, k ∉ F) : Fl w' b bw be dv s :=
  ⟨hk.held h.hb (hn _ (by simp [foot])), hk.held h.hw (hn _ (by simp [foot])), hk.held h.he (hn _ (by simp [foot])),
    ownsRow_keep h.hd hk (fun k e => hn k (by simp [foot, e])), h.n1, h.n2, h.n3, h.nd⟩

theorem Fl.lt {b bw be : Nat} {dv : Value} {s : FS} (h : Fl w b bw be dv s) : ∀ k ∈ foot b bw be dv, k < w.heap.size := by
  intro k hk
  simp only [foot, List.mem_cons, Option.mem_toList] at hk
  rcases hk with rfl | rfl | rfl | hk
  · exact lt_of_block h.hb
  · exact lt_of_block h.hw
  · exact lt_of_block h.he
  · exact (h.hd.lt k hk).2

theorem length_rawCells (l : List Raw3) : (rawCells l).length = l.length * 3 := by
  induction l with
  | nil => rfl
  | cons x l ih => simp only [rawCells, List.flatMap_cons, List.length_append, List.length_cons, List.length_nil] at ih ⊢; omega

theorem ints_get {l : List Int} {i : Nat} (h : i < l.length) : (ints l)[i]? = some (.int .i64 (l.getD i 0)) := by
  simp [ints, List.getD, h]
theorem ints_set (l : List Int) (i : Nat) (v : Int) : (ints l).setIfInBounds i (.int .i64 v) = ints (l.set i v) := by
  simp [ints, List.map_set]

end Go.Proofs.Ytjebflafbkmokaa
