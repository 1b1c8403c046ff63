
/- What a call leaves of memory: nothing but the named blocks, and new ones, has turned; and what a flash is in memory. No condition. -/
import Derived.Test.YtcaphgokckkmfaaLA
import Derived.Test.YtcaphgokckkmfaaKp
import Derived.ChangeAlike
import Derived.ChangeSame
import Derived.Deep.Draws
namespace Go.Proofs.Ytcaphgokckkmfaa
open Go.RowKit Go.WideShapes Go.ChangeShapes
set_option maxRecDepth 100000

variable {F G : List Nat} {a b c w w' : World}

/-! ### A flash in memory -/

abbrev Raw3 := Bool × Int × Int
def rawCells (l : List Raw3) : List Value := l.flatMap fun r => [Value.bool r.1, .int .i64 r.2.1, .int .i64 r.2.2]
structure FS where
  w : List Int
  g : Int
  p : Int
  n : Int
  cut : Int
  off : Bool
  done : List Raw3
  er : List Int

def flCells (s : FS) (bw be : Nat) (dv : Value) : Array Value :=
  #[.slice (some ⟨bw, 0, none⟩) s.w.length s.w.length, .int .i64 s.g, .int .i64 s.p, .int .i64 s.n, .int .i64 s.cut, .bool s.off, dv, .slice (some ⟨be, 0, none⟩) s.er.length s.er.length]

structure Fl (w : World) (b bw be : Nat) (dv : Value) (s : FS) : Prop where
  hb : w.heap[b]? = some (.cells (flCells s bw be dv) 74 (0, 0))
  hw : w.heap[bw]? = some (.cells (ints s.w) 3 (0, 0))
  he : w.heap[be]? = some (.cells (ints s.er) 3 (0, 0))
  hd : w.ownsRow 0 80 3 dv s.done.length (rawCells s.done)
  n1 : b ≠ bw
  n2 : b ≠ be
  n3 : bw ≠ be
  nd : ∀ k, dv.ownBlock = some k → k ≠ b ∧ k ≠ bw ∧ k ≠ be

def foot (b bw be : Nat) (dv : Value) : List Nat := b :: bw :: be :: dv.ownBlock.toList

theorem Fl.keep {b bw be : Nat} {dv : Value} {s : FS} (h : Fl w b bw be dv s) (hk : Keeps F w w') (hn : ∀ k ∈ foot b bw be dv, k ∉ F) : Fl w' b bw be dv s :=
  ⟨hk.held h.hb (hn _ (by simp [foot])), hk.held h.hw (hn _ (by simp [foot])), hk.held h.he (hn _ (by simp [foot])),
    ownsRow_keep h.hd hk (fun k e => hn k (by simp [foot, e])), h.n1, h.n2, h.n3, h.nd⟩

theorem Fl.lt {b bw be : Nat} {dv : Value} {s : FS} (h : Fl w b bw be dv s) : ∀ k ∈ foot b bw be dv, k < w.heap.size := by
  intro k hk
  simp only [foot, List.mem_cons, Option.mem_toList] at hk
  rcases hk with rfl | rfl | rfl | hk
  · exact lt_of_block h.hb
  · exact lt_of_block h.hw
  · exact lt_of_block h.he
  · exact (h.hd.lt k hk).2

theorem length_rawCells (l : List Raw3) : (rawCells l).length = l.length * 3 := by
  induction l with
  | nil => rfl
  | cons x l ih => simp only [rawCells, List.flatMap_cons, List.length_append, List.length_cons, List.length_nil] at ih ⊢; omega

end Go.Proofs.Ytcaphgokckkmfaa
