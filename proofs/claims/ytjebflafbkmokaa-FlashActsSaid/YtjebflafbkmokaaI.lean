/- Slices of ints that a call made: copies, and whether two are the same. No condition but their lengths. -/
import Derived.Test.YtjebflafbkmokaaE
import Derived.Test.YtjebflafbkmokaaH
import Derived.Laws.CopyOwn
import Derived.Laws.BitsAllLaws
namespace Go.Proofs.Ytjebflafbkmokaa
open Go.RowKit
set_option linter.unusedVariables false

theorem Try.info3 : (Try.prog.info? 3).map (fun i => (i.zero, i.size, i.bytes)) = some (some (.int .i64 0), 1, 8) := by kernel_rfl

/-- Block g holds, from its head on, the ints xs, and has room for c. -/
structure Arr (w : World) (g c : Nat) (xs : List Int) : Prop where
  ex : ∃ cur : Array Value, w.heap[g]? = some (.cells cur 3 (0, 0)) ∧ cur.toList.take xs.length = xs.map (.int .i64) ∧ cur.size = c
  le : xs.length ≤ c
  cm : c ≤ maxLen

variable {w w' : World} {g c : Nat} {xs ys : List Int} {F : List Nat}

theorem Arr.lt (h : Arr w g c xs) : g < w.heap.size := by
  obtain ⟨cur, h1, _⟩ := h.ex
  exact lt_of_block h1
theorem Arr.keep (h : Arr w g c xs) (hk : Keeps F w w') (hn : g ∉ F) : Arr w' g c xs := by
  obtain ⟨cur, h1, h2⟩ := h.ex
  exact ⟨⟨cur, hk.held h1 hn, h2⟩, h.le, h.cm⟩
theorem Arr.cell (h : Arr w g c xs) {i : Nat} (hi : i < xs.length) : w.cell? ⟨g, i, none⟩ = some (.int .i64 (xs.getD i 0)) := by
  obtain ⟨cur, h1, h2, h3⟩ := h.ex
  refine cell_of_block h1 ?_
  have h4 : (cur.toList.take xs.length)[i]? = (xs.map (Value.int .i64))[i]? := by rw [h2]
  rw [List.getElem?_take, if_pos hi] at h4
  simp only [Array.getElem?_toList] at h4
  rw [h4]
  simp [List.getD, hi]
theorem Arr.frozen (h : Arr w g c xs) (i : Nat) : w.frozen? ⟨g, i, none⟩ = false := by
  obtain ⟨cur, h1, _⟩ := h.ex
  exact frozen_of_block h1 i
theorem Arr.set (h : Arr w g c xs) {i : Nat} (hi : i < xs.length) (v : Int) : Arr (w.setCell ⟨g, i, none⟩ (.int .i64 v)) g c (xs.set i v) := by
  obtain ⟨cur, h1, h2, h3⟩ := h.ex
  refine ⟨⟨_, heap_setCell_same h1 _, ?_, by simpa using h3⟩, by simpa using h.le, h.cm⟩
  rw [List.length_set, Array.toList_setIfInBounds, List.take_set, h2, List.map_set]
theorem Arr.of_own {base : Nat} {v : Value} {n : Nat} (h : w.ownsRow base 3 1 v n (xs.map (.int .i64))) (hne : v ≠ .slice none 0 0) : ∃ g c, v = .slice (some ⟨g, 0, none⟩) xs.length c ∧ base ≤ g ∧ Arr w g c xs := by
  have hn : n = xs.length := by have := h.1; simp at this; omega
  subst hn
  rcases h.2 with ⟨e, _⟩ | ⟨g, cap, cur, rfl, hb, hg, h1, h2, h3, h4⟩
  · exact absurd e hne
  · exact ⟨g, cap, rfl, hb, ⟨cur, hg, by simpa using h4, by simpa using h3⟩, h1, h2⟩

/-- What a slice value reads as: ints behind an address (or no ones). -/
def IntsAt (w : World) (a : Option Addr) (n : Nat) (xs : List Int) : Prop := n = xs.length ∧ (a = none → xs = []) ∧ ∀ b o s, a = some ⟨b, o, s⟩ → xs ≠ [] → s = none ∧ ∀ i, i < xs.length → w.cell? ⟨b, o + i, none⟩ = some (.int .i64 (xs.getD i 0))

theorem Arr.ints (h : Arr w g c xs) : IntsAt w (some ⟨g, 0, none⟩) xs.length xs := by
  refine ⟨rfl, (by simp), ?_⟩
  rintro b o s e
  injection e with e
  injection e with e1 e2 e3
  subst e1; subst e2; subst e3
  exact fun _ => ⟨rfl, fun i hi => by rw [Nat.zero_add]; exact h.cell hi⟩
theorem IntsAt.keep {a : Option Addr} {n : Nat} (h : IntsAt w a n xs) (hk : Keeps F w w') (hn : ∀ b o s, a = some ⟨b, o, s⟩ → b ∉ F) : IntsAt w' a n xs := by
  refine ⟨h.1, h.2.1, fun b o s e hne => ⟨(h.2.2 b o s e hne).1, fun i hi => ?_⟩⟩
  have hc := (h.2.2 b o s e hne).2 i hi
  exact (hk.cell (World.block_lt_of_cell? _ _ hc) (hn b o s e)).trans hc

theorem wpList_append_new {P : Program} (w : World) {ops : Array Oper} {rest : List Oper} {o : Oper} {a : Act} {Q : Exit → Act → World → Prop} (hgd : o.guard = none) (s x : Operand) (t : TypeId)
    (ho : o.op = .call { callee := .builtin .append, args := #[s, x], argTypes := #[t, t] })
    (base : Nat) (e : TypeId) (i : TypeInfo) (z : Value) (size bytes : Nat) (ht : P.underlying t = some (.slice e)) (hi : P.info? e = some i) (hz : i.zero = some z)
    (hsize : i.size = size) (hby : i.bytes = bytes) (hzs : z.cells.size = size) (hsz : 0 < size)
    (v : Value) (n : Nat) (xs : List Value) (hs : a.eval s = v) (hown : w.ownsRow base e size v n xs)
    (ad : Addr) (m c : Nat) (news : List Value) (hx : a.eval x = .slice (some ad) m c) (hl : news.length = m * size) (hnews : ∀ j u, news[j]? = some u → w.cell? (ad.add j) = some u) (h1 : ∀ u ∈ news, u.oneCell' = true)
    (h63 : n + m ≤ maxLen) (hbytes : (n + m) * bytes ≤ 140737488355328) (hbase : base ≤ w.heap.size)
    (h : ∀ v' w', w'.ownsRow base e size v' (n + m) (xs ++ news) → w.grownBy w' v.ownBlock → (v' = .slice none 0 0 ↔ v = .slice none 0 0 ∧ m = 0) → (∀ k, v'.ownBlock = some k → v.ownBlock = some k ∨ w.heap.size ≤ k) → wpList P ops Q rest (a.put o.dst v') w') :
    wpList P ops Q (o :: rest) a w := by
  refine wpList_plain hgd fun K hK => ?_
  exact wp_append_new w s x t ho base e i z size bytes ht hi hz hsize hby hzs hsz v n xs hs hown ad m c news hx hl hnews h1 h63 hbytes hbase (fun v' w' q1 q2 q3 q4 => hK _ _ (h v' w' q1 q2 q3 q4))

theorem IntsAt.news {n : Nat} {ad : Addr} (h : IntsAt w (some ad) n xs) : ∀ j u, (xs.map (Value.int .i64))[j]? = some u → w.cell? (ad.add j) = some u := by
  intro j u hu
  obtain ⟨b, o, s⟩ := ad
  have hj : j < xs.length := by have := (List.getElem?_eq_some_iff.1 hu).1; simpa using this
  obtain ⟨rfl, h2⟩ := h.2.2 b o s rfl (List.ne_nil_of_length_pos (by omega))
  have hadd : (⟨b, o, none⟩ : Addr).add j = ⟨b, o + j, none⟩ := by unfold Addr.add; split <;> simp_all
  rw [hadd, h2 j hj, ← hu]
  simp [List.getD, hj]

end Go.Proofs.Ytjebflafbkmokaa
