
/- Appends: where what they hand back lies; slices of ints that a call made. No condition but their lengths. -/
import Derived.Test.YtcaphgokckkmfaaKp
import Derived.Deep.DeepCutAuto
import Derived.Deep.RegionLaw
import Derived.StillTailTactics
import Derived.Laws.CopyOwn
import Derived.Laws.BitsAllLaws
namespace Go.Proofs.Ytcaphgokckkmfaa
open Go.RowKit
set_option maxRecDepth 100000
set_option linter.unusedVariables false

/-- What append hands back lies where it lay, or in a new block. -/
theorem append_where {P : Program} (w : World) (base : Nat) (t ty e : TypeId) (i : TypeInfo) (z : Value) (ht : P.underlying t = some (.slice e)) (hi : P.info? e = some i) (hz : i.zero = some z)
    (v : Value) (n : Nat) (xs : List Value) (hown : w.ownsRow base e i.size v n xs)
    (a : Addr) (m c : Nat) (news : List Value) (hl : news.length = m * i.size) (hnews : ∀ j u, news[j]? = some u → w.cell? (a.add j) = some u) (h1 : ∀ u ∈ news, u.oneCell' = true)
    (h63 : n + m ≤ maxLen) (hbytes : (n + m) * i.bytes ≤ 140737488355328) {v' : Value} {w' : World} (hr : (Builtin.append_ #[t, t] ty #[v, .slice (some a) m c]).run P w = .ok v' w')
    (hnil : v' = .slice none 0 0 ↔ v = .slice none 0 0 ∧ m = 0) : ∀ k, v'.ownBlock = some k → v.ownBlock = some k ∨ w.heap.size ≤ k := by
  have hsmall : n + m ≤ 9223372036854775807 := by simp only [maxLen] at h63; omega
  rcases hown.2 with ⟨rfl, rfl⟩ | ⟨g, cap, cur, rfl, hbg, hg, hnc, hcm, hcs, htake⟩
  · intro k hk
    by_cases hm : m = 0
    · rw [hnil.2 ⟨rfl, hm⟩] at hk; simp [Value.ownBlock] at hk
    · have hr2 := run_append_nil (P := P) w t ty e i z ht hi hz a m c news hl hnews (by omega) (by omega) (by have hb := hbytes; simp only [Nat.zero_add] at hb; omega)
      rw [hr] at hr2
      injection hr2 with e1 e2
      subst e1
      simp [Value.ownBlock] at hk
      right; omega
  · intro k hk
    by_cases hroom : n + m ≤ cap
    · have hr2 := run_append_room (P := P) w t ty e i ht hi g n cap cur hg a m c news hl hnews h1 hroom (by rw [hl, hcs, ← Nat.add_mul]; exact Nat.mul_le_mul_right _ hroom)
      rw [hr] at hr2
      injection hr2 with e1 e2
      subst e1
      left; exact hk
    · have holds : ∀ j u, xs[j]? = some u → w.cell? ((⟨g, 0, none⟩ : Addr).add j) = some u := hown.cells (g := g) rfl
      have hr2 := run_append_grow (P := P) w t ty e i z ht hi hz ⟨g, 0, none⟩ n cap xs hown.1 holds a m c news hl hnews (by omega) (by omega) (growslice_fits (by omega) hbytes)
      rw [hr] at hr2
      injection hr2 with e1 e2
      subst e1
      simp [Value.ownBlock] at hk
      right; omega

theorem wp_append_new {P : Program} (w : World) {o : Oper} {a : Act} {K : Act → World → Prop} {Q : Exit → Act → World → Prop} (s x : Operand) (t : TypeId)
    (ho : o.op = .call { callee := .builtin .append, args := #[s, x], argTypes := #[t, t] })
    (base : Nat) (e : TypeId) (i : TypeInfo) (z : Value) (size bytes : Nat) (ht : P.underlying t = some (.slice e)) (hi : P.info? e = some i) (hz : i.zero = some z)
    (hsize : i.size = size) (hby : i.bytes = bytes) (hzs : z.cells.size = size) (hsz : 0 < size)
    (v : Value) (n : Nat) (xs : List Value) (hs : a.eval s = v) (hown : w.ownsRow base e size v n xs)
    (ad : Addr) (m c : Nat) (news : List Value) (hx : a.eval x = .slice (some ad) m c) (hl : news.length = m * size) (hnews : ∀ j u, news[j]? = some u → w.cell? (ad.add j) = some u) (h1 : ∀ u ∈ news, u.oneCell' = true)
    (h63 : n + m ≤ maxLen) (hbytes : (n + m) * bytes ≤ 140737488355328) (hbase : base ≤ w.heap.size)
    (h : ∀ v' w', w'.ownsRow base e size v' (n + m) (xs ++ news) → w.grownBy w' v.ownBlock → (v' = .slice none 0 0 ↔ v = .slice none 0 0 ∧ m = 0) → (∀ k, v'.ownBlock = some k → v.ownBlock = some k ∨ w.heap.size ≤ k) → K (a.put o.dst v') w') : o.wp P a w K Q := by
  obtain ⟨v', w', hr, h2, h3, h4⟩ := run_append_own (P := P) w base t o.type e i z size bytes ht hi hz hsize hby hzs hsz v n xs hown ad m c news hl hnews h1 h63 hbytes hbase
  subst hsize
  subst hby
  have h5 := append_where w base t o.type e i z ht hi hz v n xs hown ad m c news hl hnews h1 h63 hbytes hr h4
  unfold Oper.wp execOp
  simp only [ho, resolve, invoke, builtin, Sem.run_bind, Sem.run_pure, Result.andThen_ok, List.map_toArray, List.map_cons, List.map_nil, hs, hx, hr]
  exact h v' w' h2 h3 h4 h5

theorem step_append_new {P : Program} {ops : Array Oper} {w : World} {o : Oper} {a : Act} {K : Act → World → Prop} {Q : Exit → Act → World → Prop} {E : Prop} (hg : o.guard = none) (s x : Operand) (t : TypeId)
    (ho : o.op = .call { callee := .builtin .append, args := #[s, x], argTypes := #[t, t] })
    (base : Nat) (e : TypeId) (i : TypeInfo) (z : Value) (size bytes : Nat) (ht : P.underlying t = some (.slice e)) (hi : P.info? e = some i) (hz : i.zero = some z)
    (hsize : i.size = size) (hby : i.bytes = bytes) (hzs : z.cells.size = size) (hsz : 0 < size)
    (v : Value) (n : Nat) (xs : List Value) (hs : a.eval s = v) (hown : w.ownsRow base e size v n xs)
    (ad : Addr) (m c : Nat) (news : List Value) (hx : a.eval x = .slice (some ad) m c) (hl : news.length = m * size) (hnews : ∀ j u, news[j]? = some u → w.cell? (ad.add j) = some u) (h1 : ∀ u ∈ news, u.oneCell' = true)
    (h63 : n + m ≤ maxLen) (hbytes : (n + m) * bytes ≤ 140737488355328) (hbase : base ≤ w.heap.size)
    (h : ∀ v' w', w'.ownsRow base e size v' (n + m) (xs ++ news) → w.grownBy w' v.ownBlock → (v' = .slice none 0 0 ↔ v = .slice none 0 0 ∧ m = 0) → (∀ k, v'.ownBlock = some k → v.ownBlock = some k ∨ w.heap.size ≤ k) → K (a.put o.dst v') w') :
    if Region.wanted o (yielded ops a.tmps) = true then Oper.wp P o a w K Q else E := by
  have hw : Region.wanted o (yielded ops a.tmps) = true := by simp [Region.wanted, hg]
  rw [if_pos hw]
  exact wp_append_new w s x t ho base e i z size bytes ht hi hz hsize hby hzs hsz v n xs hs hown ad m c news hx hl hnews h1 h63 hbytes hbase h

theorem Try.info3 : (Try.prog.info? 3).map (fun i => (i.zero, i.size, i.bytes)) = some (some (.int .i64 0), 1, 8) := by kernel_rfl

/-- Block g holds, from its head on, the ints xs, and has room for c. -/
structure Arr (w : World) (g c : Nat) (xs : List Int) : Prop where
  ex : ∃ cur : Array Value, w.heap[g]? = some (.cells cur 3 (0, 0)) ∧ cur.toList.take xs.length = xs.map (.int .i64) ∧ cur.size = c
  le : xs.length ≤ c
  cm : c ≤ maxLen

variable {w w' : World} {g c : Nat} {xs ys : List Int} {F : List Nat}

theorem Arr.lt (h : Arr w g c xs) : g < w.heap.size := by
  obtain ⟨cur, h1, _⟩ := h.ex
  exact lt_of_block h1
theorem Arr.keep (h : Arr w g c xs) (hk : Keeps F w w') (hn : g ∉ F) : Arr w' g c xs := by
  obtain ⟨cur, h1, h2⟩ := h.ex
  exact ⟨⟨cur, hk.held h1 hn, h2⟩, h.le, h.cm⟩
theorem Arr.cell (h : Arr w g c xs) {i : Nat} (hi : i < xs.length) : w.cell? ⟨g, i, none⟩ = some (.int .i64 (xs.getD i 0)) := by
  obtain ⟨cur, h1, h2, h3⟩ := h.ex
  refine cell_of_block h1 ?_
  have h4 : (cur.toList.take xs.length)[i]? = (xs.map (Value.int .i64))[i]? := by rw [h2]
  rw [List.getElem?_take, if_pos hi] at h4
  simp only [Array.getElem?_toList] at h4
  rw [h4]
  simp [List.getD, hi]
theorem Arr.frozen (h : Arr w g c xs) (i : Nat) : w.frozen? ⟨g, i, none⟩ = false := by
  obtain ⟨cur, h1, _⟩ := h.ex
  exact frozen_of_block h1 i
theorem Arr.set (h : Arr w g c xs) {i : Nat} (hi : i < xs.length) (v : Int) : Arr (w.setCell ⟨g, i, none⟩ (.int .i64 v)) g c (xs.set i v) := by
  obtain ⟨cur, h1, h2, h3⟩ := h.ex
  refine ⟨⟨_, heap_setCell_same h1 _, ?_, by simpa using h3⟩, by simpa using h.le, h.cm⟩
  rw [List.length_set, Array.toList_setIfInBounds, List.take_set, h2, List.map_set]
theorem Arr.of_own {base : Nat} {v : Value} {n : Nat} (h : w.ownsRow base 3 1 v n (xs.map (.int .i64))) (hne : v ≠ .slice none 0 0) : ∃ g c, v = .slice (some ⟨g, 0, none⟩) xs.length c ∧ base ≤ g ∧ Arr w g c xs := by
  have hn : n = xs.length := by have := h.1; simp at this; omega
  subst hn
  rcases h.2 with ⟨e, _⟩ | ⟨g, cap, cur, rfl, hb, hg, h1, h2, h3, h4⟩
  · exact absurd e hne
  · exact ⟨g, cap, rfl, hb, ⟨cur, hg, by simpa using h4, by simpa using h3⟩, h1, h2⟩

/-- What a slice value reads as: ints behind an address (or no ones). -/
def IntsAt (w : World) (a : Option Addr) (n : Nat) (xs : List Int) : Prop := n = xs.length ∧ (a = none → xs = []) ∧ ∀ b o s, a = some ⟨b, o, s⟩ → xs ≠ [] → s = none ∧ ∀ i, i < xs.length → w.cell? ⟨b, o + i, none⟩ = some (.int .i64 (xs.getD i 0))

theorem Arr.ints (h : Arr w g c xs) : IntsAt w (some ⟨g, 0, none⟩) xs.length xs := by
  refine ⟨rfl, (by simp), ?_⟩
  rintro b o s e
  injection e with e
  injection e with e1 e2 e3
  subst e1; subst e2; subst e3
  exact fun _ => ⟨rfl, fun i hi => by rw [Nat.zero_add]; exact h.cell hi⟩
theorem IntsAt.keep {a : Option Addr} {n : Nat} (h : IntsAt w a n xs) (hk : Keeps F w w') (hn : ∀ b o s, a = some ⟨b, o, s⟩ → b ∉ F) : IntsAt w' a n xs := by
  refine ⟨h.1, h.2.1, fun b o s e hne => ⟨(h.2.2 b o s e hne).1, fun i hi => ?_⟩⟩
  have hc := (h.2.2 b o s e hne).2 i hi
  exact (hk.cell (World.block_lt_of_cell? _ _ hc) (hn b o s e)).trans hc

theorem wpList_append_new {P : Program} (w : World) {ops : Array Oper} {rest : List Oper} {o : Oper} {a : Act} {Q : Exit → Act → World → Prop} (hgd : o.guard = none) (s x : Operand) (t : TypeId)
    (ho : o.op = .call { callee := .builtin .append, args := #[s, x], argTypes := #[t, t] })
    (base : Nat) (e : TypeId) (i : TypeInfo) (z : Value) (size bytes : Nat) (ht : P.underlying t = some (.slice e)) (hi : P.info? e = some i) (hz : i.zero = some z)
    (hsize : i.size = size) (hby : i.bytes = bytes) (hzs : z.cells.size = size) (hsz : 0 < size)
    (v : Value) (n : Nat) (xs : List Value) (hs : a.eval s = v) (hown : w.ownsRow base e size v n xs)
    (ad : Addr) (m c : Nat) (news : List Value) (hx : a.eval x = .slice (some ad) m c) (hl : news.length = m * size) (hnews : ∀ j u, news[j]? = some u → w.cell? (ad.add j) = some u) (h1 : ∀ u ∈ news, u.oneCell' = true)
    (h63 : n + m ≤ maxLen) (hbytes : (n + m) * bytes ≤ 140737488355328) (hbase : base ≤ w.heap.size)
    (h : ∀ v' w', w'.ownsRow base e size v' (n + m) (xs ++ news) → w.grownBy w' v.ownBlock → (v' = .slice none 0 0 ↔ v = .slice none 0 0 ∧ m = 0) → (∀ k, v'.ownBlock = some k → v.ownBlock = some k ∨ w.heap.size ≤ k) → wpList P ops Q rest (a.put o.dst v') w') :
    wpList P ops Q (o :: rest) a w := by
  refine wpList_plain hgd fun K hK => ?_
  exact wp_append_new w s x t ho base e i z size bytes ht hi hz hsize hby hzs hsz v n xs hs hown ad m c news hx hl hnews h1 h63 hbytes hbase (fun v' w' q1 q2 q3 q4 => hK _ _ (h v' w' q1 q2 q3 q4))

/-- .. of one that stands behind a guard. -/
theorem wpList_append_guarded {P : Program} (w : World) {ops : Array Oper} {rest : List Oper} {o : Oper} {a : Act} {Q : Exit → Act → World → Prop} (hgd : Region.wanted o (yielded ops a.tmps) = true) (s x : Operand) (t : TypeId)
    (ho : o.op = .call { callee := .builtin .append, args := #[s, x], argTypes := #[t, t] })
    (base : Nat) (e : TypeId) (i : TypeInfo) (z : Value) (size bytes : Nat) (ht : P.underlying t = some (.slice e)) (hi : P.info? e = some i) (hz : i.zero = some z)
    (hsize : i.size = size) (hby : i.bytes = bytes) (hzs : z.cells.size = size) (hsz : 0 < size)
    (v : Value) (n : Nat) (xs : List Value) (hs : a.eval s = v) (hown : w.ownsRow base e size v n xs)
    (ad : Addr) (m c : Nat) (news : List Value) (hx : a.eval x = .slice (some ad) m c) (hl : news.length = m * size) (hnews : ∀ j u, news[j]? = some u → w.cell? (ad.add j) = some u) (h1 : ∀ u ∈ news, u.oneCell' = true)
    (h63 : n + m ≤ maxLen) (hbytes : (n + m) * bytes ≤ 140737488355328) (hbase : base ≤ w.heap.size)
    (h : ∀ v' w', w'.ownsRow base e size v' (n + m) (xs ++ news) → w.grownBy w' v.ownBlock → (v' = .slice none 0 0 ↔ v = .slice none 0 0 ∧ m = 0) → (∀ k, v'.ownBlock = some k → v.ownBlock = some k ∨ w.heap.size ≤ k) → wpList P ops Q rest (a.put o.dst v') w') :
    wpList P ops Q (o :: rest) a w := by
  refine wpList_step fun K hK => ?_
  rw [if_pos hgd]
  exact wp_append_new w s x t ho base e i z size bytes ht hi hz hsize hby hzs hsz v n xs hs hown ad m c news hx hl hnews h1 h63 hbytes hbase (fun v' w' q1 q2 q3 q4 => hK _ _ (h v' w' q1 q2 q3 q4))

theorem IntsAt.news {n : Nat} {ad : Addr} (h : IntsAt w (some ad) n xs) : ∀ j u, (xs.map (Value.int .i64))[j]? = some u → w.cell? (ad.add j) = some u := by
  intro j u hu
  obtain ⟨b, o, s⟩ := ad
  have hj : j < xs.length := by have := (List.getElem?_eq_some_iff.1 hu).1; simpa using this
  obtain ⟨rfl, h2⟩ := h.2.2 b o s rfl (List.ne_nil_of_length_pos (by omega))
  have hadd : (⟨b, o, none⟩ : Addr).add j = ⟨b, o + j, none⟩ := by unfold Addr.add; split <;> simp_all
  rw [hadd, h2 j hj, ← hu]
  simp [List.getD, hj]

theorem IntsAt.take {a : Option Addr} {n k : Nat} (h : IntsAt w a n xs) (hk : k ≤ n) : IntsAt w a k (xs.take k) := by
  obtain ⟨rfl, h1, h2⟩ := h
  refine ⟨by simp; omega, fun e => by rw [h1 e]; simp, fun b o s e hne => ?_⟩
  have hne2 : xs ≠ [] := fun h => hne (by rw [h]; simp)
  refine ⟨(h2 b o s e hne2).1, fun i hi => ?_⟩
  have hi2 : i < k := by simp at hi; omega
  rw [(h2 b o s e hne2).2 i (by omega)]
  simp [List.getD, hi2]
/-- Behind its first k: where there is room behind, the address moves. -/
theorem IntsAt.drop {b o : Nat} {n k : Nat} (h : IntsAt w (some ⟨b, o, none⟩) n xs) (hk : k ≤ n) : IntsAt w (some ⟨b, o + k, none⟩) (n - k) (xs.drop k) := by
  obtain ⟨rfl, h1, h2⟩ := h
  refine ⟨by simp, (by simp), ?_⟩
  rintro b' o' s e hne
  injection e with e
  injection e with e1 e2 e3
  subst e1; subst e2; subst e3
  have hne2 : xs ≠ [] := fun h => hne (by rw [h]; simp)
  refine ⟨rfl, fun i hi => ?_⟩
  have hi2 : k + i < xs.length := by simp at hi; omega
  rw [Nat.add_assoc, (h2 b o none rfl hne2).2 (k + i) hi2]
  simp [List.getD]
theorem IntsAt.drop_map {a : Option Addr} {n k : Nat} (h : IntsAt w a n xs) (hk : k ≤ n) : IntsAt w (a.map (fun x => x.add k)) (n - k) (xs.drop k) := by
  rcases a with _ | ⟨b, o, s⟩
  · have h1 := h.2.1 rfl
    subst h1
    have h2 : n = 0 := h.1
    subst h2
    exact ⟨by simp, fun _ => by simp, by simp⟩
  · by_cases hne : xs = []
    · subst hne
      have h2 : n = 0 := h.1
      subst h2
      exact ⟨by simp, by simp, fun b o s _ hn => absurd (by simp) hn⟩
    · obtain ⟨rfl, _⟩ := h.2.2 b o s rfl hne
      have h3 := h.drop hk
      have e : (⟨b, o, none⟩ : Addr).add k = ⟨b, o + k, none⟩ := by unfold Addr.add; split <;> simp_all
      rw [Option.map_some, e]
      exact h3
theorem IntsAt.nil (a : Option Addr) : IntsAt w a 0 [] := ⟨rfl, fun _ => rfl, fun b o s e hne => absurd rfl hne⟩

theorem Arr.own {base : Nat} (h : Arr w g c xs) (hb : base ≤ g) (n : Nat) (hn : n = xs.length) : w.ownsRow base 3 1 (.slice (some ⟨g, 0, none⟩) n c) n (xs.map (.int .i64)) := by
  subst hn
  obtain ⟨cur, h1, h2, h3⟩ := h.ex
  exact ⟨by simp, .inr ⟨g, c, cur, rfl, hb, h1, h.le, h.cm, by simpa using h3, by simpa using h2⟩⟩
theorem IntsAt.keep0 {a : Option Addr} {n : Nat} (h : IntsAt w a n xs) (hk : Keeps [] w w') : IntsAt w' a n xs := h.keep hk (fun _ _ _ _ => by simp)
theorem cell_one_new (w : World) (x : Value) (t : TypeId) : ∀ j u, ([x] : List Value)[j]? = some u → (w.alloc (.cells #[x] t)).cell? ((⟨w.heap.size, 0, none⟩ : Addr).add j) = some u := by
  intro j u hu
  have hadd : (⟨w.heap.size, 0, none⟩ : Addr).add j = ⟨w.heap.size, j, none⟩ := by unfold Addr.add; split <;> simp_all
  rw [hadd, World.cell?_alloc_new]
  simpa using hu

/-- Numbers just laid down. -/
theorem ints_new (w : World) (l : List Int) (x : Array Value) (hx : x = ints l) (t : TypeId) : IntsAt (w.alloc (.cells x t)) (some ⟨w.heap.size, 0, none⟩) l.length l := by
  subst hx
  refine ⟨rfl, (by simp), ?_⟩
  rintro b o s' e
  injection e with e
  injection e with e1 e2 e3
  subst e1; subst e2; subst e3
  refine fun _ => ⟨rfl, fun i hi => ?_⟩
  rw [Nat.zero_add, World.cell?_alloc_new]
  exact ints_get hi

end Go.Proofs.Ytcaphgokckkmfaa
