
/- Words keep within sixteen bits, and lose bits alone but by an erase: plain facts. -/
import Derived.Test.YtcaphgokckkmfaaLM
import Derived.Laws.BitsLemmas
namespace Go.Proofs.Ytcaphgokckkmfaa
open Go.RowKit
set_option maxRecDepth 100000
set_option linter.unusedVariables false

theorem fitB_iff {xs : List Int} : ffitB xs = true ↔ ∀ x ∈ xs, 0 ≤ x ∧ x ≤ 65535 := by
  unfold ffitB; rw [List.all_eq_true]; simp [fwithinB]
theorem bits_i64_and (a b : Nat) (ha : a < 65536) (hb : b < 65536) : bits .and .i64 (a : Int) (b : Int) = ((a &&& b : Nat) : Int) := by
  have hx : a &&& b < 65536 := Nat.lt_of_le_of_lt Nat.and_le_left ha
  have e : ∀ n : Nat, n < 65536 → (BitVec.ofInt 64 (n : Int)).toNat = n := by
    intro n hn
    rw [BitVec.ofInt_natCast, BitVec.toNat_ofNat]; exact Nat.mod_eq_of_lt (by omega)
  show IntKind.i64.wrap ((BitVec.ofInt 64 (a : Int) &&& BitVec.ofInt 64 (b : Int)).toNat : Int) = _
  rw [BitVec.toNat_and, e a ha, e b hb, IntKind.wrap_i64]
  omega
theorem bits_u64_and (a b : Nat) (ha : a < 65536) (hb : b < 65536) : bits .and .u64 (a : Int) (b : Int) = ((a &&& b : Nat) : Int) := by
  have hx : a &&& b < 65536 := Nat.lt_of_le_of_lt Nat.and_le_left ha
  have e : ∀ n : Nat, n < 65536 → (BitVec.ofInt 64 (n : Int)).toNat = n := by
    intro n hn
    rw [BitVec.ofInt_natCast, BitVec.toNat_ofNat]; exact Nat.mod_eq_of_lt (by omega)
  show IntKind.u64.wrap ((BitVec.ofInt 64 (a : Int) &&& BitVec.ofInt 64 (b : Int)).toNat : Int) = _
  rw [BitVec.toNat_and, e a ha, e b hb, IntKind.wrap_u64]
  omega

/-- A list of words: numbers of sixteen bits. -/
def W16 (xs : List Int) : Prop := ∀ i, ∃ a : Nat, xs.getD i 0 = (a : Int) ∧ a < 65536

def RawFits (r : Raw3) : Prop := r.1 = true ∨ (0 ≤ r.2.2 ∧ r.2.2 ≤ 65535)

theorem getD_set_self {xs : List Int} {k : Nat} (h : k < xs.length) (v : Int) : (xs.set k v).getD k 0 = v := by simp [List.getD, h]
theorem getD_set_ne {xs : List Int} {k i : Nat} (h : k ≠ i) (v : Int) : (xs.set k v).getD i 0 = xs.getD i 0 := by simp [List.getD, List.getElem?_set_ne h]
theorem getD_set_out {xs : List Int} {k : Nat} (h : ¬ k < xs.length) (v : Int) : xs.set k v = xs := List.set_eq_of_length_le (by omega)

theorem W16.put {s : FS} (h : W16 s.w) {r : Raw3} (hr : RawFits r) : W16 (s.put r).w := by
  intro i
  simp only [FS.put]
  by_cases hk : r.2.1.toNat < s.w.length
  · by_cases hi : r.2.1.toNat = i
    · subst hi
      rw [getD_set_self hk]
      unfold wordAfter
      by_cases h1 : r.1 = true
      · rw [if_pos h1]; exact ⟨65535, rfl, by omega⟩
      · rw [if_neg h1]
        obtain ⟨a, ha, hal⟩ := h r.2.1.toNat
        rcases hr with h2 | h2
        · exact absurd h2 h1
        · obtain ⟨v, hv⟩ := Int.eq_ofNat_of_zero_le h2.1
          rw [ha, hv, bits_i64_and a v hal (by omega)]
          exact ⟨a &&& v, rfl, Nat.lt_of_le_of_lt Nat.and_le_left hal⟩
    · rw [getD_set_ne hi]; exact h i
  · rw [getD_set_out hk]; exact h i
theorem W16.foldl {l : List Raw3} : ∀ {s : FS}, W16 s.w → (∀ r ∈ l, RawFits r) → W16 (l.foldl FS.put s).w := by
  induction l with
  | nil => intro s h _; exact h
  | cons r l ih => intro s h hl; exact ih (h.put (hl r (List.mem_cons_self ..))) (fun x hx => hl x (List.mem_cons_of_mem _ hx))
theorem W16.runL {l : List Raw3} : ∀ {s : FS}, W16 s.w → (∀ r ∈ l, RawFits r) → W16 (FS.runL s l).1.w := by
  induction l with
  | nil => intro s h _; exact h
  | cons r l ih =>
    intro s h hl
    by_cases hc : s.cut = 0
    · rw [runL_cut hc]; exact h
    · rw [runL_cons hc]; exact ih (h.put (hl r (List.mem_cons_self ..))) (fun x hx => hl x (List.mem_cons_of_mem _ hx))
theorem rawsOf_fits {xs : List Int} (h : ffitB xs = true) : ∀ {at_ : Int}, ∀ r ∈ rawsOf at_ xs, RawFits r := by
  induction xs with
  | nil => intro a r hr; simp [rawsOf] at hr
  | cons x l ih =>
    intro a r hr
    rw [fitB_iff] at h
    simp only [rawsOf, List.mem_cons] at hr
    rcases hr with rfl | hr
    · exact .inr (h x (List.mem_cons_self ..))
    · exact ih (fitB_iff.2 (fun y hy => h y (List.mem_cons_of_mem _ hy))) r hr
theorem erasesOf_fits {f : Int} {n : Nat} : ∀ r ∈ erasesOf f n, RawFits r := by
  intro r hr
  simp only [erasesOf, List.mem_map] at hr
  obtain ⟨i, _, rfl⟩ := hr
  exact .inl rfl
theorem W16.prog {s : FS} (h : W16 s.w) (a : Int) (xs : List Int) : W16 (s.prog a xs).2.w := by
  unfold FS.prog; split
  · rename_i hc
    simp only [Bool.and_eq_true] at hc
    split
    · exact h
    · exact h.runL (rawsOf_fits hc.2)
  · exact h
theorem W16.eraseP {s : FS} (h : W16 s.w) (p : Int) : W16 (s.eraseP p).2.w := by
  unfold FS.eraseP; split
  · split
    · exact h
    · exact h.runL erasesOf_fits
  · exact h
theorem rawsOf_plain {xs : List Int} : ∀ {at_ : Int}, ∀ r ∈ rawsOf at_ xs, r.1 = false := by
  induction xs with
  | nil => intro a r hr; simp [rawsOf] at hr
  | cons x l ih =>
    intro a r hr
    simp only [rawsOf, List.mem_cons] at hr
    rcases hr with rfl | hr
    · rfl
    · exact ih r hr
end Go.Proofs.Ytcaphgokckkmfaa
