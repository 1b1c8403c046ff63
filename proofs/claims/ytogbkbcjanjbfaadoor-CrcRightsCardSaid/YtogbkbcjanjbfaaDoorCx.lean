/- What differs within sixteen bits has another sum: plain facts. -/
import Derived.Test.YtogbkbcjanjbfaaDoorCw
namespace Go.Proofs.YtogbkbcjanjbfaaDoor
open Go.RowKit
set_option linter.unusedVariables false

theorem split2 (ys : List Int) (k : Nat) (h : k + 1 < ys.length) : ∃ P u v Q, ys = P ++ u :: v :: Q ∧ P.length = k := by
  refine ⟨ys.take k, ys[k], ys[k + 1], ys.drop (k + 2), ?_, by simp; omega⟩
  rw [← List.drop_eq_getElem_cons, ← List.drop_eq_getElem_cons, List.take_append_drop]
theorem split1 (ys : List Int) (k : Nat) (h : k < ys.length) : ∃ P u Q, ys = P ++ u :: Q ∧ P.length = k := by
  refine ⟨ys.take k, ys[k], ys.drop (k + 1), ?_, by simp; omega⟩
  rw [← List.drop_eq_getElem_cons, List.take_append_drop]

theorem map_lo_lt (xs : List Int) : ∀ w ∈ xs.map lo, w < 65536 := by
  intro w hw
  obtain ⟨x, _, rfl⟩ := List.mem_map.1 hw
  exact lo_lt x
theorem crcI_mid (s : Int) (P : List Int) (l : List Int) (Q : List Int) : crcI s (P ++ l ++ Q) = CM.crc (CM.crc (crcI s P) (l.map lo)) (Q.map lo) := by
  unfold crcI
  rw [List.map_append, List.map_append, CM.crc_append, CM.crc_append]

/-- Two words, turned within sixteen bits. -/
theorem two_words {t u v x n : Nat} (ht : t < 65536) (hu : u < 65536) (hv : v < 65536) (hx : x < 65536) (hn : n ≤ 16) (h : CM.crc t [u, v] = CM.crc t [u ^^^ x / 2 ^ n, v ^^^ (x * 2 ^ (16 - n) % 65536)]) : x = 0 := by
  have hy : x / 2 ^ n < 65536 := Nat.lt_of_le_of_lt (Nat.div_le_self _ _) hx
  have hz : x * 2 ^ (16 - n) % 65536 < 65536 := Nat.mod_lt _ (by omega)
  have l16 : ∀ {a b : Nat}, a < 65536 → b < 65536 → a ^^^ b < 65536 := fun ha hb => Nat.xor_lt_two_pow (n := 16) ha hb
  have h1 := CM.dblN_inj (n := 16) (l16 (CM.dblN_lt (n := 16) (l16 ht hu)) hv) (l16 (CM.dblN_lt (n := 16) (l16 ht (l16 hu hy))) (l16 hv hz)) h
  rw [← Nat.xor_assoc t u, CM.dblN_xor 16 (t ^^^ u)] at h1
  have h2 : CM.dblN 16 (x / 2 ^ n) ^^^ (x * 2 ^ (16 - n) % 65536) = 0 := by
    have h3 := congrArg (fun z => (CM.dblN 16 (t ^^^ u) ^^^ v) ^^^ z) h1
    simp only [Nat.xor_self] at h3
    rw [CM.xor_swap (CM.dblN 16 (t ^^^ u)), ← Nat.xor_assoc (CM.dblN 16 (t ^^^ u)) (CM.dblN 16 (t ^^^ u)), Nat.xor_self, Nat.zero_xor, ← Nat.xor_assoc v v, Nat.xor_self, Nat.zero_xor] at h3
    exact h3.symm
  rw [CM.burst hx hn] at h2
  exact CM.dblN_eq_zero hx h2

def turn2 (ys : List Int) (k x n : Nat) : List Int := (ys.set k ((lo (ys.getD k 0) ^^^ x / 2 ^ n : Nat) : Int)).set (k + 1) ((lo (ys.getD (k + 1) 0) ^^^ (x * 2 ^ (16 - n) % 65536) : Nat) : Int)

theorem turn2_mid (P : List Int) (u v : Int) (Q : List Int) (x n : Nat) : turn2 (P ++ u :: v :: Q) P.length x n = P ++ [((lo u ^^^ x / 2 ^ n : Nat) : Int), ((lo v ^^^ (x * 2 ^ (16 - n) % 65536) : Nat) : Int)] ++ Q := by
  unfold turn2
  have e1 : (P ++ u :: v :: Q).getD P.length 0 = u := by simp [List.getD]
  have e2 : (P ++ u :: v :: Q).getD (P.length + 1) 0 = v := by simp [List.getD]
  rw [e1, e2, List.set_append_right _ _ (by omega), List.set_append_right _ _ (by omega), Nat.sub_self, show P.length + 1 - P.length = 1 by omega]
  simp

theorem finds_math {ys : List Int} (hy : ∀ y ∈ ys, 0 ≤ y ∧ y < 65536) {k x n : Nat} (hk : k + 1 < ys.length) (hx : x < 65536) (hn : n ≤ 16) :
    decide (ys = turn2 ys k x n) = ((crcI 65535 ys : Int) == (crcI 65535 (turn2 ys k x n) : Int)) := by
  rw [Bool.eq_iff_iff, decide_eq_true_iff, beq_iff_eq]
  constructor
  · intro h; rw [← h]
  · intro h
    obtain ⟨P, u, v, Q, rfl, rfl⟩ := split2 ys k hk
    have hu := hy u (by simp)
    have hv := hy v (by simp)
    rw [turn2_mid] at h ⊢
    have h0 : crcI 65535 (P ++ [u, v] ++ Q) = crcI 65535 (P ++ [((lo u ^^^ x / 2 ^ n : Nat) : Int), ((lo v ^^^ (x * 2 ^ (16 - n) % 65536) : Nat) : Int)] ++ Q) := by
      have e : P ++ [u, v] ++ Q = P ++ u :: v :: Q := by simp
      rw [e]; omega
    have hy2 : x / 2 ^ n < 65536 := Nat.lt_of_le_of_lt (Nat.div_le_self _ _) hx
    have hz : x * 2 ^ (16 - n) % 65536 < 65536 := Nat.mod_lt _ (by omega)
    have l16 : ∀ {a b : Nat}, a < 65536 → b < 65536 → a ^^^ b < 65536 := fun ha hb => Nat.xor_lt_two_pow (n := 16) ha hb
    rw [crcI_mid, crcI_mid] at h0
    simp only [List.map_cons, List.map_nil] at h0
    rw [lo_nat (l16 (lo_lt u) hy2), lo_nat (l16 (lo_lt v) hz)] at h0
    have hlt : ∀ a b : Nat, a < 65536 → b < 65536 → CM.crc (crcI 65535 P) [a, b] < 65536 := fun a b ha hb => CM.crc_lt crc_le (by intro w hw; simp at hw; rcases hw with rfl | rfl <;> assumption)
    have h1 := CM.crc_inj (hlt _ _ (lo_lt u) (lo_lt v)) (hlt _ _ (l16 (lo_lt u) hy2) (l16 (lo_lt v) hz)) (map_lo_lt Q) h0
    have hx0 := two_words crc_le (lo_lt u) (lo_lt v) hx hn h1
    subst hx0
    have q1 : ((lo u : Nat) : Int) = u := by unfold lo; omega
    have q2 : ((lo v : Nat) : Int) = v := by unfold lo; omega
    simp [q1, q2]

/-- One bit of one word, turned over: what it does to the sum. -/
def turn1 (ys : List Int) (k : Nat) (b : Nat) : List Int := ys.set k ((lo (ys.getD k 0) ^^^ b : Nat) : Int)
theorem crc_zeros (t n : Nat) : CM.crc t (List.replicate n 0) = CM.dblN (16 * n) t := by
  induction n generalizing t with
  | zero => rfl
  | succ n ih =>
    rw [List.replicate_succ, CM.crc_cons, ih, Nat.xor_zero, ← CM.dblN_add]
    congr 1; omega
theorem crc_split (s t : Nat) (l : List Nat) : CM.crc (s ^^^ t) l = CM.crc s l ^^^ CM.crc t (List.replicate l.length 0) := by
  have h := CM.crc_xor s t l (List.replicate l.length 0) (by simp)
  have e : List.zipWith (fun x1 x2 => x1 ^^^ x2) l (List.replicate l.length 0) = l := by
    refine List.ext_getElem (by simp) (fun i h1 h2 => ?_)
    simp
  rw [e] at h
  exact h
theorem bitL_cons (n : Nat) (bit : Int) : bitL (n + 1) bit = ((2 ^ bit.toNat : Nat) : Int) :: List.replicate n 0 := by
  unfold bitL; rw [List.replicate_succ, List.set_cons_zero]
theorem turned_math {ys : List Int} {k : Nat} (hk : k < ys.length) {bit : Int} (h1 : 0 ≤ bit) (h2 : bit < 16) :
    crcI 65535 ys ^^^ crcI 0 (bitL (ys.length - k) bit) = crcI 65535 (turn1 ys k (2 ^ bit.toNat)) := by
  obtain ⟨P, u, Q, rfl, rfl⟩ := split1 ys k hk
  have hb := (pow_bit h1 h2).2.2
  have l16 : ∀ {a b : Nat}, a < 65536 → b < 65536 → a ^^^ b < 65536 := fun ha hb => Nat.xor_lt_two_pow (n := 16) ha hb
  have e1 : (P ++ u :: Q).getD P.length 0 = u := by simp [List.getD]
  have e2 : turn1 (P ++ u :: Q) P.length (2 ^ bit.toNat) = P ++ [((lo u ^^^ 2 ^ bit.toNat : Nat) : Int)] ++ Q := by
    unfold turn1
    rw [e1, List.set_append_right _ _ (by omega), Nat.sub_self]
    simp
  have e3 : (P ++ u :: Q).length - P.length = Q.length + 1 := by simp
  have e4 : P ++ u :: Q = P ++ [u] ++ Q := by simp
  rw [e2, e3, bitL_cons, e4, crcI_mid, crcI_mid]
  simp only [List.map_cons, List.map_nil]
  rw [lo_nat (l16 (lo_lt u) (by omega))]
  have e5 : CM.crc (crcI 65535 P) [lo u ^^^ 2 ^ bit.toNat] = CM.crc (crcI 65535 P) [lo u] ^^^ CM.dblN 16 (2 ^ bit.toNat) := by
    rw [CM.crc_cons, CM.crc_cons, CM.crc_nil, CM.crc_nil, ← Nat.xor_assoc, CM.dblN_xor]
  rw [e5, crc_split]
  congr 1
  unfold crcI
  rw [List.map_cons, lo_nat (by omega), CM.crc_cons, show lo 0 = 0 from rfl, Nat.zero_xor, List.length_map]
  congr 1
  rw [List.map_replicate]; rfl
end Go.Proofs.YtogbkbcjanjbfaaDoor
