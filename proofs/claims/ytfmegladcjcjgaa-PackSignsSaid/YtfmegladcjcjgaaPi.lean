/- pack: Fields, Split: contracts. -/
import Derived.Test.YtfmegladcjcjgaaPh
import Derived.Test.YtfmegladcjcjgaaPb
namespace Go.Proofs.Ytfmegladcjcjgaa
open Go.RowKit
set_option linter.unusedVariables false

instance (ws vs : List Int) : Decidable (fitW ws vs) := by unfold fitW; infer_instance
/-- What Fields answers. -/
def fieldsR (ws vs : List Int) : Int × List Int := if mayC ws ≠ 0 then (mayC ws, []) else if fitW ws vs then (0, wordsOf (sizeR ws) (allB ws vs)) else (2, [])
/-- What Split answers. -/
def splitR (ws xs : List Int) : Int × List Int := if mayC ws ≠ 0 then (mayC ws, []) else if firstC (sizeR ws) xs ≠ 0 then (firstC (sizeR ws) xs, []) else (0, splitL ws (bitsOf (xs.take (sizeR ws))))
theorem mayC_cases (ws : List Int) : mayC ws = 3 ∨ mayC ws = 2 ∨ mayC ws = 0 ∧ okW ws ∧ ws.length ≤ 256 ∧ roomN ws = sizeR ws ∧ sizeR ws = (totL ws + 15) / 16 := by
  unfold mayC roomN sizeR
  by_cases h : 256 < ws.length
  · rw [if_pos h]; exact .inl rfl
  · rw [if_neg h]
    by_cases h2 : okW ws
    · rw [if_pos h2]; exact .inr (.inr ⟨rfl, h2, by omega, by rw [if_neg h], by rw [if_pos h2]⟩)
    · rw [if_neg h2]; exact .inr (.inl rfl)

/-- The bits of the first i fields, and j of the next one. -/
def bitsTo (ws vs : List Int) (i j : Nat) : List Int := allB (ws.take i) (vs.take i) ++ bl j (vs.getD i 0 / P2 ((ws.getD i 0).toNat - j))
theorem bitsTo_bits (ws vs : List Int) (i j : Nat) : IsBits (bitsTo ws vs i j) := by
  intro b hb
  unfold bitsTo at hb
  rw [List.mem_append] at hb
  rcases hb with hb | hb
  · exact allB_bits _ _ b hb
  · exact bl_bits _ _ b hb
theorem bitsTo_len {ws vs : List Int} (hl : ws.length = vs.length) (i j : Nat) : (bitsTo ws vs i j).length = totL (ws.take i) + j := by
  unfold bitsTo
  rw [List.length_append, bl_len, allB_len (by rw [List.length_take, List.length_take, hl])]
theorem bitsTo_next {ws vs : List Int} {i wd b : Nat} (hw : ws.getD i 0 = (wd : Int)) (hb : b < wd) : bitsTo ws vs i (wd - b) = bitsTo ws vs i (wd - (b + 1)) ++ [vs.getD i 0 / P2 b % 2] := by
  unfold bitsTo
  rw [hw, Int.toNat_natCast, List.append_assoc]
  congr 1
  rw [show wd - b = (wd - (b + 1)) + 1 by omega, bl, show wd - (wd - (b + 1) + 1) = b by omega, show wd - (wd - (b + 1)) = b + 1 by omega]
  congr 2
  rw [P2, Int.ediv_ediv_of_nonneg (by have := P2_pos b; omega), Int.mul_comm]
theorem allB_snoc {ws vs : List Int} {w v : Int} (hl : ws.length = vs.length) : allB (ws ++ [w]) (vs ++ [v]) = allB ws vs ++ bl w.toNat v := by
  induction ws generalizing vs with
  | nil =>
    have : vs = [] := List.length_eq_zero_iff.1 (by simpa using hl.symm)
    subst this
    simp [allB]
  | cons x xs ih =>
    cases vs with
    | nil => simp at hl
    | cons y ys =>
      simp only [List.cons_append, allB, List.append_assoc]
      rw [ih (by simpa using hl)]
theorem bitsTo_field {ws vs : List Int} {i wd : Nat} (hl : ws.length = vs.length) (hi : i < ws.length) (hw : ws.getD i 0 = (wd : Int)) : bitsTo ws vs (i + 1) 0 = bitsTo ws vs i wd := by
  unfold bitsTo
  rw [hw, Int.toNat_natCast, Nat.sub_self, take_snoc hi, take_snoc (ws := vs) (by omega), allB_snoc (by rw [List.length_take, List.length_take, hl]), hw, Int.toNat_natCast]
  simp [bl, P2]
theorem totL_take_lt {ws : List Int} {i wd : Nat} (hi : i < ws.length) (hw : ws.getD i 0 = (wd : Int)) : totL (ws.take i) + wd ≤ totL ws := by
  have h1 : totL (ws.take (i + 1)) = totL (ws.take i) + wd := by rw [take_snoc hi, totL_snoc, hw, Int.toNat_natCast]
  rw [← h1]
  have h2 : totL ws = totL (ws.take (i + 1)) + totL (ws.drop (i + 1)) := by
    unfold totL
    rw [← List.sum_append, ← List.map_append, List.take_append_drop]
  omega
/-- One bit more, as the program puts it. -/
theorem put_bit (N : Nat) (bs : List Int) (v : Int) (b r : Nat) (hb : IsBits bs) (h : bs.length < 16 * N) (hr : r = 15 - bs.length % 16) :
    (wordsOf N bs).set (bs.length / 16) (bits .or .i64 ((wordsOf N bs).getD (bs.length / 16) 0) (wrap64 (bits .and .i64 (v / 2 ^ b) 1 * 2 ^ r))) = wordsOf N (bs ++ [v / P2 b % 2]) := by
  obtain ⟨Q, h1, h2, h3⟩ := wordsOf_at N bs h
  obtain ⟨q0, q1⟩ := h1 hb
  rw [h2, h3, bits_one, P2_eq b, show 16 - bs.length % 16 = r + 1 by omega, ← hr]
  congr 1
  refine or_bit Q _ r (by omega) q0 ?_ (by omega)
  have e : P2 (bs.length % 16) * P2 (r + 1) = 65536 := by rw [← P2_add, show bs.length % 16 + (r + 1) = 16 by omega]; rfl
  have h4 := Int.mul_le_mul_of_nonneg_right (show Q ≤ P2 (bs.length % 16) by omega) (show 0 ≤ P2 (r + 1) by have := P2_pos (r + 1); omega)
  omega

/-- Three blocks just laid down. -/
theorem three (w : World) (v1 v3 : Value) (N : Nat) (hN : N ≤ 1000000) (t : TypeId) :
    let W0 := ((w.alloc (.cells #[v1] t)).alloc (.cells (ints (List.replicate N 0)) 3)).alloc (.cells #[v3] t)
    W0.cell? ⟨w.heap.size, 0, none⟩ = some v1 ∧ W0.cell? ⟨w.heap.size + 1 + 1, 0, none⟩ = some v3 ∧ Arr W0 (w.heap.size + 1) N (List.replicate N 0) ∧ Keeps [] w W0 ∧ W0.heap.size = w.heap.size + 3 := by
  intro W0
  have k1 : Keeps [] (w.alloc (.cells #[v1] t)) W0 := ((Keeps.refl _ _).alloc _).alloc _
  have k2 : Keeps [] ((w.alloc (.cells #[v1] t)).alloc (.cells (ints (List.replicate N 0)) 3)) W0 := (Keeps.refl _ _).alloc _
  have s1 : (w.alloc (.cells #[v1] t)).heap.size = w.heap.size + 1 := by simp
  have s2 : ((w.alloc (.cells #[v1] t)).alloc (.cells (ints (List.replicate N 0)) 3)).heap.size = w.heap.size + 1 + 1 := by simp
  refine ⟨?_, ?_, ?_, (((Keeps.refl _ _).alloc _).alloc _).alloc _, by simp [W0]⟩
  · refine (k1.cell (by rw [s1]; simp) (by simp)).trans ?_
    rw [World.cell?_alloc_new]; rfl
  · rw [← s2]
    show (World.alloc _ _).cell? _ = _
    rw [World.cell?_alloc_new]; rfl
  · have h := arr_made (w.alloc (.cells #[v1] t)) (List.replicate N 0) (by simp; omega)
    rw [List.length_replicate, s1] at h
    exact h.keep k2 (by simp)

/-- What stands behind so many bits of Fields. -/
def StF (w W0 : World) (g N : Nat) (ws vs : List Int) (i j : Nat) (w' : World) : Prop := Keeps [] w w' ∧ Keeps [g] W0 w' ∧ Arr w' g N (wordsOf N (bitsTo ws vs i j))
theorem fields_step (w W0 : World) (N : Nat) (ws vs : List Int) (a' : Option Addr) (n' c' i b wd : Nat) (w' : World) (hI : IntsAt w a' n' vs) (hn' : n' ≤ 1000000) (hl : ws.length = vs.length) (hi : i < ws.length) (hw : ws.getD i 0 = ((wd : Nat) : Int)) (hb : b < wd) (hwd : wd ≤ 16) (hN : totL ws ≤ 16 * N) (hNl : N ≤ 60000)
    (c1 : W0.cell? ⟨w.heap.size, 0, none⟩ = some (.slice a' n' c')) (c2 : W0.cell? ⟨w.heap.size + 1 + 1, 0, none⟩ = some (.slice (some ⟨w.heap.size + 1, 0, none⟩) N N)) (s0 : W0.heap.size = w.heap.size + 3)
    (hs : StF w W0 (w.heap.size + 1) N ws vs i (wd - (b + 1)) w') :
    Calls Try.prog 36 #[.int .i64 i, .int .i64 b, .int .i64 ((totL (ws.take i) + (wd - (b + 1)) : Nat) : Int), .pointer (some ⟨w.heap.size + 1 + 1, 0, none⟩), .pointer (some ⟨w.heap.size, 0, none⟩)] w' fun e w'' => e = .returned (.tuple #[]) ∧ StF w W0 (w.heap.size + 1) N ws vs i (wd - b) w'' := by
  obtain ⟨k1, k2, hA⟩ := hs
  have hi' : i < vs.length := by rw [← hl]; exact hi
  have hli := hI.keep0 k1
  rcases a' with _ | ⟨gv, ov, sv⟩
  · have := hli.2.1 rfl; rw [this] at hi'; simp at hi'
  obtain ⟨rfl, hlc⟩ := hli.2.2 gv ov sv rfl (List.ne_nil_of_length_pos (by omega))
  have hx := hlc i hi'
  have hlen := bitsTo_len hl i (wd - (b + 1))
  have htt := totL_take_lt hi hw
  obtain ⟨p, hp⟩ : ∃ p, p = totL (ws.take i) + (wd - (b + 1)) := ⟨_, rfl⟩
  rw [← hp] at hlen ⊢
  have hpN : p < 16 * N := by omega
  have h3 := hA.cell (i := p / 16) (by rw [wordsOf_len]; omega)
  have h5 := hA.frozen (p / 16)
  have hnv : n' = vs.length := hli.1
  refine (FieldsC_any i b p (p / 16) (15 - p % 16) (w.heap.size + 1) ov gv n' c' N N ⟨w.heap.size + 1 + 1, 0, none⟩ ⟨w.heap.size, 0, none⟩ _ _ w' (by omega) (by omega) (by omega) rfl rfl hn' (by omega)
    ((k2.cell (by simp only; omega) (by simp)).trans c2) ((k2.cell (by simp only; omega) (by simp)).trans c1) h3 hx h5 (by omega) (by omega)).mono ?_
  rintro e w'' ⟨rfl, rfl⟩
  refine ⟨rfl, (k1.setCell (.inr (by simp only; omega)) _).drew, (k2.setCell (.inl (by simp)) _).drew, ?_⟩
  have h6 := hA.set (i := p / 16) (by rw [wordsOf_len]; omega) (bits .or .i64 ((wordsOf N (bitsTo ws vs i (wd - (b + 1)))).getD (p / 16) 0) (wrap64 (bits .and .i64 (vs.getD i 0 / 2 ^ b) 1 * 2 ^ (15 - p % 16))))
  have h7 := put_bit N (bitsTo ws vs i (wd - (b + 1))) (vs.getD i 0) b (15 - p % 16) (bitsTo_bits _ _ _ _) (by omega) (by rw [hlen])
  rw [hlen] at h7
  rw [h7, ← bitsTo_next hw hb] at h6
  exact h6.keep (F := []) ((Keeps.refl _ _).drew) (by simp)

set_option maxHeartbeats 1000000 in
theorem Fields_any (a a' : Option Addr) (n c n' c' : Nat) (ws vs : List Int) (w : World) (hi : IntsAt w a n ws) (hi' : IntsAt w a' n' vs) (hn : n ≤ 1000000) (hn' : n' ≤ 1000000) :
    Calls Try.prog 18 #[.slice a n c, .slice a' n' c'] w fun e w' => Out w w' (fieldsR ws vs) e := by
  have HI := Lib.hid hi
  have HI' := Lib.hid hi'
  have HLEN := Lib.hid (show n = ws.length from hi.1)
  have HLEN' := Lib.hid (show n' = vs.length from hi'.1)
  have HK1 := Lib.hid (show Keeps [] w (w.alloc (.cells #[.slice a' n' c'] 22)) from (Keeps.refl _ _).alloc _)
  clear hi hi'
  rcases mayC_cases ws with hC | hC | ⟨hC, hok, hl, hrn, hsz⟩
  · have hR : fieldsR ws vs = (3, []) := by unfold fieldsR; rw [hC, if_pos (by decide)]
    rw [hR]
    have HFC := Lib.hid hC
    clear hR hC
    go_enter Try.func18, Try.ntmps18
    go_wp2_with fail
    refine (room_any a n c ws _ (HI.out.keep0 HK1.out) hn).mono ?_
    rintro e w' ⟨he, rfl⟩
    rw [HFC.out] at he
    subst he
    go_wp2_with fail
    go_ret2
    exact Out.of_nil HK1.out
  · have hR : fieldsR ws vs = (2, []) := by unfold fieldsR; rw [hC, if_pos (by decide)]
    rw [hR]
    have HFC := Lib.hid hC
    clear hR hC
    go_enter Try.func18, Try.ntmps18
    go_wp2_with fail
    refine (room_any a n c ws _ (HI.out.keep0 HK1.out) hn).mono ?_
    rintro e w' ⟨he, rfl⟩
    rw [HFC.out] at he
    subst he
    go_wp2_with fail
    go_ret2
    exact Out.of_nil HK1.out
  · have hNs : sizeR ws ≤ 257 := by have := totL_le ws hok; omega
    by_cases hf : fitW ws vs
    · have hR : fieldsR ws vs = (0, wordsOf (sizeR ws) (allB ws vs)) := by unfold fieldsR; rw [if_neg (by rw [hC]; decide), if_pos hf]
      rw [hR]
      obtain ⟨N, hN⟩ : ∃ N, N = sizeR ws := ⟨_, rfl⟩
      rw [← hN] at hrn hsz hNs ⊢
      have hmk := run_make_ints 22 Try.underlying22 N (by omega)
      have HOK := Lib.hid hok
      have HFC := Lib.hid hC
      have HRN := Lib.hid hrn
      have HF := Lib.hid hf
      have HTL := Lib.hid (show totL ws ≤ 16 * N by omega)
      obtain ⟨t1, t2, t3, t4, t5⟩ := three w (.slice a' n' c') (.slice (some ⟨w.heap.size + 1, 0, none⟩) N N) N (by omega) 22
      obtain ⟨W0, hW0⟩ : ∃ W0, W0 = ((w.alloc (.cells #[.slice a' n' c'] 22)).alloc (.cells (ints (List.replicate N 0)) 3)).alloc (.cells #[.slice (some ⟨w.heap.size + 1, 0, none⟩) N N] 22) := ⟨_, rfl⟩
      rw [← hW0] at t1 t2 t3 t4 t5
      have hw := walkFields_any a n c ws (.pointer (some ⟨w.heap.size + 1 + 1, 0, none⟩)) (.pointer (some ⟨w.heap.size, 0, none⟩)) W0 (StF w W0 (w.heap.size + 1) N ws vs) (by have := HLEN.out; omega) HLEN.out hok
        ⟨t4, Keeps.refl _ _, by
          have e : wordsOf N (bitsTo ws vs 0 0) = List.replicate N 0 := by unfold bitsTo; simp [allB, bl, wordsOf_nil]
          rw [e]; exact t3⟩
        (fun i j w' h => HI.out.keep0 h.1)
        (fun i b wd w' h1 h2 h3 h4 h5 => fields_step w W0 N ws vs a' n' c' i b wd w' HI'.out hn' hf.1 (by rw [← HLEN.out]; exact h1) h2 h3 h4 HTL.out (by omega) t1 t2 t5 h5)
        (fun i wd w' h1 h2 h3 => by
          obtain ⟨q1, q2, q3⟩ := h3
          exact ⟨q1, q2, by rw [bitsTo_field hf.1 (by rw [← HLEN.out]; exact h1) h2]; exact q3⟩)
      have HW := Lib.hid hw
      have HW0 := Lib.hid hW0
      have HT2 := Lib.hid t2
      have HS0 := Lib.hid t5
      clear hw hW0 t1 t2 t3 t4 t5 hR hN hok hC hrn hsz hf
      go_enter Try.func18, Try.ntmps18
      go_wp2_with fail
      refine (room_any a n c ws _ (HI.out.keep0 HK1.out) hn).mono ?_
      rintro e w' ⟨he, rfl⟩
      rw [HFC.out, HRN.out] at he
      subst he
      go_wp2_with fail
      refine (fit_any a a' n c n' c' ws vs _ (HI.out.keep0 HK1.out) (HI'.out.keep0 HK1.out) hn hn' HOK.out true ⟨fun _ => HF.out, fun _ => rfl⟩).mono ?_
      rintro e w' ⟨rfl, rfl⟩
      go_wp2_with fail
      rw [← HW0.out]
      refine HW.out.mono ?_
      rintro e w2 ⟨rfl, k1, k2, hA⟩
      have hcl := (k2.cell (by simp only; have := HS0.out; omega) (by simp)).trans HT2.out
      have e : wordsOf N (bitsTo ws vs n 0) = wordsOf N (allB ws vs) := by
        unfold bitsTo
        rw [List.take_of_length_le (by rw [HLEN.out]; exact Nat.le_refl _), List.take_of_length_le (by rw [← HF.out.1, HLEN.out]; exact Nat.le_refl _)]
        simp [bl]
      rw [e] at hA
      have K1 := Lib.hid k1
      have HA := Lib.hid hA
      clear k1 k2 hA e
      go_wp2_with fail
      go_ret2
      exact Out.of_arr (by rw [wordsOf_len]) HA.out K1.out
    · have hR : fieldsR ws vs = (2, []) := by unfold fieldsR; rw [if_neg (by rw [hC]; decide), if_neg hf]
      rw [hR]
      have HOK := Lib.hid hok
      have HFC := Lib.hid hC
      have HF := Lib.hid hf
      clear hR hok hC hrn hsz hf
      go_enter Try.func18, Try.ntmps18
      go_wp2_with fail
      refine (room_any a n c ws _ (HI.out.keep0 HK1.out) hn).mono ?_
      rintro e w' ⟨he, rfl⟩
      rw [HFC.out] at he
      subst he
      go_wp2_with fail
      refine (fit_any a a' n c n' c' ws vs _ (HI.out.keep0 HK1.out) (HI'.out.keep0 HK1.out) hn hn' HOK.out false ⟨(fun h => absurd h (by decide)), (fun h => absurd h HF.out)⟩).mono ?_
      rintro e w' ⟨rfl, rfl⟩
      go_wp2_with fail
      go_ret2
      exact Out.of_nil HK1.out
end Go.Proofs.Ytfmegladcjcjgaa
