/- pack: Split: its contract. -/
import Derived.Test.YtfmegladcjcjgaaPi
import Derived.Test.YtfmegladcjcjgaaPd
namespace Go.Proofs.Ytfmegladcjcjgaa
open Go.RowKit
set_option linter.unusedVariables false

theorem splitL_snoc (ws bs : List Int) (w : Int) : splitL (ws ++ [w]) bs = splitL ws bs ++ [valB ((bs.drop (totL ws)).take w.toNat)] := by
  induction ws generalizing bs with
  | nil => simp [splitL, totL]
  | cons x xs ih =>
    simp only [List.cons_append, splitL]
    rw [ih, totL_cons, List.drop_drop]
/-- The values behind i fields and j bits of the next one. -/
def valsTo (ws bs : List Int) (i j : Nat) : List Int := (splitL (ws.take i) bs ++ List.replicate (ws.length - i) 0).set i (valB ((bs.drop (totL (ws.take i))).take j) * P2 ((ws.getD i 0).toNat - j))
theorem valsTo_len (ws bs : List Int) (i j : Nat) (hi : i ≤ ws.length) : (valsTo ws bs i j).length = ws.length := by
  unfold valsTo
  rw [List.length_set, List.length_append, splitL_len, List.length_take, List.length_replicate]
  omega
theorem valsTo_start (ws bs : List Int) : valsTo ws bs 0 0 = List.replicate ws.length 0 := by
  unfold valsTo
  rw [List.take_zero, List.take_zero]
  show (List.replicate ws.length 0).set 0 (0 * _) = _
  rw [Int.zero_mul]
  cases ws with
  | nil => rfl
  | cons w ws => rfl
theorem valsTo_end (ws bs : List Int) : valsTo ws bs ws.length 0 = splitL ws bs := by
  unfold valsTo
  rw [List.take_length, Nat.sub_self, List.replicate_zero, List.append_nil, List.set_eq_of_length_le (by rw [splitL_len]; exact Nat.le_refl _)]
theorem valsTo_field {ws bs : List Int} {i wd : Nat} (hi : i < ws.length) (hw : ws.getD i 0 = (wd : Int)) : valsTo ws bs (i + 1) 0 = valsTo ws bs i wd := by
  unfold valsTo
  rw [hw, Int.toNat_natCast, Nat.sub_self, take_snoc hi, splitL_snoc, hw, Int.toNat_natCast, List.take_zero]
  have h1 : (splitL (ws.take i) bs).length = i := by rw [splitL_len, List.length_take]; omega
  have e0 : valB [] = 0 := rfl
  have e1 : P2 0 = 1 := rfl
  rw [e0, Int.zero_mul, e1, Int.mul_one]
  obtain ⟨m, hm⟩ : ∃ m, ws.length - i = m + 1 := ⟨ws.length - i - 1, by omega⟩
  rw [hm, show ws.length - (i + 1) = m by omega, List.replicate_succ]
  rw [List.set_append_right i _ (by omega), h1, Nat.sub_self, List.set_cons_zero]
  rw [List.append_assoc, List.set_append_right (i + 1) _ (by omega), h1, show i + 1 - i = 1 by omega]
  cases m with
  | zero => rfl
  | succ m => rfl
/-- One bit more, as the program puts it. -/
theorem get_bit (ws bs : List Int) (x : Int) (i wd b r : Nat) (hb : IsBits bs) (hi : i < ws.length) (hw : ws.getD i 0 = ((wd : Nat) : Int)) (hbw : b < wd) (hwd : wd ≤ 16) (hl : totL (ws.take i) + wd ≤ bs.length)
    (hx : bs.getD (totL (ws.take i) + (wd - (b + 1))) 0 = x / P2 r % 2) :
    (valsTo ws bs i (wd - (b + 1))).set i (bits .or .i64 ((valsTo ws bs i (wd - (b + 1))).getD i 0) (wrap64 (bits .and .i64 (x / 2 ^ r) 1 * 2 ^ b))) = valsTo ws bs i (wd - b) := by
  obtain ⟨j, hj⟩ : ∃ j, j = wd - (b + 1) := ⟨_, rfl⟩
  rw [← hj, show wd - b = j + 1 by omega] 
  rw [← hj] at hx
  obtain ⟨o, ho⟩ : ∃ o, o = totL (ws.take i) := ⟨_, rfl⟩
  have hbd := valB_bd ((bs.drop o).take j) (fun y hy => hb y (List.mem_of_mem_drop (List.mem_of_mem_take hy)))
  rw [List.length_take, List.length_drop, show min j (bs.length - o) = j by omega] at hbd
  have hst : valB ((bs.drop o).take (j + 1)) = 2 * valB ((bs.drop o).take j) + x / P2 r % 2 := by
    rw [take_snoc (by rw [List.length_drop]; omega), valB_snoc, ← hx, ← ho]
    congr 1
    simp [List.getD]
  have hlen : i < (splitL (ws.take i) bs ++ List.replicate (ws.length - i) 0).length := by
    rw [List.length_append, splitL_len, List.length_take, List.length_replicate]; omega
  have hg : ∀ v, ((splitL (ws.take i) bs ++ List.replicate (ws.length - i) (0 : Int)).set i v).getD i 0 = v := by
    intro v
    simp only [List.getD, List.getElem?_set_self hlen, Option.getD_some]
  unfold valsTo
  rw [hg, List.set_set, hw, Int.toNat_natCast, ← ho, show wd - j = b + 1 by omega, show wd - (j + 1) = b by omega, hst, bits_one, ← P2_eq r]
  congr 1
  refine or_bit _ _ b (by omega) hbd.1 ?_ (by omega)
  have e : P2 j * P2 (b + 1) = P2 wd := by rw [← P2_add, show j + (b + 1) = wd by omega]
  have h4 := Int.mul_le_mul_of_nonneg_right (show valB ((bs.drop o).take j) ≤ P2 j by omega) (show 0 ≤ P2 (b + 1) by have := P2_pos (b + 1); omega)
  have h5 := P2_le hwd
  omega

/-- What stands behind so many bits of Split. -/
def StS (w W0 : World) (g N : Nat) (ws bs : List Int) (i j : Nat) (w' : World) : Prop := Keeps [] w w' ∧ Keeps [g] W0 w' ∧ Arr w' g N (valsTo ws bs i j)
theorem split_step (w W0 : World) (N m : Nat) (ws ys : List Int) (a' : Option Addr) (i b wd : Nat) (w' : World) (hI : IntsAt w a' m ys) (hm : m ≤ 60000) (hi : i < ws.length) (hw : ws.getD i 0 = ((wd : Nat) : Int)) (hb : b < wd) (hwd : wd ≤ 16) (hN : totL ws ≤ 16 * m) (hNl : N ≤ 60000) (hNw : N = ws.length)
    (c1 : W0.cell? ⟨w.heap.size, 0, none⟩ = some (.slice a' m m)) (c2 : W0.cell? ⟨w.heap.size + 1 + 1, 0, none⟩ = some (.slice (some ⟨w.heap.size + 1, 0, none⟩) N N)) (s0 : W0.heap.size = w.heap.size + 3)
    (hs : StS w W0 (w.heap.size + 1) N ws (bitsOf ys) i (wd - (b + 1)) w') :
    Calls Try.prog 41 #[.int .i64 i, .int .i64 b, .int .i64 ((totL (ws.take i) + (wd - (b + 1)) : Nat) : Int), .pointer (some ⟨w.heap.size + 1 + 1, 0, none⟩), .pointer (some ⟨w.heap.size, 0, none⟩)] w' fun e w'' => e = .returned (.tuple #[]) ∧ StS w W0 (w.heap.size + 1) N ws (bitsOf ys) i (wd - b) w'' := by
  obtain ⟨k1, k2, hA⟩ := hs
  have hli := hI.keep0 k1
  have htt := totL_take_lt hi hw
  obtain ⟨p, hp⟩ : ∃ p, p = totL (ws.take i) + (wd - (b + 1)) := ⟨_, rfl⟩
  have hpN : p < 16 * m := by omega
  have hqy : p / 16 < ys.length := by have := hI.1; omega
  rcases a' with _ | ⟨gv, ov, sv⟩
  · have := hli.2.1 rfl; rw [this] at hqy; simp at hqy
  obtain ⟨rfl, hlc⟩ := hli.2.2 gv ov sv rfl (List.ne_nil_of_length_pos (by omega))
  have hx := hlc (p / 16) hqy
  have hil : i < (valsTo ws (bitsOf ys) i (wd - (b + 1))).length := by rw [valsTo_len _ _ _ _ (by omega)]; exact hi
  have h3 := hA.cell (i := i) hil
  have h5 := hA.frozen i
  rw [← hp]
  refine (SplitC_any i b p (p / 16) (15 - p % 16) (w.heap.size + 1) ov gv m m N N ⟨w.heap.size + 1 + 1, 0, none⟩ ⟨w.heap.size, 0, none⟩ _ _ w' (by omega) (by omega) (by omega) rfl rfl (by omega) (by omega)
    ((k2.cell (by simp only; omega) (by simp)).trans c2) ((k2.cell (by simp only; omega) (by simp)).trans c1) h3 hx h5 (by omega) (by omega)).mono ?_
  rintro e w'' ⟨rfl, rfl⟩
  refine ⟨rfl, (k1.setCell (.inr (by simp only; omega)) _).drew, (k2.setCell (.inl (by simp)) _).drew, ?_⟩
  have h6 := hA.set (i := i) hil (bits .or .i64 ((valsTo ws (bitsOf ys) i (wd - (b + 1))).getD i 0) (wrap64 (bits .and .i64 (ys.getD (p / 16) 0 / 2 ^ (15 - p % 16)) 1 * 2 ^ b)))
  have h7 := get_bit ws (bitsOf ys) (ys.getD (p / 16) 0) i wd b (15 - p % 16) (bitsOf_bits _) hi hw hb hwd (by rw [bitsOf_len]; have := hI.1; omega) (by rw [← hp, bitsOf_getD _ _ (by have := hI.1; omega)])
  rw [h7] at h6
  exact h6.keep (F := []) ((Keeps.refl _ _).drew) (by simp)

set_option maxHeartbeats 1000000 in
theorem Split_any (a a' : Option Addr) (n c n' c' : Nat) (ws xs : List Int) (w : World) (hi : IntsAt w a n ws) (hi' : IntsAt w a' n' xs) (hn : n ≤ 1000000) (hn' : n' ≤ c') (hc' : c' ≤ maxLen) :
    Calls Try.prog 20 #[.slice a n c, .slice a' n' c'] w fun e w' => Out w w' (splitR ws xs) e := by
  have HI := Lib.hid hi
  have HI' := Lib.hid hi'
  have HLEN := Lib.hid (show n = ws.length from hi.1)
  have HLEN' := Lib.hid (show n' = xs.length from hi'.1)
  have HN' := Lib.hid hn'
  have HC' := Lib.hid hc'
  clear hi hi' hn' hc'
  rcases mayC_cases ws with hC | hC | ⟨hC, hok, hl, hrn, hsz⟩
  · have hR : splitR ws xs = (3, []) := by unfold splitR; rw [hC, if_pos (by decide)]
    rw [hR]
    have HFC := Lib.hid hC
    clear hR hC
    go_enter Try.func20, Try.ntmps20
    go_wp2_with fail
    refine (room_any a n c ws _ (HI.out) hn).mono ?_
    rintro e w' ⟨he, rfl⟩
    rw [HFC.out] at he
    subst he
    go_wp2_with fail
    go_ret2
    exact Out.of_nil (Keeps.refl _ _)
  · have hR : splitR ws xs = (2, []) := by unfold splitR; rw [hC, if_pos (by decide)]
    rw [hR]
    have HFC := Lib.hid hC
    clear hR hC
    go_enter Try.func20, Try.ntmps20
    go_wp2_with fail
    refine (room_any a n c ws _ (HI.out) hn).mono ?_
    rintro e w' ⟨he, rfl⟩
    rw [HFC.out] at he
    subst he
    go_wp2_with fail
    go_ret2
    exact Out.of_nil (Keeps.refl _ _)
  · have hNs : sizeR ws ≤ 257 := by have := totL_le ws hok; omega
    obtain ⟨m, hm⟩ : ∃ m, m = sizeR ws := ⟨_, rfl⟩
    obtain ⟨z, hz⟩ : ∃ z, z = firstC m xs := ⟨_, rfl⟩
    by_cases hf : z = 0
    · have hR : splitR ws xs = (0, splitL ws (bitsOf (xs.take m))) := by unfold splitR; rw [if_neg (by rw [hC]; decide), if_neg (by rw [← hm, ← hz, hf]; decide), hm]
      rw [hR]
      rw [← hm] at hrn hsz hNs
      have hmk := run_make_ints 22 Try.underlying22 n (by have := HLEN.out; omega)
      have hml : m ≤ n' := by
        rcases firstC_cases m xs with h | h | ⟨_, _, h⟩
        · rw [← hz, hf] at h; cases h
        · rw [← hz, hf] at h; cases h
        · rw [HLEN'.out]; exact h
      have hIt := HI'.out.take hml
      have HIT := Lib.hid hIt
      have HFC := Lib.hid hC
      have HRN := Lib.hid hrn
      have HZ := Lib.hid (show firstC m xs = 0 by rw [← hz, hf])
      have HTL := Lib.hid (show totL ws ≤ 16 * m by omega)
      obtain ⟨t1, t2, t3, t4, t5⟩ := three w (.slice a' m m) (.slice (some ⟨w.heap.size + 1, 0, none⟩) n n) n (by have := HLEN.out; omega) 22
      obtain ⟨W0, hW0⟩ : ∃ W0, W0 = ((w.alloc (.cells #[.slice a' m m] 22)).alloc (.cells (ints (List.replicate n 0)) 3)).alloc (.cells #[.slice (some ⟨w.heap.size + 1, 0, none⟩) n n] 22) := ⟨_, rfl⟩
      rw [← hW0] at t1 t2 t3 t4 t5
      have hw := walkSplit_any a n c ws (.pointer (some ⟨w.heap.size + 1 + 1, 0, none⟩)) (.pointer (some ⟨w.heap.size, 0, none⟩)) W0 (StS w W0 (w.heap.size + 1) n ws (bitsOf (xs.take m))) (by have := HLEN.out; omega) HLEN.out hok
        ⟨t4, Keeps.refl _ _, by rw [valsTo_start, ← HLEN.out]; exact t3⟩
        (fun i j w' h => HI.out.keep0 h.1)
        (fun i b wd w' h1 h2 h3 h4 h5 => split_step w W0 n m ws (xs.take m) a' i b wd w' HIT.out (by omega) (by rw [← HLEN.out]; exact h1) h2 h3 h4 HTL.out (by have := HLEN.out; omega) HLEN.out t1 t2 t5 h5)
        (fun i wd w' h1 h2 h3 => by
          obtain ⟨q1, q2, q3⟩ := h3
          exact ⟨q1, q2, by rw [valsTo_field (by rw [← HLEN.out]; exact h1) h2]; exact q3⟩)
      have HW := Lib.hid hw
      have HW0 := Lib.hid hW0
      have HT2 := Lib.hid t2
      have HS0 := Lib.hid t5
      clear hw hW0 t1 t2 t3 t4 t5 hR hm hok hC hrn hsz hf hz hIt
      go_enter Try.func20, Try.ntmps20
      go_wp2_with fail
      refine (room_any a n c ws _ HI.out hn).mono ?_
      rintro e w' ⟨he, rfl⟩
      rw [HFC.out, HRN.out] at he
      subst he
      go_wp2_with fail
      refine (first_any m a' n' c' xs _ HI'.out HN'.out HC'.out (by omega)).mono ?_
      rintro e w' ⟨he, rfl⟩
      rw [HZ.out] at he
      have hfv : firstV a' m 0 = .slice a' m m := rfl
      rw [hfv] at he
      clear hfv
      subst he
      go_wp2_with fail
      rw [← HW0.out]
      refine HW.out.mono ?_
      rintro e w2 ⟨rfl, k1, k2, hA⟩
      have hcl := (k2.cell (by simp only; have := HS0.out; omega) (by simp)).trans HT2.out
      have e : valsTo ws (bitsOf (xs.take m)) n 0 = splitL ws (bitsOf (xs.take m)) := by rw [HLEN.out, valsTo_end]
      rw [e] at hA
      have K1 := Lib.hid k1
      have HA := Lib.hid hA
      clear k1 k2 hA e
      go_wp2_with fail
      go_ret2
      exact Out.of_arr (by rw [splitL_len, HLEN.out]) HA.out K1.out
    · have hR : splitR ws xs = (z, []) := by unfold splitR; rw [if_neg (by rw [hC]; decide), ← hm, ← hz, if_pos hf]
      rw [hR]
      rw [← hm] at hrn hNs
      have hz2 : z = 2 ∨ z = 7 := by
        rcases firstC_cases m xs with h | h | ⟨h, _⟩
        · left; rw [hz]; exact h
        · right; rw [hz]; exact h
        · exact absurd (by rw [hz]; exact h) hf
      have HFC := Lib.hid hC
      have HRN := Lib.hid hrn
      have HZ := Lib.hid hz
      have hfv : firstV a' m z = .slice none 0 0 := by unfold firstV; rw [if_neg hf]
      have HFV := Lib.hid hfv
      have hzn : (z != 0) = true := by simpa using hf
      clear hR hok hC hrn hsz hf hz hm hfv hz2
      go_enter Try.func20, Try.ntmps20
      go_wp2_with fail
      refine (room_any a n c ws _ HI.out hn).mono ?_
      rintro e w' ⟨he, rfl⟩
      rw [HFC.out, HRN.out] at he
      subst he
      go_wp2_with fail
      refine (first_any m a' n' c' xs _ HI'.out HN'.out HC'.out (by omega)).mono ?_
      rintro e w' ⟨he, rfl⟩
      rw [← HZ.out, HFV.out] at he
      subst he
      go_wp2_with fail
      go_ret2
      exact Out.of_nil ((Keeps.refl _ _).alloc _)
end Go.Proofs.Ytfmegladcjcjgaa
