/- PackBack walked. -/
import Derived.Test.YtfmegladcjcjgaaPp
namespace Go.Proofs.Ytfmegladcjcjgaa
open Go.RowKit
set_option linter.unusedVariables false

theorem flatW_drop (k : Nat) (xs : List Int) (i : Nat) (hi : i < xs.length) : ∃ rest, (flatW k xs).drop (i * k) = wd k (xs.getD i 0) ++ rest := by
  induction xs generalizing i with
  | nil => simp at hi
  | cons x xs ih =>
    have e : flatW k (x :: xs) = wd k x ++ flatW k xs := rfl
    rw [e]
    rcases i with _ | i
    · exact ⟨flatW k xs, by simp⟩
    · obtain ⟨rest, hr⟩ := ih i (by simpa using hi)
      refine ⟨rest, ?_⟩
      have h1 : (i + 1) * k = (wd k x).length + i * k := by rw [wd_len, Nat.succ_mul, Nat.add_comm]
      rw [h1, List.drop_append, List.drop_eq_nil_of_le (by omega), List.nil_append, Nat.add_sub_cancel_left, hr, List.getD_cons_succ]
theorem putR_split (k : Int) (s : Bool) (xs : List Int) : putR k s xs = (2, []) ∨ ∃ j : Nat, k = j ∧ 1 ≤ j ∧ j ≤ 4 ∧ (∀ x ∈ xs, fitB j s x = true) ∧ putR k s xs = (0, flatW j xs) := by
  unfold putR
  by_cases h : 1 ≤ k ∧ k ≤ 4 ∧ ∀ x ∈ xs, fitB k.toNat s x = true
  · right
    rw [if_pos h]
    exact ⟨k.toNat, by omega, by omega, by omega, h.2.2, rfl⟩
  · left
    rw [if_neg h]

set_option maxRecDepth 100000 in
set_option maxHeartbeats 1000000 in
theorem back_tA (k : Int) (a : Option Addr) (n c : Nat) (xs : List Int) (w : World) (hi0 : IntsAt w a n xs) (hx0 : ∀ x ∈ xs, I64 x) (hn : n ≤ c) (hc : c ≤ maxLen) (hcase : n ≤ 200) :
    Calls Try.prog 6 #[.int .i64 k, .slice a n c, .bool true] w fun e w' => e = .returned (.bool true) ∧ Keeps [] w w' := by
  unfold maxLen at hc
  obtain ⟨ys, hys⟩ : ∃ ys, ys = xs := ⟨_, rfl⟩
  have hi : IntsAt w a n ys := by rw [hys]; exact hi0
  have hx : ∀ x ∈ ys, I64 x := by rw [hys]; exact hx0
  have hcase2 : (n : Int) ≤ 200 := by omega
  have I := Lib.hid hi
  have HX := Lib.hid hx
  have HN1 := Lib.hid (show ys.length = n from hi.1.symm)
  have KK := Lib.hid (Keeps.refl [] w)
  obtain ⟨⟨z0, l0⟩, hR0⟩ : ∃ R, R = putR k false ys := ⟨_, rfl⟩
  obtain ⟨N0, hL0⟩ : ∃ N, N = l0.length := ⟨_, rfl⟩
  have R0 := Lib.hid hR0
  have N0H := Lib.hid hL0
  clear hx hi0 hx0 hys hR0 hL0
  rcases putR_split k true ys with hP | ⟨j, hkj, hj1, hj4, hfit, hP⟩
  · have R1 := Lib.hid (show ((2 : Int), ([] : List Int)) = putR k true ys from hP.symm)
    obtain ⟨N1, hN1⟩ : ∃ N, N = 0 := ⟨_, rfl⟩
    have N1H := Lib.hid (show N1 = ([] : List Int).length from hN1)
    clear hP hi hN1
    go_enter Try.func6, Try.ntmps6
    go_wp2_with fail
    refine (works_any _).mono ?_
    rintro e w1 ⟨rfl, q⟩
    have I := Lib.hid (I.out.keep0 q)
    have KK := Lib.hid (KK.out.trans0 q)
    clear q
    go_wp2_with fail
    refine (Plain_any k a n c ys _ I.out HX.out (by omega)).mono ?_
    rintro e w2 ho
    rw [← R0.out] at ho
    obtain ⟨aB0, cB0, he, hj, q, hl, hm⟩ := ho
    have he : e = .returned (.tuple #[.slice aB0 N0 cB0, .int .i64 z0]) := by rw [he, N0H.out]
    subst he
    have hj : IntsAt w2 aB0 N0 l0 := by rw [N0H.out]; exact hj
    have hl : N0 ≤ cB0 := by rw [N0H.out]; exact hl
    have I := Lib.hid (I.out.keep0 q)
    have KK := Lib.hid (KK.out.trans0 q)
    have B0 := Lib.hid hj
    have B0L := Lib.hid hl
    have B0M := Lib.hid hm
    clear q hl hm hj
    go_wp2_with fail
    refine (Signed_any k a n c ys _ I.out HX.out (by omega)).mono ?_
    rintro e w3 ho
    rw [← R1.out] at ho
    obtain ⟨aB1, cB1, he, hj, q, hl, hm⟩ := ho
    have he : e = .returned (.tuple #[.slice aB1 N1 cB1, .int .i64 2]) := by rw [he, N1H.out]
    subst he
    have hj : IntsAt w3 aB1 N1 [] := by rw [N1H.out]; exact hj
    have hl : N1 ≤ cB1 := by rw [N1H.out]; exact hl
    have I := Lib.hid (I.out.keep0 q)
    have B0 := Lib.hid (B0.out.keep0 q)
    have KK := Lib.hid (KK.out.trans0 q)
    have B1 := Lib.hid hj
    have B1L := Lib.hid hl
    have B1M := Lib.hid hm
    clear q hl hm hj
    have hz : N1 = 0 := N1H.out
    have hz2 : (N1 : Int) = 0 := by rw [hz]; rfl
    go_wp2_with fail
    go_ret
    exact ⟨rfl, KK.out⟩
  · subst hkj
    obtain ⟨L, hL⟩ : ∃ L, L = flatW j ys := ⟨_, rfl⟩
    obtain ⟨N1, hN1⟩ : ∃ N, N = L.length := ⟨_, rfl⟩
    have hNj : N1 = j * n := by rw [hN1, hL, flatW_len, HN1.out]
    have hN8 : N1 ≤ 800 := by rw [hNj]; exact Nat.le_trans (Nat.mul_le_mul hj4 (show n ≤ 200 by omega)) (by decide)
    have hjn : (j : Int) * (n : Int) = (N1 : Int) := by rw [hNj]; simp
    have R1 := Lib.hid (show ((0 : Int), L) = putR j true ys by rw [hP, hL])
    have N1H := Lib.hid hN1
    have HL := Lib.hid hL
    have HNJ := Lib.hid hNj
    have HF := Lib.hid hfit
    clear hP hi hN1 hL hNj hfit
    go_enter Try.func6, Try.ntmps6
    go_wp2_with fail
    refine (works_any _).mono ?_
    rintro e w1 ⟨rfl, q⟩
    have I := Lib.hid (I.out.keep0 q)
    have KK := Lib.hid (KK.out.trans0 q)
    clear q
    go_wp2_with fail
    refine (Plain_any j a n c ys _ I.out HX.out (by omega)).mono ?_
    rintro e w2 ho
    rw [← R0.out] at ho
    obtain ⟨aB0, cB0, he, hj, q, hl, hm⟩ := ho
    have he : e = .returned (.tuple #[.slice aB0 N0 cB0, .int .i64 z0]) := by rw [he, N0H.out]
    subst he
    have hj : IntsAt w2 aB0 N0 l0 := by rw [N0H.out]; exact hj
    have hl : N0 ≤ cB0 := by rw [N0H.out]; exact hl
    have I := Lib.hid (I.out.keep0 q)
    have KK := Lib.hid (KK.out.trans0 q)
    have B0 := Lib.hid hj
    have B0L := Lib.hid hl
    have B0M := Lib.hid hm
    clear q hl hm hj
    go_wp2_with fail
    refine (Signed_any j a n c ys _ I.out HX.out (by omega)).mono ?_
    rintro e w3 ho
    rw [← R1.out] at ho
    obtain ⟨aB1, cB1, he, hj, q, hl, hm⟩ := ho
    have he : e = .returned (.tuple #[.slice aB1 N1 cB1, .int .i64 0]) := by rw [he, N1H.out]
    subst he
    have hj : IntsAt w3 aB1 N1 L := by rw [N1H.out]; exact hj
    have hl : N1 ≤ cB1 := by rw [N1H.out]; exact hl
    have I := Lib.hid (I.out.keep0 q)
    have B0 := Lib.hid (B0.out.keep0 q)
    have KK := Lib.hid (KK.out.trans0 q)
    have B1 := Lib.hid hj
    have B1L := Lib.hid hl
    have B1M := Lib.hid hm
    clear q hl hm hj
    go_wp2_with fail
    have B1b := B1L.out
    have B1m := B1M.out
    unfold maxLen at B1m
    go_loopw [9] (fun vi wr => ∃ i : Nat, i ≤ n ∧ vi = .int .i64 i ∧ Keeps [] w3 wr) (fun vi _ => n - (intOf vi).toNat)
    case atStart => exact ⟨0, Nat.zero_le _, rfl, Keeps.refl _ _⟩
    case round =>
      obtain ⟨i, hi, rfl, hk⟩ := hrel
      by_cases hlt : i < n
      · have hix : i < ys.length := by rw [HN1.out]; exact hlt
        have I2 := Lib.hid (I.out.keep0 hk)
        have B2 := Lib.hid (B1.out.keep0 hk)
        have KK2 := Lib.hid hk
        obtain ⟨F, hF⟩ : ∃ F, F = i * j := ⟨_, rfl⟩
        have hFI : (i : Int) * (j : Int) = (F : Int) := by rw [hF]; simp
        have hFN : F + j ≤ N1 := by
          rw [hF, HNJ.out, Nat.mul_comm i j, ← Nat.mul_succ]
          exact Nat.mul_le_mul_left j hlt
        obtain ⟨rest, hrest⟩ := flatW_drop j ys i hix
        rcases a with _ | ⟨lb, lo', ls⟩
        · have := I2.out.2.1 rfl; rw [this] at hix; simp at hix
        obtain ⟨rfl, hlc⟩ := I2.out.2.2 lb lo' ls rfl (List.ne_nil_of_length_pos (by omega))
        have hxc := hlc i hix
        obtain ⟨x, ex⟩ : ∃ x, x = ys.getD i 0 := ⟨_, rfl⟩
        have hfx : fitB j true x = true := HF.out x (by rw [ex]; exact getD_mem hix)
        rw [← ex] at hxc hrest
        rcases aB1 with _ | ⟨gb, go', gs⟩
        · have h1 := B2.out.2.1 rfl; have h2 := B2.out.1; rw [h1] at h2; simp at h2; omega
        obtain ⟨rfl, -⟩ := B2.out.2.2 gb go' gs rfl (List.ne_nil_of_length_pos (by have := B2.out.1; omega))
        have hdr := B2.out.drop (k := F) (by omega)
        rw [HL.out, hF, hrest, ← hF] at hdr
        have hget := get_put j true x hj1 hj4 hfx rest
        have GET := Lib.hid (show ((0 : Int), x) = getR j true (wd j x ++ rest) from hget.symm)
        have DR := Lib.hid hdr
        obtain ⟨⟨y1, y2⟩, hy⟩ : ∃ R, R = getR j false (wd j x ++ rest) := ⟨_, rfl⟩
        have GETP := Lib.hid hy
        have hFc : F < cB1 := by omega
        clear hlc ex hfx hrest hF hdr hget hix hk hy
        go_wp2_with fail
        refine (GetPlain_any j _ (N1 - F) (cB1 - F) _ _ DR.out (by omega) (by unfold maxLen; omega)).mono ?_
        rintro e v1 ⟨he, q1⟩
        rw [← GETP.out] at he
        have he : e = .returned (.tuple #[.int .i64 y2, .int .i64 y1]) := he
        subst he
        have DR1 := Lib.hid (DR.out.keep0 q1)
        have hxc := (q1.cell (World.block_lt_of_cell? _ _ hxc) (by simp)).trans hxc
        have Q1 := Lib.hid q1
        clear q1
        go_wp2_with fail
        refine (Get_any j _ (N1 - F) (cB1 - F) _ _ DR1.out (by omega) (by unfold maxLen; omega)).mono ?_
        rintro e v2 ⟨he, q2⟩
        rw [← GET.out] at he
        have he : e = .returned (.tuple #[.int .i64 x, .int .i64 0]) := he
        subst he
        have hxc := (q2.cell (World.block_lt_of_cell? _ _ hxc) (by simp)).trans hxc
        have QQ := Lib.hid ((KK2.out.trans0 Q1.out).trans0 q2)
        clear q2
        go_wp2_with fail
        go_roundw
        case rel => exact ⟨i + 1, by omega, by go_num, QQ.out⟩
        case measure => simp [intOf]; omega
      · have K2 := Lib.hid (KK.out.trans0 hk)
        go_wp2_with fail
        go_ret
        exact ⟨rfl, K2.out⟩

set_option maxRecDepth 100000 in
set_option maxHeartbeats 1000000 in
theorem back_tB (k : Int) (a : Option Addr) (n c : Nat) (xs : List Int) (w : World) (hi0 : IntsAt w a n xs) (hx0 : ∀ x ∈ xs, I64 x) (hn : n ≤ c) (hc : c ≤ maxLen) (hcase : 200 < n) :
    Calls Try.prog 6 #[.int .i64 k, .slice a n c, .bool true] w fun e w' => e = .returned (.bool true) ∧ Keeps [] w w' := by
  unfold maxLen at hc
  obtain ⟨ys, hys⟩ : ∃ ys, ys = xs.take 200 := ⟨_, rfl⟩
  have hi : IntsAt w a 200 ys := by rw [hys]; exact hi0.take (by omega)
  have hx : ∀ x ∈ ys, I64 x := by rw [hys]; exact fun x h => hx0 x (List.mem_of_mem_take h)
  have hcase2 : ¬ (n : Int) ≤ 200 := by omega
  have I := Lib.hid hi
  have HX := Lib.hid hx
  have HN1 := Lib.hid (show ys.length = 200 from hi.1.symm)
  have KK := Lib.hid (Keeps.refl [] w)
  obtain ⟨⟨z0, l0⟩, hR0⟩ : ∃ R, R = putR k false ys := ⟨_, rfl⟩
  obtain ⟨N0, hL0⟩ : ∃ N, N = l0.length := ⟨_, rfl⟩
  have R0 := Lib.hid hR0
  have N0H := Lib.hid hL0
  clear hx hi0 hx0 hys hR0 hL0
  rcases putR_split k true ys with hP | ⟨j, hkj, hj1, hj4, hfit, hP⟩
  · have R1 := Lib.hid (show ((2 : Int), ([] : List Int)) = putR k true ys from hP.symm)
    obtain ⟨N1, hN1⟩ : ∃ N, N = 0 := ⟨_, rfl⟩
    have N1H := Lib.hid (show N1 = ([] : List Int).length from hN1)
    clear hP hi hN1
    go_enter Try.func6, Try.ntmps6
    go_wp2_with fail
    refine (works_any _).mono ?_
    rintro e w1 ⟨rfl, q⟩
    have I := Lib.hid (I.out.keep0 q)
    have KK := Lib.hid (KK.out.trans0 q)
    clear q
    go_wp2_with fail
    refine (Plain_any k a 200 c ys _ I.out HX.out (by omega)).mono ?_
    rintro e w2 ho
    rw [← R0.out] at ho
    obtain ⟨aB0, cB0, he, hj, q, hl, hm⟩ := ho
    have he : e = .returned (.tuple #[.slice aB0 N0 cB0, .int .i64 z0]) := by rw [he, N0H.out]
    subst he
    have hj : IntsAt w2 aB0 N0 l0 := by rw [N0H.out]; exact hj
    have hl : N0 ≤ cB0 := by rw [N0H.out]; exact hl
    have I := Lib.hid (I.out.keep0 q)
    have KK := Lib.hid (KK.out.trans0 q)
    have B0 := Lib.hid hj
    have B0L := Lib.hid hl
    have B0M := Lib.hid hm
    clear q hl hm hj
    go_wp2_with fail
    refine (Signed_any k a 200 c ys _ I.out HX.out (by omega)).mono ?_
    rintro e w3 ho
    rw [← R1.out] at ho
    obtain ⟨aB1, cB1, he, hj, q, hl, hm⟩ := ho
    have he : e = .returned (.tuple #[.slice aB1 N1 cB1, .int .i64 2]) := by rw [he, N1H.out]
    subst he
    have hj : IntsAt w3 aB1 N1 [] := by rw [N1H.out]; exact hj
    have hl : N1 ≤ cB1 := by rw [N1H.out]; exact hl
    have I := Lib.hid (I.out.keep0 q)
    have B0 := Lib.hid (B0.out.keep0 q)
    have KK := Lib.hid (KK.out.trans0 q)
    have B1 := Lib.hid hj
    have B1L := Lib.hid hl
    have B1M := Lib.hid hm
    clear q hl hm hj
    have hz : N1 = 0 := N1H.out
    have hz2 : (N1 : Int) = 0 := by rw [hz]; rfl
    go_wp2_with fail
    go_ret
    exact ⟨rfl, KK.out⟩
  · subst hkj
    obtain ⟨L, hL⟩ : ∃ L, L = flatW j ys := ⟨_, rfl⟩
    obtain ⟨N1, hN1⟩ : ∃ N, N = L.length := ⟨_, rfl⟩
    have hNj : N1 = j * 200 := by rw [hN1, hL, flatW_len, HN1.out]
    have hN8 : N1 ≤ 800 := by rw [hNj]; exact Nat.le_trans (Nat.mul_le_mul hj4 (show 200 ≤ 200 by omega)) (by decide)
    have hjn : (j : Int) * (200 : Int) = (N1 : Int) := by rw [hNj]; simp
    have R1 := Lib.hid (show ((0 : Int), L) = putR j true ys by rw [hP, hL])
    have N1H := Lib.hid hN1
    have HL := Lib.hid hL
    have HNJ := Lib.hid hNj
    have HF := Lib.hid hfit
    clear hP hi hN1 hL hNj hfit
    go_enter Try.func6, Try.ntmps6
    go_wp2_with fail
    refine (works_any _).mono ?_
    rintro e w1 ⟨rfl, q⟩
    have I := Lib.hid (I.out.keep0 q)
    have KK := Lib.hid (KK.out.trans0 q)
    clear q
    go_wp2_with fail
    refine (Plain_any j a 200 c ys _ I.out HX.out (by omega)).mono ?_
    rintro e w2 ho
    rw [← R0.out] at ho
    obtain ⟨aB0, cB0, he, hj, q, hl, hm⟩ := ho
    have he : e = .returned (.tuple #[.slice aB0 N0 cB0, .int .i64 z0]) := by rw [he, N0H.out]
    subst he
    have hj : IntsAt w2 aB0 N0 l0 := by rw [N0H.out]; exact hj
    have hl : N0 ≤ cB0 := by rw [N0H.out]; exact hl
    have I := Lib.hid (I.out.keep0 q)
    have KK := Lib.hid (KK.out.trans0 q)
    have B0 := Lib.hid hj
    have B0L := Lib.hid hl
    have B0M := Lib.hid hm
    clear q hl hm hj
    go_wp2_with fail
    refine (Signed_any j a 200 c ys _ I.out HX.out (by omega)).mono ?_
    rintro e w3 ho
    rw [← R1.out] at ho
    obtain ⟨aB1, cB1, he, hj, q, hl, hm⟩ := ho
    have he : e = .returned (.tuple #[.slice aB1 N1 cB1, .int .i64 0]) := by rw [he, N1H.out]
    subst he
    have hj : IntsAt w3 aB1 N1 L := by rw [N1H.out]; exact hj
    have hl : N1 ≤ cB1 := by rw [N1H.out]; exact hl
    have I := Lib.hid (I.out.keep0 q)
    have B0 := Lib.hid (B0.out.keep0 q)
    have KK := Lib.hid (KK.out.trans0 q)
    have B1 := Lib.hid hj
    have B1L := Lib.hid hl
    have B1M := Lib.hid hm
    clear q hl hm hj
    go_wp2_with fail
    have B1b := B1L.out
    have B1m := B1M.out
    unfold maxLen at B1m
    go_loopw [9] (fun vi wr => ∃ i : Nat, i ≤ 200 ∧ vi = .int .i64 i ∧ Keeps [] w3 wr) (fun vi _ => 200 - (intOf vi).toNat)
    case atStart => exact ⟨0, Nat.zero_le _, rfl, Keeps.refl _ _⟩
    case round =>
      obtain ⟨i, hi, rfl, hk⟩ := hrel
      by_cases hlt : i < 200
      · have hix : i < ys.length := by rw [HN1.out]; exact hlt
        have I2 := Lib.hid (I.out.keep0 hk)
        have B2 := Lib.hid (B1.out.keep0 hk)
        have KK2 := Lib.hid hk
        obtain ⟨F, hF⟩ : ∃ F, F = i * j := ⟨_, rfl⟩
        have hFI : (i : Int) * (j : Int) = (F : Int) := by rw [hF]; simp
        have hFN : F + j ≤ N1 := by
          rw [hF, HNJ.out, Nat.mul_comm i j, ← Nat.mul_succ]
          exact Nat.mul_le_mul_left j hlt
        obtain ⟨rest, hrest⟩ := flatW_drop j ys i hix
        rcases a with _ | ⟨lb, lo', ls⟩
        · have := I2.out.2.1 rfl; rw [this] at hix; simp at hix
        obtain ⟨rfl, hlc⟩ := I2.out.2.2 lb lo' ls rfl (List.ne_nil_of_length_pos (by omega))
        have hxc := hlc i hix
        obtain ⟨x, ex⟩ : ∃ x, x = ys.getD i 0 := ⟨_, rfl⟩
        have hfx : fitB j true x = true := HF.out x (by rw [ex]; exact getD_mem hix)
        rw [← ex] at hxc hrest
        rcases aB1 with _ | ⟨gb, go', gs⟩
        · have h1 := B2.out.2.1 rfl; have h2 := B2.out.1; rw [h1] at h2; simp at h2; omega
        obtain ⟨rfl, -⟩ := B2.out.2.2 gb go' gs rfl (List.ne_nil_of_length_pos (by have := B2.out.1; omega))
        have hdr := B2.out.drop (k := F) (by omega)
        rw [HL.out, hF, hrest, ← hF] at hdr
        have hget := get_put j true x hj1 hj4 hfx rest
        have GET := Lib.hid (show ((0 : Int), x) = getR j true (wd j x ++ rest) from hget.symm)
        have DR := Lib.hid hdr
        obtain ⟨⟨y1, y2⟩, hy⟩ : ∃ R, R = getR j false (wd j x ++ rest) := ⟨_, rfl⟩
        have GETP := Lib.hid hy
        have hFc : F < cB1 := by omega
        clear hlc ex hfx hrest hF hdr hget hix hk hy
        go_wp2_with fail
        refine (GetPlain_any j _ (N1 - F) (cB1 - F) _ _ DR.out (by omega) (by unfold maxLen; omega)).mono ?_
        rintro e v1 ⟨he, q1⟩
        rw [← GETP.out] at he
        have he : e = .returned (.tuple #[.int .i64 y2, .int .i64 y1]) := he
        subst he
        have DR1 := Lib.hid (DR.out.keep0 q1)
        have hxc := (q1.cell (World.block_lt_of_cell? _ _ hxc) (by simp)).trans hxc
        have Q1 := Lib.hid q1
        clear q1
        go_wp2_with fail
        refine (Get_any j _ (N1 - F) (cB1 - F) _ _ DR1.out (by omega) (by unfold maxLen; omega)).mono ?_
        rintro e v2 ⟨he, q2⟩
        rw [← GET.out] at he
        have he : e = .returned (.tuple #[.int .i64 x, .int .i64 0]) := he
        subst he
        have hxc := (q2.cell (World.block_lt_of_cell? _ _ hxc) (by simp)).trans hxc
        have QQ := Lib.hid ((KK2.out.trans0 Q1.out).trans0 q2)
        clear q2
        go_wp2_with fail
        go_roundw
        case rel => exact ⟨i + 1, by omega, by go_num, QQ.out⟩
        case measure => simp [intOf]; omega
      · have K2 := Lib.hid (KK.out.trans0 hk)
        go_wp2_with fail
        go_ret
        exact ⟨rfl, K2.out⟩

set_option maxRecDepth 100000 in
set_option maxHeartbeats 1000000 in
theorem back_fA (k : Int) (a : Option Addr) (n c : Nat) (xs : List Int) (w : World) (hi0 : IntsAt w a n xs) (hx0 : ∀ x ∈ xs, I64 x) (hn : n ≤ c) (hc : c ≤ maxLen) (hcase : n ≤ 200) :
    Calls Try.prog 6 #[.int .i64 k, .slice a n c, .bool false] w fun e w' => e = .returned (.bool true) ∧ Keeps [] w w' := by
  unfold maxLen at hc
  obtain ⟨ys, hys⟩ : ∃ ys, ys = xs := ⟨_, rfl⟩
  have hi : IntsAt w a n ys := by rw [hys]; exact hi0
  have hx : ∀ x ∈ ys, I64 x := by rw [hys]; exact hx0
  have hcase2 : (n : Int) ≤ 200 := by omega
  have I := Lib.hid hi
  have HX := Lib.hid hx
  have HN1 := Lib.hid (show ys.length = n from hi.1.symm)
  have KK := Lib.hid (Keeps.refl [] w)
  obtain ⟨⟨z0, l0⟩, hR0⟩ : ∃ R, R = putR k false ys := ⟨_, rfl⟩
  obtain ⟨N0, hL0⟩ : ∃ N, N = l0.length := ⟨_, rfl⟩
  have R0 := Lib.hid hR0
  have N0H := Lib.hid hL0
  clear hx hi0 hx0 hys hR0 hL0
  rcases putR_split k false ys with hP | ⟨j, hkj, hj1, hj4, hfit, hP⟩
  · have R1 := Lib.hid (show ((2 : Int), ([] : List Int)) = putR k false ys from hP.symm)
    obtain ⟨N1, hN1⟩ : ∃ N, N = 0 := ⟨_, rfl⟩
    have N1H := Lib.hid (show N1 = ([] : List Int).length from hN1)
    clear hP hi hN1
    go_enter Try.func6, Try.ntmps6
    go_wp2_with fail
    refine (works_any _).mono ?_
    rintro e w1 ⟨rfl, q⟩
    have I := Lib.hid (I.out.keep0 q)
    have KK := Lib.hid (KK.out.trans0 q)
    clear q
    go_wp2_with fail
    refine (Plain_any k a n c ys _ I.out HX.out (by omega)).mono ?_
    rintro e w2 ho
    rw [← R1.out] at ho
    obtain ⟨aB1, cB1, he, hj, q, hl, hm⟩ := ho
    have he : e = .returned (.tuple #[.slice aB1 N1 cB1, .int .i64 2]) := by rw [he, N1H.out]
    subst he
    have hj : IntsAt w2 aB1 N1 [] := by rw [N1H.out]; exact hj
    have hl : N1 ≤ cB1 := by rw [N1H.out]; exact hl
    have I := Lib.hid (I.out.keep0 q)
    have KK := Lib.hid (KK.out.trans0 q)
    have B1 := Lib.hid hj
    have B1L := Lib.hid hl
    have B1M := Lib.hid hm
    clear q hl hm hj
    have hz : N1 = 0 := N1H.out
    have hz2 : (N1 : Int) = 0 := by rw [hz]; rfl
    go_wp2_with fail
    go_ret
    exact ⟨rfl, KK.out⟩
  · subst hkj
    obtain ⟨L, hL⟩ : ∃ L, L = flatW j ys := ⟨_, rfl⟩
    obtain ⟨N1, hN1⟩ : ∃ N, N = L.length := ⟨_, rfl⟩
    have hNj : N1 = j * n := by rw [hN1, hL, flatW_len, HN1.out]
    have hN8 : N1 ≤ 800 := by rw [hNj]; exact Nat.le_trans (Nat.mul_le_mul hj4 (show n ≤ 200 by omega)) (by decide)
    have hjn : (j : Int) * (n : Int) = (N1 : Int) := by rw [hNj]; simp
    have R1 := Lib.hid (show ((0 : Int), L) = putR j false ys by rw [hP, hL])
    have N1H := Lib.hid hN1
    have HL := Lib.hid hL
    have HNJ := Lib.hid hNj
    have HF := Lib.hid hfit
    clear hP hi hN1 hL hNj hfit
    go_enter Try.func6, Try.ntmps6
    go_wp2_with fail
    refine (works_any _).mono ?_
    rintro e w1 ⟨rfl, q⟩
    have I := Lib.hid (I.out.keep0 q)
    have KK := Lib.hid (KK.out.trans0 q)
    clear q
    go_wp2_with fail
    refine (Plain_any j a n c ys _ I.out HX.out (by omega)).mono ?_
    rintro e w2 ho
    rw [← R1.out] at ho
    obtain ⟨aB1, cB1, he, hj, q, hl, hm⟩ := ho
    have he : e = .returned (.tuple #[.slice aB1 N1 cB1, .int .i64 0]) := by rw [he, N1H.out]
    subst he
    have hj : IntsAt w2 aB1 N1 L := by rw [N1H.out]; exact hj
    have hl : N1 ≤ cB1 := by rw [N1H.out]; exact hl
    have I := Lib.hid (I.out.keep0 q)
    have KK := Lib.hid (KK.out.trans0 q)
    have B1 := Lib.hid hj
    have B1L := Lib.hid hl
    have B1M := Lib.hid hm
    clear q hl hm hj
    go_wp2_with fail
    have B1b := B1L.out
    have B1m := B1M.out
    unfold maxLen at B1m
    go_loopw [9] (fun vi wr => ∃ i : Nat, i ≤ n ∧ vi = .int .i64 i ∧ Keeps [] w2 wr) (fun vi _ => n - (intOf vi).toNat)
    case atStart => exact ⟨0, Nat.zero_le _, rfl, Keeps.refl _ _⟩
    case round =>
      obtain ⟨i, hi, rfl, hk⟩ := hrel
      by_cases hlt : i < n
      · have hix : i < ys.length := by rw [HN1.out]; exact hlt
        have I2 := Lib.hid (I.out.keep0 hk)
        have B2 := Lib.hid (B1.out.keep0 hk)
        have KK2 := Lib.hid hk
        obtain ⟨F, hF⟩ : ∃ F, F = i * j := ⟨_, rfl⟩
        have hFI : (i : Int) * (j : Int) = (F : Int) := by rw [hF]; simp
        have hFN : F + j ≤ N1 := by
          rw [hF, HNJ.out, Nat.mul_comm i j, ← Nat.mul_succ]
          exact Nat.mul_le_mul_left j hlt
        obtain ⟨rest, hrest⟩ := flatW_drop j ys i hix
        rcases a with _ | ⟨lb, lo', ls⟩
        · have := I2.out.2.1 rfl; rw [this] at hix; simp at hix
        obtain ⟨rfl, hlc⟩ := I2.out.2.2 lb lo' ls rfl (List.ne_nil_of_length_pos (by omega))
        have hxc := hlc i hix
        obtain ⟨x, ex⟩ : ∃ x, x = ys.getD i 0 := ⟨_, rfl⟩
        have hfx : fitB j false x = true := HF.out x (by rw [ex]; exact getD_mem hix)
        rw [← ex] at hxc hrest
        rcases aB1 with _ | ⟨gb, go', gs⟩
        · have h1 := B2.out.2.1 rfl; have h2 := B2.out.1; rw [h1] at h2; simp at h2; omega
        obtain ⟨rfl, -⟩ := B2.out.2.2 gb go' gs rfl (List.ne_nil_of_length_pos (by have := B2.out.1; omega))
        have hdr := B2.out.drop (k := F) (by omega)
        rw [HL.out, hF, hrest, ← hF] at hdr
        have hget := get_put j false x hj1 hj4 hfx rest
        have GET := Lib.hid (show ((0 : Int), x) = getR j false (wd j x ++ rest) from hget.symm)
        have DR := Lib.hid hdr
        obtain ⟨⟨y1, y2⟩, hy⟩ : ∃ R, R = getR j false (wd j x ++ rest) := ⟨_, rfl⟩
        have GETP := Lib.hid hy
        have hFc : F < cB1 := by omega
        clear hlc ex hfx hrest hF hdr hget hix hk hy
        go_wp2_with fail
        refine (GetPlain_any j _ (N1 - F) (cB1 - F) _ _ DR.out (by omega) (by unfold maxLen; omega)).mono ?_
        rintro e v2 ⟨he, q2⟩
        rw [← GET.out] at he
        have he : e = .returned (.tuple #[.int .i64 x, .int .i64 0]) := he
        subst he
        have hxc := (q2.cell (World.block_lt_of_cell? _ _ hxc) (by simp)).trans hxc
        have QQ := Lib.hid (KK2.out.trans0 q2)
        clear q2
        go_wp2_with fail
        go_roundw
        case rel => exact ⟨i + 1, by omega, by go_num, QQ.out⟩
        case measure => simp [intOf]; omega
      · have K2 := Lib.hid (KK.out.trans0 hk)
        go_wp2_with fail
        go_ret
        exact ⟨rfl, K2.out⟩

set_option maxRecDepth 100000 in
set_option maxHeartbeats 1000000 in
theorem back_fB (k : Int) (a : Option Addr) (n c : Nat) (xs : List Int) (w : World) (hi0 : IntsAt w a n xs) (hx0 : ∀ x ∈ xs, I64 x) (hn : n ≤ c) (hc : c ≤ maxLen) (hcase : 200 < n) :
    Calls Try.prog 6 #[.int .i64 k, .slice a n c, .bool false] w fun e w' => e = .returned (.bool true) ∧ Keeps [] w w' := by
  unfold maxLen at hc
  obtain ⟨ys, hys⟩ : ∃ ys, ys = xs.take 200 := ⟨_, rfl⟩
  have hi : IntsAt w a 200 ys := by rw [hys]; exact hi0.take (by omega)
  have hx : ∀ x ∈ ys, I64 x := by rw [hys]; exact fun x h => hx0 x (List.mem_of_mem_take h)
  have hcase2 : ¬ (n : Int) ≤ 200 := by omega
  have I := Lib.hid hi
  have HX := Lib.hid hx
  have HN1 := Lib.hid (show ys.length = 200 from hi.1.symm)
  have KK := Lib.hid (Keeps.refl [] w)
  obtain ⟨⟨z0, l0⟩, hR0⟩ : ∃ R, R = putR k false ys := ⟨_, rfl⟩
  obtain ⟨N0, hL0⟩ : ∃ N, N = l0.length := ⟨_, rfl⟩
  have R0 := Lib.hid hR0
  have N0H := Lib.hid hL0
  clear hx hi0 hx0 hys hR0 hL0
  rcases putR_split k false ys with hP | ⟨j, hkj, hj1, hj4, hfit, hP⟩
  · have R1 := Lib.hid (show ((2 : Int), ([] : List Int)) = putR k false ys from hP.symm)
    obtain ⟨N1, hN1⟩ : ∃ N, N = 0 := ⟨_, rfl⟩
    have N1H := Lib.hid (show N1 = ([] : List Int).length from hN1)
    clear hP hi hN1
    go_enter Try.func6, Try.ntmps6
    go_wp2_with fail
    refine (works_any _).mono ?_
    rintro e w1 ⟨rfl, q⟩
    have I := Lib.hid (I.out.keep0 q)
    have KK := Lib.hid (KK.out.trans0 q)
    clear q
    go_wp2_with fail
    refine (Plain_any k a 200 c ys _ I.out HX.out (by omega)).mono ?_
    rintro e w2 ho
    rw [← R1.out] at ho
    obtain ⟨aB1, cB1, he, hj, q, hl, hm⟩ := ho
    have he : e = .returned (.tuple #[.slice aB1 N1 cB1, .int .i64 2]) := by rw [he, N1H.out]
    subst he
    have hj : IntsAt w2 aB1 N1 [] := by rw [N1H.out]; exact hj
    have hl : N1 ≤ cB1 := by rw [N1H.out]; exact hl
    have I := Lib.hid (I.out.keep0 q)
    have KK := Lib.hid (KK.out.trans0 q)
    have B1 := Lib.hid hj
    have B1L := Lib.hid hl
    have B1M := Lib.hid hm
    clear q hl hm hj
    have hz : N1 = 0 := N1H.out
    have hz2 : (N1 : Int) = 0 := by rw [hz]; rfl
    go_wp2_with fail
    go_ret
    exact ⟨rfl, KK.out⟩
  · subst hkj
    obtain ⟨L, hL⟩ : ∃ L, L = flatW j ys := ⟨_, rfl⟩
    obtain ⟨N1, hN1⟩ : ∃ N, N = L.length := ⟨_, rfl⟩
    have hNj : N1 = j * 200 := by rw [hN1, hL, flatW_len, HN1.out]
    have hN8 : N1 ≤ 800 := by rw [hNj]; exact Nat.le_trans (Nat.mul_le_mul hj4 (show 200 ≤ 200 by omega)) (by decide)
    have hjn : (j : Int) * (200 : Int) = (N1 : Int) := by rw [hNj]; simp
    have R1 := Lib.hid (show ((0 : Int), L) = putR j false ys by rw [hP, hL])
    have N1H := Lib.hid hN1
    have HL := Lib.hid hL
    have HNJ := Lib.hid hNj
    have HF := Lib.hid hfit
    clear hP hi hN1 hL hNj hfit
    go_enter Try.func6, Try.ntmps6
    go_wp2_with fail
    refine (works_any _).mono ?_
    rintro e w1 ⟨rfl, q⟩
    have I := Lib.hid (I.out.keep0 q)
    have KK := Lib.hid (KK.out.trans0 q)
    clear q
    go_wp2_with fail
    refine (Plain_any j a 200 c ys _ I.out HX.out (by omega)).mono ?_
    rintro e w2 ho
    rw [← R1.out] at ho
    obtain ⟨aB1, cB1, he, hj, q, hl, hm⟩ := ho
    have he : e = .returned (.tuple #[.slice aB1 N1 cB1, .int .i64 0]) := by rw [he, N1H.out]
    subst he
    have hj : IntsAt w2 aB1 N1 L := by rw [N1H.out]; exact hj
    have hl : N1 ≤ cB1 := by rw [N1H.out]; exact hl
    have I := Lib.hid (I.out.keep0 q)
    have KK := Lib.hid (KK.out.trans0 q)
    have B1 := Lib.hid hj
    have B1L := Lib.hid hl
    have B1M := Lib.hid hm
    clear q hl hm hj
    go_wp2_with fail
    have B1b := B1L.out
    have B1m := B1M.out
    unfold maxLen at B1m
    go_loopw [9] (fun vi wr => ∃ i : Nat, i ≤ 200 ∧ vi = .int .i64 i ∧ Keeps [] w2 wr) (fun vi _ => 200 - (intOf vi).toNat)
    case atStart => exact ⟨0, Nat.zero_le _, rfl, Keeps.refl _ _⟩
    case round =>
      obtain ⟨i, hi, rfl, hk⟩ := hrel
      by_cases hlt : i < 200
      · have hix : i < ys.length := by rw [HN1.out]; exact hlt
        have I2 := Lib.hid (I.out.keep0 hk)
        have B2 := Lib.hid (B1.out.keep0 hk)
        have KK2 := Lib.hid hk
        obtain ⟨F, hF⟩ : ∃ F, F = i * j := ⟨_, rfl⟩
        have hFI : (i : Int) * (j : Int) = (F : Int) := by rw [hF]; simp
        have hFN : F + j ≤ N1 := by
          rw [hF, HNJ.out, Nat.mul_comm i j, ← Nat.mul_succ]
          exact Nat.mul_le_mul_left j hlt
        obtain ⟨rest, hrest⟩ := flatW_drop j ys i hix
        rcases a with _ | ⟨lb, lo', ls⟩
        · have := I2.out.2.1 rfl; rw [this] at hix; simp at hix
        obtain ⟨rfl, hlc⟩ := I2.out.2.2 lb lo' ls rfl (List.ne_nil_of_length_pos (by omega))
        have hxc := hlc i hix
        obtain ⟨x, ex⟩ : ∃ x, x = ys.getD i 0 := ⟨_, rfl⟩
        have hfx : fitB j false x = true := HF.out x (by rw [ex]; exact getD_mem hix)
        rw [← ex] at hxc hrest
        rcases aB1 with _ | ⟨gb, go', gs⟩
        · have h1 := B2.out.2.1 rfl; have h2 := B2.out.1; rw [h1] at h2; simp at h2; omega
        obtain ⟨rfl, -⟩ := B2.out.2.2 gb go' gs rfl (List.ne_nil_of_length_pos (by have := B2.out.1; omega))
        have hdr := B2.out.drop (k := F) (by omega)
        rw [HL.out, hF, hrest, ← hF] at hdr
        have hget := get_put j false x hj1 hj4 hfx rest
        have GET := Lib.hid (show ((0 : Int), x) = getR j false (wd j x ++ rest) from hget.symm)
        have DR := Lib.hid hdr
        obtain ⟨⟨y1, y2⟩, hy⟩ : ∃ R, R = getR j false (wd j x ++ rest) := ⟨_, rfl⟩
        have GETP := Lib.hid hy
        have hFc : F < cB1 := by omega
        clear hlc ex hfx hrest hF hdr hget hix hk hy
        go_wp2_with fail
        refine (GetPlain_any j _ (N1 - F) (cB1 - F) _ _ DR.out (by omega) (by unfold maxLen; omega)).mono ?_
        rintro e v2 ⟨he, q2⟩
        rw [← GET.out] at he
        have he : e = .returned (.tuple #[.int .i64 x, .int .i64 0]) := he
        subst he
        have hxc := (q2.cell (World.block_lt_of_cell? _ _ hxc) (by simp)).trans hxc
        have QQ := Lib.hid (KK2.out.trans0 q2)
        clear q2
        go_wp2_with fail
        go_roundw
        case rel => exact ⟨i + 1, by omega, by go_num, QQ.out⟩
        case measure => simp [intOf]; omega
      · have K2 := Lib.hid (KK.out.trans0 hk)
        go_wp2_with fail
        go_ret
        exact ⟨rfl, K2.out⟩
theorem back_any (k : Int) (a : Option Addr) (n c : Nat) (xs : List Int) (s : Bool) (w : World) (hi0 : IntsAt w a n xs) (hx0 : ∀ x ∈ xs, I64 x) (hn : n ≤ c) (hc : c ≤ maxLen) :
    Calls Try.prog 6 #[.int .i64 k, .slice a n c, .bool s] w fun e w' => e = .returned (.bool true) ∧ Keeps [] w w' := by
  by_cases h : n ≤ 200
  · cases s
    · exact back_fA k a n c xs w hi0 hx0 hn hc h
    · exact back_tA k a n c xs w hi0 hx0 hn hc h
  · cases s
    · exact back_fB k a n c xs w hi0 hx0 hn hc (by omega)
    · exact back_tB k a n c xs w hi0 hx0 hn hc (by omega)
end Go.Proofs.Ytfmegladcjcjgaa
