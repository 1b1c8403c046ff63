
/- group: what is free: the contract. No condition but lengths. -/
import Derived.Test.YtihpmnnbiabggaaDoorRb
import Derived.Test.YtihpmnnbiabggaaDoorGo
namespace Go.Proofs.YtihpmnnbiabggaaDoor
open Go.RowKit Go.Shelf
set_option linter.unusedVariables false
set_option maxRecDepth 100000
attribute [local go_sem] Oper.semAt_some

theorem IntsAt.mid {w : World} {b o n : Nat} {xs : List Int} (h : IntsAt w (some ⟨b, o, none⟩) n xs) {i m : Nat} (hm : i + m ≤ n) : IntsAt w (some ⟨b, o + i, none⟩) m ((xs.drop i).take m) := by
  have hl := h.1
  refine ⟨by simp; omega, by simp, ?_⟩
  rintro b' o' s e hne
  injection e with e
  injection e with e1 e2 e3
  subst e1; subst e2; subst e3
  have hpos := List.length_pos_iff.2 hne
  simp at hpos
  obtain ⟨-, h2⟩ := h.2.2 b o none rfl (List.ne_nil_of_length_pos (by omega))
  refine ⟨rfl, fun j hj => ?_⟩
  simp at hj
  have := h2 (i + j) (by omega)
  rw [Nat.add_assoc, this]
  simp [List.getD, show j < m by omega]
theorem IntsAt.slot {w : World} {b o n : Nat} {xs : List Int} (h : IntsAt w (some ⟨b, o, none⟩) n xs) {k : Nat} (hk : k < n / 16) : IntsAt w (some ⟨b, o + 16 * k, none⟩) 16 (slotA xs k) := h.mid (by omega)

/-- What is free behind some slots. -/
def freeOf (xs : List Int) (ks : List Nat) : Nat := ks.foldl (fun f k => if blankB (slotA xs k) = true then f else k + 1) 0
theorem freeOf_snoc (xs : List Int) (ks : List Nat) (k : Nat) : freeOf xs (ks ++ [k]) = if blankB (slotA xs k) = true then freeOf xs ks else k + 1 := by simp [freeOf]
theorem take_slots {xs : List Int} {k : Nat} (hk : k < xs.length / 16) : (slotsL xs).take (k + 1) = (slotsL xs).take k ++ [slotA xs k] := by
  rw [List.take_add_one, slotsL_get hk]; rfl
theorem free_upto (xs : List Int) : ∀ k, k ≤ xs.length / 16 → (foundL ((slotsL xs).take k)).free = freeOf xs (List.range k)
  | 0, _ => rfl
  | k + 1, h => by
    rw [take_slots h, foundL_snoc, free_stepS, free_upto xs k (by omega), List.range_succ, freeOf_snoc, List.length_take, slotsL_len, Nat.min_eq_left (by omega)]
theorem free_scan (xs : List Int) : (scanR xs).free = freeOf xs (List.range (xs.length / 16)) := by
  rw [← free_upto xs _ (Nat.le_refl _), List.take_of_length_le (by rw [slotsL_len]; exact Nat.le_refl _)]; rfl

set_option maxHeartbeats 2000000 in
theorem free_any (a : Option Addr) (n c : Nat) (xs : List Int) (w : World) (hi : IntsAt w a n xs) (hn : n ≤ c) (hc : c ≤ maxLen) :
    Calls Tryd.prog 14 #[.slice a n c] w fun e w' => e = .returned (.int .i64 ((scanR xs).free : Int)) ∧ Keeps [] w w' := by
  obtain ⟨b, o, hab⟩ : ∃ b o, n < 16 ∨ a = some ⟨b, o, none⟩ := by
    by_cases h : n < 16
    · exact ⟨0, 0, .inl h⟩
    · obtain ⟨b, o, rfl⟩ := hi.addr (by omega)
      exact ⟨b, o, .inr rfl⟩
  have hlen := hi.1
  have hlt : ∀ x : Pl (n / 16), ∀ W, Below w.heap.size w W → IntsAt W (some ⟨b, o + 16 * x.1, none⟩) 16 (slotA xs x.1) := fun x W hB => by
    have hx := x.2
    obtain rfl := hab.resolve_left (by omega)
    exact (hi.keep (Keeps.of_below hB : Keeps [] w W) (by simp)).slot hx
  have hfs := free_scan xs
  rw [← hlen] at hfs
  have HFS := Lib.hid hfs
  clear hlen hfs
  refine (callsIn_wide (n := 3)).1 ?_
  refine callsIn_of_wp_marks Tryd.func14 rfl trivial ?_ rfl
  simp only [Tryd.ntmps14, List.size_toArray, List.length_cons, List.length_nil, Nat.reduceAdd, Nat.reduceSub, Array.replicate_succ, Array.replicate_zero, List.push_toArray, List.append_toArray, List.nil_append, List.cons_append]
  gi_wp2_with (refine ⟨trivial, ?_⟩; gi_at_call 15; refine (callsIn_wide.2 (slots_any _ _ _ _)).mono ?_; rintro e w' ⟨rfl, rfl⟩)
  have bS := Boxed.new w 3 (.int .i64 0)
  have bN := Boxed.new (w.alloc (.cells #[.int .i64 0] 3)) 40 (.slice a n c)
  rw [World.size_alloc] at bN
  have hB0 : Below w.heap.size w ((w.alloc (.cells #[.int .i64 0] 3)).alloc (.cells #[.slice a n c] 40)) := ((Below.refl _ w).alloc (Nat.le_refl _) _).alloc (by simp) _
  refine wpIn_rangeFunc_ownG rfl (by omega) (gf := 22) (lb := #[.pointer (some ⟨w.heap.size + 1, 0, none⟩)]) rfl trivial (enters_of Tryd.func22 (by kernel_rfl) rfl)
    (slots_stops _ (by omega) (w.heap.size + 1) a b o n c hab hn hc _ bN) box_t (box_b (by simp)) (Below.refl _ _) (fun _ => rfl)
    (fun pre W => Boxed W w.heap.size 3 (.int .i64 (freeOf xs (pre.map (·.1)) : Int)) ∧ Below w.heap.size w W)
    (fun _ _ _ => False)
    (OwnFrom.and (Own.from (boxed_own _ _ _) _) (ownFrom_below (Nat.le_refl _) (by simp; omega)))
    (fun _ _ _ _ _ hs _ _ => hs)
    ⟨bS.alloc _, hB0⟩
    (fun x => { tmps := #[.slice a n c, undef, .int .i64 0, .pointer (some ⟨w.heap.size, 0, none⟩), .int .i64 (x.1 : Int), .slice (some ⟨b, o + 16 * x.1, none⟩) 16 (c - 16 * x.1), .slice a n c, .func (.func 22) #[] #[.pointer (some ⟨w.heap.size + 1, 0, none⟩)], .int .i64 (x.1 : Int), .slice (some ⟨b, o + 16 * x.1, none⟩) 16 (c - 16 * x.1), undef, undef, undef, undef, undef, undef], defers := [] }) ?assign ?body ?done ?stop
  case assign =>
    intro l x W K hK
    dsimp only [slotV]
    gi_wp2
    exact hK
  case body =>
    rintro l pre x W ⟨hbx, hB⟩ _
    have hcl := hbx.cell
    have hfz := hbx.frozen
    have hsl := hlt x W hB
    have hx := x.2
    have hx63 : x.1 ≤ 576460752303423488 := by unfold maxLen at hc; omega
    have hst := freeOf_snoc xs (pre.map (·.1)) x.1
    have hmap : (pre ++ [x]).map (·.1) = pre.map (·.1) ++ [x.1] := by simp
    rw [← hmap] at hst
    have HST := Lib.hid hst
    have e1 : IntKind.i64.wrap ((x.1 : Int) + 1) = ((x.1 + 1 : Nat) : Int) := by rw [IntKind.wrap_i64]; omega
    clear hst hmap
    cases hbl : blankB (slotA xs x.1)
    · have HBL := Lib.hid hbl
      gi_wp2_with (refine ⟨trivial, ?_⟩; gi_at_call 21; refine (CallsIn.inRound l (callsIn_wide.2 (blank_any _ _ _ _ _ hsl (by unfold maxLen; omega)))).mono ?_; rw [HBL.out]; rintro e w' ⟨rfl, rfl⟩)
      refine ⟨(KeepsOthers.setCell _ _ _).from _, ?_, ?_, ?_⟩
      · exact Below.heap_setCell _ _ _ _ (by simp)
      · have h := hbx.set (.int .i64 ((x.1 + 1 : Nat) : Int))
        rw [HST.out, if_neg (by rw [HBL.out]; simp)]
        exact h
      · exact hB.setCell (p := ⟨w.heap.size, 0, none⟩) (Nat.le_refl _) _
    · have HBL := Lib.hid hbl
      gi_wp2_with (refine ⟨trivial, ?_⟩; gi_at_call 21; refine (CallsIn.inRound l (callsIn_wide.2 (blank_any _ _ _ _ _ hsl (by unfold maxLen; omega)))).mono ?_; rw [HBL.out]; rintro e w' ⟨rfl, rfl⟩)
      refine ⟨KeepsFrom.refl _ _, rfl, ?_, hB⟩
      rw [HST.out, if_pos HBL.out]
      exact hbx
  case done =>
    rintro D ys W hD hS ⟨hbx, hB⟩ hK
    have hcl := hbx.cell
    rw [hS, ← HFS.out] at hcl
    gi_wp2
    refine ⟨by simp, .inl ⟨_, _, rfl, run_takeDeferred hK, ?_⟩⟩
    exact ⟨_, results_tmp rfl _ _ _, rfl, Keeps.of_below (hB.trans (belowK_b (w := w) (Nat.le_refl _) W D _ _ (by simp at hD; omega) hK rfl rfl))⟩
  case stop =>
    rintro D c pre W _ _ h _
    exact h.elim

end Go.Proofs.YtihpmnnbiabggaaDoor
