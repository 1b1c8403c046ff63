
/- group: the records just ahead of a place: the contract. No condition but lengths, and the table of the sums. -/
import Derived.Test.YtihpmnnbiabggaaDoorRd
namespace Go.Proofs.YtihpmnnbiabggaaDoor
open Go.RowKit Go.Shelf
set_option linter.unusedVariables false
set_option maxRecDepth 100000
attribute [local go_sem] Oper.semAt_some

/-- Are the slots all whole; the records of them. -/
def okAll (ys : List Int) (ks : List Nat) : Prop := ∀ k ∈ ks, (readR (slotA ys k)).1 = 0
def recAll (ys : List Int) (ks : List Nat) : List (List Int) := ks.map fun k => (readR (slotA ys k)).2
theorem recAll_13 (ys : List Int) (ks : List Nat) : ∀ r ∈ recAll ys ks, r.length = 13 := by
  intro r hr
  obtain ⟨k, -, rfl⟩ := List.mem_map.1 hr
  exact readR_len _
/-- The places alone; the cells of the records. -/
def pls {N : Nat} (pre : List (Pl N)) : List Nat := pre.map (·.1)
theorem pls_snoc {N : Nat} (pre : List (Pl N)) (x : Pl N) : pls (pre ++ [x]) = pls pre ++ [x.1] := by simp [pls]
def rowV (ys : List Int) (ks : List Nat) : List Value := (recAll ys ks).flatten.map (Value.int .i64)
theorem rowV_snoc (ys : List Int) (ks : List Nat) (k : Nat) : rowV ys (ks ++ [k]) = rowV ys ks ++ ((readR (slotA ys k)).2).map (.int .i64) := by simp [rowV, recAll]
theorem okAll_snoc {ys : List Int} {ks : List Nat} {k : Nat} (h : okAll ys ks) (hk : (readR (slotA ys k)).1 = 0) : okAll ys (ks ++ [k]) := by
  intro j hj
  rcases List.mem_append.1 hj with hj | hj
  · exact h j hj
  · rw [List.mem_singleton] at hj
    rw [hj]; exact hk
theorem okAll_not {ys : List Int} {ks : List Nat} {k : Nat} (hk : (readR (slotA ys k)).1 ≠ 0) : ¬ okAll ys (ks ++ [k]) := fun h => hk (h k (by simp))

theorem ret_two {fn : Func} {p q : Tmp} (h : fn.results = #[.cell p 36, .cell q 4]) {tmps : Array Value} {w : World} {g1 g2 : Nat} {a : Option Addr} {n c : Nat} {b : Bool}
    (h1 : Boxed w g1 36 (.slice a n c)) (h2 : Boxed w g2 4 (.bool b)) (hp : tmps.getD p undef = .pointer (some ⟨g1, 0, none⟩)) (hq : tmps.getD q undef = .pointer (some ⟨g2, 0, none⟩)) :
    (results fn tmps).run Tryd.prog w = .ok (.tuple #[.slice a n c, .bool b]) w := by
  have c1 := h1.cell
  have c2 := h2.cell
  have u1 := Tryd.underlying36
  have u2 := Tryd.underlying4
  rw [Array.getD_eq_getD_getElem?] at hp hq
  simp [results, h, go_sem, hp, hq, c1, c2]

theorem okAll_some {ys : List Int} {k m : Nat} (h : ¬ okAll ys (List.range k)) (hk : k ≤ m) : ¬ okAll ys (List.range m) := fun hm => h fun j hj => hm j (by simp at hj ⊢; omega)
theorem new_cells (w : World) (l : List Int) (t : TypeId) : ∀ j u, (l.map (Value.int .i64))[j]? = some u → (w.alloc (.cells (ints l) t)).cell? ((⟨w.heap.size, 0, none⟩ : Addr).add j) = some u := by
  intro j u hu
  rw [Addr.add_mid, Nat.zero_add]
  refine cell_of_block (heap_alloc_new w _) ?_
  simpa [ints] using hu
theorem keeps_below {w w3 W : World} (h : Keeps [] w w3) (k : Below w.heap.size w3 W) : Keeps [] w W :=
  ⟨k.os.trans h.os, k.output.trans h.output, Nat.le_trans h.size k.size, fun i hi hn => (k.block i hi).trans (h.block i hi hn)⟩
theorem keeps_put {w W : World} (h : Keeps [] w W) {D : Nat} (hD : w.heap.size ≤ D) (o o' : Obj) (hK : W.heap[D]? = some o) : Keeps [] w (W.putObj D o') :=
  h.grown (grownBy_putObj' W D o') (fun k e => by cases e; exact .inr hD)
theorem box_put {W : World} {B D : Nat} {t : TypeId} {v : Value} (h : Boxed W B t v) (hne : D ≠ B) (o' : Obj) : Boxed (W.putObj D o') B t v := (World.putObj_heap_other (by omega)).trans h

/-- What lies ahead, and whether so much is there, all of it whole. -/
def aheadL (xs : List Int) (k m : Nat) : List (List Int) := lastN ((slotsL xs).take k) m
def aheadB (xs : List Int) (k m : Nat) : Bool := decide (m ≤ k) && (aheadL xs k m).all fun s => decide ((readR s).1 = 0)
theorem ahead_slots {xs : List Int} {k m : Nat} (hk : k ≤ xs.length / 16) (hm : m ≤ k) : aheadL xs k m = (List.range m).map (slotA ((xs.drop (16 * (k - m))).take (16 * m))) := by
  unfold aheadL lastN
  have hl : ((slotsL xs).take k).length = k := by rw [List.length_take, slotsL_len]; omega
  rw [hl]
  refine List.ext_getElem? fun i => ?_
  rw [List.getElem?_drop, List.getElem?_take]
  by_cases hi : i < m
  · rw [if_pos (by omega), slotsL_get (by omega), List.getElem?_map, List.getElem?_range hi]
    simp only [Option.map_some]
    congr 1
    unfold slotA
    rw [List.drop_take, List.take_take, List.drop_drop]
    congr 1
    · omega
    · congr 1
      omega
  · rw [if_neg (by omega), List.getElem?_eq_none (by simp; omega)]

set_option maxHeartbeats 4000000 in
theorem ahead_any (a : Option Addr) (n c k m : Nat) (xs : List Int) (w : World) (ht : Turns w) (hi : IntsAt w a n xs) (hn : n ≤ c) (hc : c ≤ maxLen) (h64 : ∀ x ∈ xs, I64 x) (hk : k ≤ n / 16) (hm : 1 ≤ m ∧ m ≤ 4) :
    Calls Tryd.prog 27 #[.slice a n c, .int .i64 (k : Int), .int .i64 (m : Int)] w fun e w' => ∃ v c', e = .returned (.tuple #[.slice v (if aheadB xs k m = true then m else 0) c', .bool (aheadB xs k m)]) ∧ Keeps [] w w' ∧
      (aheadB xs k m = true → RecsAt w' v m ((aheadL xs k m).map fun s => (readR s).2) ∧ m ≤ c' ∧ c' ≤ maxLen ∧ ∀ b o s, v = some ⟨b, o, s⟩ → w.heap.size ≤ b) := by
  by_cases hmk : m ≤ k
  · have hlen := hi.1
    obtain ⟨b, o, rfl⟩ := hi.addr (by omega)
    obtain ⟨ys, hys⟩ : ∃ ys, ys = (xs.drop (16 * (k - m))).take (16 * m) := ⟨_, rfl⟩
    have hym : IntsAt w (some ⟨b, o + 16 * (k - m), none⟩) (16 * m) ys := by rw [hys]; exact hi.mid (by omega)
    have hyl : ys.length = 16 * m := hym.1.symm
    have hs := ahead_slots (xs := xs) (k := k) (m := m) (by omega) hmk
    rw [← hys] at hs
    have h64y : ∀ j, ∀ x ∈ slotA ys j, I64 x := fun j x hx => h64 x (by
      rw [hys] at hx
      exact List.mem_of_mem_drop (List.mem_of_mem_take (List.mem_of_mem_drop (List.mem_of_mem_take hx))))
    have hB : aheadB xs k m = true ↔ okAll ys (List.range m) := by
      unfold aheadB okAll
      rw [decide_eq_true hmk, Bool.true_and, hs]
      simp
    have hrec : (aheadL xs k m).map (fun s => (readR s).2) = recAll ys (List.range m) := by rw [hs]; simp [recAll]
    rw [hrec]
    have HBB := Lib.hid hB
    have H64Y := Lib.hid h64y
    have HT := Lib.hid ht
    have HY := Lib.hid hym
    obtain ⟨ok, hok⟩ : ∃ ok, ok = aheadB xs k m := ⟨_, rfl⟩
    rw [← hok]
    have HOK := Lib.hid hok
    have hkm : IntKind.i64.wrap ((k : Int) - (m : Int)) = ((k - m : Nat) : Int) := by rw [IntKind.wrap_i64]; unfold maxLen at hc; omega
    have hgt : (m : Int) ≤ (k : Int) := by omega
    have HP := Lib.hid (fun W => part_any b o n c (k - m) k W (by omega) (by omega) hn hc)
    have hsub : 16 * (k - (k - m)) = 16 * m := by omega
    rw [hsub] at HP
    have hc2 : 16 * m ≤ c - 16 * (k - m) ∧ c - 16 * (k - m) ≤ maxLen := by omega
    have HC2 := Lib.hid hc2
    clear hB hok hs hrec hys hi h64 hlen hym ht h64y hsub hc2
    refine (callsIn_wide (n := 3)).1 ?_
    refine callsIn_of_wp_marks Tryd.func27 rfl trivial ?_ rfl
    simp only [Tryd.ntmps27, List.size_toArray, List.length_cons, List.length_nil, Nat.reduceAdd, Nat.reduceSub, Array.replicate_succ, Array.replicate_zero, List.push_toArray, List.append_toArray, List.nil_append, List.cons_append]
    gi_wp2_with (first
      | (refine ⟨trivial, ?_⟩; gi_at_call 23; refine (callsIn_wide.2 (HP.out _)).mono ?_; rintro e w' ⟨rfl, rfl⟩)
      | (refine ⟨trivial, ?_⟩; gi_at_call 15; refine (callsIn_wide.2 (slots_any _ _ _ _)).mono ?_; rintro e w' ⟨rfl, rfl⟩))
    have z3 : 16 * m / 16 = m := by omega
    have k1 : Keeps [] w (w.alloc (.cells #[.slice none 0 0] 36)) := (Keeps.refl _ _).alloc _
    have s1 : (w.alloc (.cells #[.slice none 0 0] 36)).heap.size = w.heap.size + 1 := by simp
    have p1 := Boxed.new w 36 (.slice none 0 0)
    generalize w.alloc (.cells #[.slice none 0 0] 36) = w1 at *
    have k2 := k1.alloc (.cells #[.bool false] 4)
    have s2 : (w1.alloc (.cells #[.bool false] 4)).heap.size = w.heap.size + 1 + 1 := by simp [s1]
    have p2 := Boxed.new w1 4 (.bool false)
    have q1 := p1.alloc (.cells #[.bool false] 4)
    rw [s1] at p2
    generalize w1.alloc (.cells #[.bool false] 4) = w2 at *
    clear p1 k1
    have k3 := k2.alloc (.cells #[.slice none 0 0] 36)
    have s3 : (w2.alloc (.cells #[.slice none 0 0] 36)).heap.size = w.heap.size + 1 + 1 + 1 := by simp [s2]
    have p3 := Boxed.new w2 36 (.slice none 0 0)
    have q2 := p2.alloc (.cells #[.slice none 0 0] 36)
    have o1 := q1.alloc (.cells #[.slice none 0 0] 36)
    rw [s2] at p3
    generalize w2.alloc (.cells #[.slice none 0 0] 36) = w3 at *
    clear p2 q1 k2
    obtain ⟨sv, hsv⟩ : ∃ sv, sv = Value.slice (some ⟨b, o + 16 * (k - m), none⟩) (16 * m) (c - 16 * (k - m)) := ⟨_, rfl⟩
    have k4 := k3.alloc (.cells #[sv] 40)
    have s4 : (w3.alloc (.cells #[sv] 40)).heap.size = w.heap.size + 1 + 1 + 1 + 1 := by simp [s3]
    have b4 := Boxed.new w3 40 sv
    have b3 := p3.alloc (.cells #[sv] 40)
    have b2 := q2.alloc (.cells #[sv] 40)
    have b1 := o1.alloc (.cells #[sv] 40)
    rw [s3] at b4
    rw [← hsv]
    have HSV := Lib.hid hsv
    clear hsv
    generalize w3.alloc (.cells #[sv] 40) = w4 at *
    clear p3 q2 o1 k3 s1 s2 s3
    have HK4 := Lib.hid k4
    obtain ⟨i0, hi0, hz0, hz1, hz2⟩ := info_parts infoRec3
    refine wpIn_rangeFunc_ownG rfl (by omega) (gf := 22) (lb := #[.pointer (some ⟨w.heap.size + 1 + 1 + 1, 0, none⟩)]) rfl trivial (enters_of Tryd.func22 (by kernel_rfl) rfl)
      (slots_stops _ (by omega) (w.heap.size + 1 + 1 + 1) _ b (o + 16 * (k - m)) (16 * m) (c - 16 * (k - m)) (.inr rfl) HC2.out.1 HC2.out.2 _ (HSV.out ▸ b4)) box_t (box_b (by omega)) (Below.refl _ _) (fun _ => rfl)
      (fun pre W => ((Boxed W w.heap.size 36 (.slice none 0 0) ∧ Boxed W (w.heap.size + 1) 4 (.bool false)) ∧ Boxed W (w.heap.size + 1 + 1 + 1) 40 sv) ∧ (∃ v, Boxed W (w.heap.size + 1 + 1) 36 v ∧ W.ownsRow w.heap.size 50 13 v pre.length (rowV ys (pls pre)) ∧ okAll ys (pls pre)) ∧ Keeps [] w W)
      (fun cd pre W => (cd = .ret ∧ ¬ okAll ys (pls pre)) ∧ (Boxed W w.heap.size 36 (.slice none 0 0) ∧ Boxed W (w.heap.size + 1) 4 (.bool false)) ∧ Keeps [] w W)
      (OwnFrom.and (OwnFrom.and (OwnFrom.and (Own.from (boxed_own _ _ _) _) (Own.from (boxed_own _ _ _) _)) (Own.from (boxed_own _ _ _) _)) (OwnFrom.and (Own.from (holdsRow_own w.heap.size (w.heap.size + 1 + 1) 36 50 13 (fun pre : List (Pl (16 * m / 16)) => pre.length) (fun pre => rowV ys (pls pre)) (fun pre v => okAll ys (pls pre))) _) (keeps_own (by omega))))
      (fun cd => OwnFrom.and (ownFrom_pure _ _) (OwnFrom.and (OwnFrom.and (Own.from (boxed_own _ _ _) _) (Own.from (boxed_own _ _ _) _)) (keeps_own (by omega))))
      ⟨⟨⟨b1, b2⟩, b4⟩, ⟨_, b3, World.ownsRow_nil _ _ _ _, by intro k hk; simp [pls] at hk⟩, k4⟩
      (fun x => { tmps := #[.slice (some ⟨b, o, none⟩) n c, .int .i64 (k : Int), .int .i64 (m : Int), undef, undef, undef, .pointer (some ⟨w.heap.size, 0, none⟩), .pointer (some ⟨w.heap.size + 1, 0, none⟩), .pointer (some ⟨w.heap.size + 1 + 1, 0, none⟩), undef,
        .slice (some ⟨b, o + 16 * (k - m) + 16 * x.1, none⟩) 16 (c - 16 * (k - m) - 16 * x.1), undef, undef, .int .i64 (m : Int), .int .i64 (k : Int), .bool false, .slice (some ⟨b, o, none⟩) n c, .int .i64 (k : Int), .int .i64 (m : Int), .int .i64 ((k - m : Nat) : Int), .int .i64 (k : Int), sv,
        .func (.func 22) #[] #[.pointer (some ⟨w.heap.size + 1 + 1 + 1, 0, none⟩)], .int .i64 (x.1 : Int), .slice (some ⟨b, o + 16 * (k - m) + 16 * x.1, none⟩) 16 (c - 16 * (k - m) - 16 * x.1), undef, undef, undef, undef, undef, undef, undef, undef, undef, undef, undef, undef], defers := [] }) ?assign ?body ?done ?stop
    case assign =>
      intro l x W K hK
      dsimp only [slotV]
      gi_wp2
      exact hK
    case body =>
      rintro l pre x W ⟨⟨⟨r1, r2⟩, r4⟩, ⟨v, rv, hrow, hokp⟩, hkw⟩ hlt
      have hx := x.2
      have hsl := (HY.out.keep0 hkw).slot hx
      have hT := HT.out.keep hkw
      have hpl : pre.length < m := by omega
      have hcp : 16 ≤ c - 16 * (k - m) - 16 * x.1 ∧ c - 16 * (k - m) - 16 * x.1 ≤ maxLen := by
        have := HC2.out
        omega
      have hmap : pls (pre ++ [x]) = pls pre ++ [x.1] := pls_snoc _ _
      have hsz : w.heap.size + 1 + 1 + 1 < W.heap.size := r4.lt
      obtain ⟨R, hR⟩ : ∃ R, R = readR (slotA ys x.1) := ⟨_, rfl⟩
      have hRl : R.2.length = 13 := by rw [hR]; exact readR_len _
      have HSL := Lib.hid hsl
      have HTT := Lib.hid hT
      have HRR := Lib.hid hR
      have HRL := Lib.hid hRl
      have HCP := Lib.hid hcp
      have HMAP := Lib.hid hmap
      have HROW := Lib.hid hrow
      have HOKP := Lib.hid hokp
      have HKW := Lib.hid hkw
      have R1 := Lib.hid r1
      have R2 := Lib.hid r2
      have R4 := Lib.hid r4
      have RV := Lib.hid rv
      clear hsl hT hR hRl hcp hmap hrow hokp hkw r1 r2 r4 rv hx HP HC2 HK4 b1 b2 b3 b4 k4
      by_cases h0 : R.1 = 0
      · have hb : (R.1 != 0) = false := by simp [h0]
        have H0 := Lib.hid h0
        clear h0
        gi_wp2_with (first
          | (refine ⟨trivial, ?_⟩; gi_at_call 24; refine (CallsIn.inRound l (callsIn_wide.2 (read_any _ _ _ _ _ HTT.out HSL.out HCP.out.1 HCP.out.2 (H64Y.out x.1)))).mono ?_; rw [← HRR.out]; rintro e u2 ⟨rfl, k2⟩; have K2 := Lib.hid k2; have hA : RecAt (u2.alloc (.cells (ints (zer 13)) 50)) u2.heap.size (zer 13) := heap_alloc_new u2 _; have kA : Keeps [] W (u2.alloc (.cells (ints (zer 13)) 50)) := k2.alloc _; have KA := Lib.hid kA; have hu2 := k2.size; clear k2 kA)
          | (simp only [zeros13])
          | (refine stIn_rec _ _ hA (zer_len _) HRL.out rfl rfl rfl rfl ?_; intro u3 h3 k3 s3; simp only [Act.put]; have kk3 : Keeps [] W u3 := KA.out.trans k3 (by intro x hx; right; simp at hx; omega); have K3 := Lib.hid kk3; have v3 := Boxed.keep RV.out kk3 (by simp); have cv3 := v3.cell; have row3 := ownsRow_keep HROW.out kk3 (by simp); have V3 := Lib.hid v3; have ROW3 := Lib.hid row3; have hu3 := kk3.size; clear hA k3 kk3 v3 row3)
          | (refine ldIn_rec _ h3 HRL.out rfl rfl rfl ?_; simp only [Act.put])
          | (refine bsIn_rec _ HRL.out rfl rfl rfl ?_; simp only [Act.put])
          | (gi_at_builtin; refine wpListIn_append_own _ rfl _ _ 36 rfl w.heap.size 50 i0 _ 13 104 Tryd.underlying36 hi0 hz0 hz1 hz2 (by decide) (by decide) _ _ _ rfl (ROW3.out.alloc _) ⟨u3.heap.size, 0, none⟩ 1 1 (R.2.map (.int .i64)) rfl (by rw [List.length_map, HRL.out]) (new_cells _ _ _) (map_one _) (by unfold maxLen; omega) (by omega) (by simp; omega) ?_; intro v' u4 hown' hgrow hnil; obtain ⟨g', cap', rfl⟩ := ownsRow_succ hown'; obtain ⟨hv1, hv2, hr2, hk2, hb2⟩ := Boxed.appended V3.out (by decide) ROW3.out (by omega) (by omega) hown' hgrow; have hc1 := hv1.cell; have hf1 := hv1.frozen; have HV2 := Lib.hid hv2; have HR2 := Lib.hid hr2; have HK2 := Lib.hid hk2; have HB2 := Lib.hid hb2; have HG := Lib.hid hgrow; clear hv1 hv2 hr2 hk2 hb2 hown' hgrow hnil))
        have q1 := Boxed.kept (Boxed.alloc (Boxed.keep R1.out K3.out (by simp)) (.cells (ints R.2) 50)) HG.out ((Boxed.not_row (Boxed.keep R1.out K3.out (by simp)) (by decide) ROW3.out))
        have q2 := Boxed.kept (Boxed.alloc (Boxed.keep R2.out K3.out (by simp)) (.cells (ints R.2) 50)) HG.out ((Boxed.not_row (Boxed.keep R2.out K3.out (by simp)) (by decide) ROW3.out))
        have q4 := Boxed.kept (Boxed.alloc (Boxed.keep R4.out K3.out (by simp)) (.cells (ints R.2) 50)) HG.out ((Boxed.not_row (Boxed.keep R4.out K3.out (by simp)) (by decide) ROW3.out))
        have q4' := Boxed.other q4 (B' := w.heap.size + 1 + 1) (by omega) (.slice (some ⟨g', 0, none⟩) (pre.length + 1) cap')
        refine ⟨(from_keeps K3.out).trans (HK2.out.from _), ?_, ⟨⟨Boxed.other q1 (by omega) _, Boxed.other q2 (by omega) _⟩, q4'⟩, ⟨_, HV2.out, ?_, ?_⟩, keeps_below (HKW.out.trans0 K3.out) HB2.out⟩
        · exact Eq.trans q4' R4.out.symm
        · rw [HMAP.out, rowV_snoc, ← HRR.out, List.length_append]
          exact HR2.out
        · rw [HMAP.out]
          exact okAll_snoc HOKP.out (by rw [← HRR.out]; exact H0.out)
      · have hb : (R.1 != 0) = true := by simp [h0]
        have H0 := Lib.hid h0
        clear h0
        gi_wp2_with (first
          | (refine ⟨trivial, ?_⟩; gi_at_call 24; refine (CallsIn.inRound l (callsIn_wide.2 (read_any _ _ _ _ _ HTT.out HSL.out HCP.out.1 HCP.out.2 (H64Y.out x.1)))).mono ?_; rw [← HRR.out]; rintro e u2 ⟨rfl, k2⟩; have K2 := Lib.hid k2; have hA : RecAt (u2.alloc (.cells (ints (zer 13)) 50)) u2.heap.size (zer 13) := heap_alloc_new u2 _; have kA : Keeps [] W (u2.alloc (.cells (ints (zer 13)) 50)) := k2.alloc _; have KA := Lib.hid kA; have hu2 := k2.size; clear k2 kA)
          | (simp only [zeros13])
          | (refine stIn_rec _ _ hA (zer_len _) HRL.out rfl rfl rfl rfl ?_; intro u3 h3 k3 s3; simp only [Act.put]; have kk3 : Keeps [] W u3 := KA.out.trans k3 (by intro x hx; right; simp at hx; omega); have K3 := Lib.hid kk3; have v1 := Boxed.keep R1.out kk3 (by simp); have v2 := Boxed.keep R2.out kk3 (by simp); have cv1 := v1.cell; have fv1 := v1.frozen; have cv2 := v2.cell; have fv2 := v2.frozen; have V1 := Lib.hid v1; have V2 := Lib.hid v2; clear hA k3 kk3 v1 v2 h3))
        refine ⟨(from_keeps K3.out).trans (((KeepsOthers.setCell _ _ _).trans (KeepsOthers.setCell _ _ _)).from _), ⟨rfl, ?_⟩, ⟨Boxed.other (Boxed.set _ V1.out) (by omega) _, Boxed.set _ (Boxed.other V2.out (by omega) _)⟩, ((HKW.out.trans0 K3.out).setCell (.inr (Nat.le_refl _)) _).setCell (.inr (by simp)) _⟩
        rw [HMAP.out]
        exact okAll_not (by rw [← HRR.out]; exact H0.out)
    case done =>
      rintro D zs W hD hS ⟨⟨⟨r1, r2⟩, r4⟩, ⟨v, rv, hrow, hokp⟩, hkw⟩ hK
      have hzl := range_len hS
      replace hS : pls zs = List.range m := hS.trans (congrArg List.range z3)
      replace hzl := hzl.trans z3
      rw [hS] at hokp
      have hT : ok = true := by rw [HOK.out]; exact HBB.out.2 hokp
      rw [hS, hzl] at hrow
      subst hT
      obtain ⟨av, cv, rfl, -, -, -, -⟩ := recs_of_own (recAll_13 ys (List.range m)) (by simp [recAll]) hrow
      have c1 := r1.cell
      have f1 := r1.frozen
      have c2 := r2.cell
      have f2 := r2.frozen
      have c3 := rv.cell
      gi_wp2
      have hr1 := hrow.kept (grownBy_setCell' W w.heap.size (.slice av m cv)) (.inr (r1.not_row (by decide) hrow).symm)
      have e1 := r1.set (.slice av m cv)
      have e2 := r2.other (B' := w.heap.size) (by omega) (.slice av m cv)
      have hr2 := hr1.kept (grownBy_setCell' _ (w.heap.size + 1) (.bool true)) (.inr (e2.not_row (by decide) hr1).symm)
      have g1 := e1.other (B' := w.heap.size + 1) (by omega) (.bool true)
      have g2 := e2.set (.bool true)
      have hK' := ((KeepsOthers.setCell W ⟨w.heap.size, 0, none⟩ (.slice av m cv)).trans (KeepsOthers.setCell _ ⟨w.heap.size + 1, 0, none⟩ (.bool true))).same D _ hK rfl
      refine ⟨by simp, .inl ⟨_, _, rfl, run_takeDeferred hK', ?_⟩⟩
      have hr3 := ownsRow_putObj hr2 (.deferred none) hK' rfl
      obtain ⟨av', cv', ev, hrec, hle, hcm, hbs⟩ := recs_of_own (recAll_13 ys (List.range m)) (by simp [recAll]) hr3
      injection ev with ev1 ev2 ev3
      subst ev1; subst ev3
      refine ⟨_, ret_two rfl (box_put g1 (by omega) _) (box_put g2 (by omega) _) rfl rfl, av, cv, by simp, keeps_put ((hkw.setCell (.inr (Nat.le_refl _)) _).setCell (.inr (by simp)) _) (by omega) _ _ hK', hrec, hle, hcm, hbs⟩
    case stop =>
      rintro D cd pre W hD ⟨kk, hkk, hpre⟩ ⟨⟨rfl, hnok⟩, ⟨r1, r2⟩, hkw⟩ hK
      change pls pre = _ at hpre
      rw [hpre] at hnok
      have hF : ok = false := by
        rw [HOK.out]
        cases h : aheadB xs k m
        · rfl
        · exact absurd (HBB.out.1 h) (okAll_some hnok (by omega))
      subst hF
      gi_wp2
      refine ⟨by simp, .inl ⟨_, _, rfl, run_takeDeferred hK, ?_⟩⟩
      exact ⟨_, ret_two rfl (box_put r1 (by omega) _) (box_put r2 (by omega) _) rfl rfl, ⟨_, _, rfl⟩, keeps_put hkw (by omega) _ _ hK⟩
  · have hB : aheadB xs k m = false := by unfold aheadB; rw [decide_eq_false hmk]; rfl
    have HB := Lib.hid hB
    have hgt : (k : Int) < (m : Int) := by omega
    rw [HB.out]
    clear hB hmk hi h64
    go_enter Tryd.func27, Tryd.ntmps27
    go_wp2
    have b1 := (Boxed.new w 36 (.slice none 0 0)).alloc (.cells #[.bool false] 4)
    have b2 := Boxed.new (w.alloc (.cells #[.slice none 0 0] 36)) 4 (.bool false)
    rw [World.size_alloc] at b2
    exact bodyPost_ret (ret_two rfl b1 b2 rfl rfl) rfl ⟨⟨_, _, rfl⟩, ((Keeps.refl _ _).alloc _).alloc _⟩

end Go.Proofs.YtihpmnnbiabggaaDoor
