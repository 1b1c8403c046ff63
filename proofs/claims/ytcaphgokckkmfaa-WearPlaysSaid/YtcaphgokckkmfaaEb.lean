
/- Wear, the program: among, part, group, all, page, pages, counts: their contracts. -/
import Derived.Test.YtcaphgokckkmfaaEa
import Derived.Test.YtcaphgokckkmfaaLG
import Derived.Test.YtcaphgokckkmfaaLH
import Derived.IntWalk
import Derived.Deep.RegionHeld3
import Derived.Deep.CutRange
namespace Go.Proofs.Ytcaphgokckkmfaa
open Go.RowKit
set_option maxRecDepth 100000
set_option linter.unusedVariables false
set_option linter.unusedSimpArgs false
variable {w w' : World} {b bw be : Nat} {dv : Value} {s : FS}

/-- Is there such a one of so many? -/
def inB (m a : Int) : Bool := decide (0 ≤ a) && decide (a < m)
theorem inB_iff {m a : Int} : inB m a = true ↔ 0 ≤ a ∧ a < m := by simp [inB]
theorem wamong_any (m a : Int) (w : World) : Calls Try.prog 57 #[.int .i64 m, .int .i64 a] w fun e w' => e = .returned (.bool (inB m a)) ∧ w = w' := by
  by_cases h1 : 0 ≤ a
  · by_cases h2 : a < m
    · have H := Lib.hid (show inB m a = true from inB_iff.2 ⟨h1, h2⟩)
      go_enter Try.func57, Try.ntmps57
      go_wp2
      go_ret
      exact ⟨by rw [H.out]; rfl, rfl⟩
    · have H := Lib.hid (show inB m a = false from by cases h : inB m a; rfl; exact absurd (inB_iff.1 h).2 h2)
      go_enter Try.func57, Try.ntmps57
      go_wp2
      go_ret
      exact ⟨by rw [H.out]; rfl, rfl⟩
  · have H := Lib.hid (show inB m a = false from by cases h : inB m a; rfl; exact absurd (inB_iff.1 h).1 h1)
    have h1' : decide (0 ≤ a) = false := by simp [h1]
    go_enter Try.func57, Try.ntmps57
    go_wp2
    go_ret
    exact ⟨by rw [H.out]; rfl, rfl⟩

/-- What goes round. -/
abbrev rnd (p : Option Addr) (first many : Int) : Value := .agg #[.pointer p, .int .i64 first, .int .i64 many]
/-- Parts of a flash: none, no such one, one. -/
theorem part_zero (p : Option Addr) (Q a : Int) (w : World) : Calls Try.prog 50 #[.pointer p, .int .i64 0, .int .i64 Q, .int .i64 a] w fun e w' => e = .returned (.tuple #[rnd none 0 0, .int .i64 1]) ∧ Keeps [] w w' := by
  go_enter Try.func50, Try.ntmps50
  go_wp2
  exact bodyPost_ret (v := .tuple #[rnd none 0 0, .int .i64 1]) (by simp [results, Try.results50, go_sem]) rfl ⟨rfl, ((Keeps.refl _ _).alloc _)⟩
theorem part_out (p : Option Addr) (P Q a : Int) (w : World) (hP : 1 ≤ P) (h : inB P a = false) : Calls Try.prog 50 #[.pointer p, .int .i64 P, .int .i64 Q, .int .i64 a] w fun e w' => e = .returned (.tuple #[rnd none 0 0, .int .i64 2]) ∧ Keeps [] w w' := by
  have hne : (P == 0) = false := by simp; omega
  go_enter Try.func50, Try.ntmps50
  go_wp2_with (go_at_call 57; refine (wamong_any _ _ _).mono ?_; rw [h]; rintro e w' ⟨rfl, rfl⟩)
  exact bodyPost_ret (v := .tuple #[rnd none 0 0, .int .i64 2]) (by simp [results, Try.results50, go_sem]) rfl ⟨rfl, ((Keeps.refl _ _).alloc _)⟩
theorem part_in (p : Option Addr) (P Q a R : Nat) (w : World) (ha : a < P) (hP : P ≤ 1000) (hQ : Q ≤ 1000) (hR : R = a * Q) : Calls Try.prog 50 #[.pointer p, .int .i64 (P : Int), .int .i64 (Q : Int), .int .i64 (a : Int)] w fun e w' => e = .returned (.tuple #[rnd p R Q, .int .i64 0]) ∧ Keeps [] w w' := by
  have hne : ((P : Int) == 0) = false := by simp; omega
  have h : inB (P : Int) (a : Int) = true := inB_iff.2 ⟨by omega, by omega⟩
  have hb : a * Q ≤ 1000 * 1000 := Nat.mul_le_mul (by omega) hQ
  have hm : IntKind.i64.wrap ((a : Int) * (Q : Int)) = (R : Int) := by
    have e : (a : Int) * (Q : Int) = (R : Int) := by rw [hR]; exact (Int.natCast_mul a Q).symm
    rw [e]
    exact IntWalk.i64_in _ (by omega)
  have H := Lib.hid h
  clear hb hR h ha
  go_enter Try.func50, Try.ntmps50
  go_wp2_with (go_at_call 57; refine (wamong_any _ _ _).mono ?_; rw [H.out]; rintro e w' ⟨rfl, rfl⟩)
  exact bodyPost_ret (v := .tuple #[rnd p R Q, .int .i64 0]) (by simp [results, Try.results50, go_sem]) rfl ⟨rfl, ((Keeps.refl _ _).alloc _)⟩

/-- The bounds of a flash's geometry. -/
structure FS.Geo (s : FS) (G P : Nat) : Prop where
  g : s.g = (G : Int)
  p : s.p = (P : Int)
  gb : 1 ≤ G ∧ G ≤ 8
  pb : 1 ≤ P ∧ P ≤ 8
  nb : 16 ≤ s.n ∧ s.n ≤ 1024
  er : s.er.length = G * P
theorem FS.Geo.all {s : FS} {G P : Nat} (h : s.Geo G P) : 1 ≤ s.er.length ∧ s.er.length ≤ 64 := by
  have h1 : 1 * 1 ≤ G * P := Nat.mul_le_mul h.gb.1 h.pb.1
  have h2 : G * P ≤ 8 * 8 := Nat.mul_le_mul h.gb.2 h.pb.2
  rw [h.er]
  omega
theorem FS.Geo.pages {s : FS} {G P a : Nat} (h : s.Geo G P) (ha : a < G) : a * P + P ≤ s.er.length := by
  rw [h.er]
  have : (a + 1) * P ≤ G * P := Nat.mul_le_mul_right _ ha
  rw [Nat.add_mul, Nat.one_mul] at this
  exact this

theorem set3_block {w : World} {k : Nat} {a0 a1 a2 : Value} {t : TypeId} (hq : w.heap[k]? = some (.cells #[a0, a1, a2] t (0, 0))) (x y z : Value) :
    (((w.setCell ⟨k, 0, none⟩ x).setCell ⟨k, 1, none⟩ y).setCell ⟨k, 2, none⟩ z).heap[k]? = some (.cells #[x, y, z] t (0, 0)) := by
  have h := heap_setCell_same (o := 2) (heap_setCell_same (o := 1) (heap_setCell_same (o := 0) hq x) y) z
  simpa using h
theorem set3_keep {w w' : World} {F : List Nat} {k : Nat} (hk : Keeps F w w') (h : w.heap.size ≤ k) (x y z : Value) : Keeps F w (((w'.setCell ⟨k, 0, none⟩ x).setCell ⟨k, 1, none⟩ y).setCell ⟨k, 2, none⟩ z) :=
  ((hk.setCell (.inr h) _).setCell (.inr h) _).setCell (.inr h) _

abbrev rnd0 : Array Value := #[.pointer none, .int .i64 0, .int .i64 0]
abbrev geo0 : Array Value := #[.int .i64 0, .int .i64 0, .int .i64 0]
theorem group_gen (p : Option Addr) (x : Int) (G P n : Int) (vr : Value) (cd : Int) (vp : Option Addr) (f m : Int) (w : World) (hvr : vr = rnd vp f m)
    (hgeo : Calls Try.prog 49 #[.pointer p] (w.alloc (.cells rnd0 84)) fun e w' => e = .returned (.agg #[.int .i64 G, .int .i64 P, .int .i64 n]) ∧ Keeps [] (w.alloc (.cells rnd0 84)) w')
    (hpart : ∀ wx, Calls Try.prog 50 #[.pointer p, .int .i64 G, .int .i64 P, .int .i64 x] wx fun e w' => e = .returned (.tuple #[vr, .int .i64 cd]) ∧ Keeps [] wx w') :
    Calls Try.prog 46 #[.pointer p, .int .i64 x] w fun e w' => e = .returned (.tuple #[vr, .int .i64 cd]) ∧ Keeps [] w w' := by
  subst hvr
  have HG := Lib.hid hgeo
  have HP := Lib.hid hpart
  clear hgeo hpart
  go_enter Try.func46, Try.ntmps46
  go_wp2_with (first
    | (go_at_call 49; refine HG.out.mono ?_; rintro e w1 ⟨rfl, k1⟩; have K1 := Lib.hid k1; clear k1)
    | (go_at_call 50; refine (HP.out _).mono ?_; rintro e w2 ⟨rfl, k2⟩; have q0 : w2.heap[w.heap.size]? = some (.cells rnd0 84 (0, 0)) := (((K1.out).alloc (.cells #[.int .i64 G, .int .i64 P, .int .i64 n] 28)).trans0 k2).held (heap_alloc_new w _) (by simp); have r0 : w2.cell? ⟨w.heap.size, 0, none⟩ = some (.pointer none) := cell_of_block q0 rfl; have r1 : w2.cell? ⟨w.heap.size, 1, none⟩ = some (.int .i64 0) := cell_of_block q0 rfl; have r2 : w2.cell? ⟨w.heap.size, 2, none⟩ = some (.int .i64 0) := cell_of_block q0 rfl; have f0 := frozen_of_block q0 0; have f1 := frozen_of_block q0 1; have f2 := frozen_of_block q0 2; have Q0 := Lib.hid q0; have K2 := Lib.hid ((((Keeps.refl [] w).alloc (.cells rnd0 84)).trans0 (K1.out.alloc (.cells #[.int .i64 G, .int .i64 P, .int .i64 n] 28))).trans0 k2); have lq := lt_of_block q0; clear q0 k2))
  have HB := set3_block Q0.out (.pointer vp) (.int .i64 f) (.int .i64 m)
  have HK := set3_keep K2.out (Nat.le_refl _) (.pointer vp) (.int .i64 f) (.int .i64 m)
  clear r0 r1 r2 f0 f1 f2
  generalize (((w2.setCell ⟨w.heap.size, 0, none⟩ (.pointer vp)).setCell ⟨w.heap.size, 1, none⟩ (.int .i64 f)).setCell ⟨w.heap.size, 2, none⟩ (.int .i64 m)) = w3 at *
  have c0 : w3.cell? ⟨w.heap.size, 0, none⟩ = some (.pointer vp) := cell_of_block HB rfl
  have c1 : w3.cell? ⟨w.heap.size, 1, none⟩ = some (.int .i64 f) := cell_of_block HB rfl
  have c2 : w3.cell? ⟨w.heap.size, 2, none⟩ = some (.int .i64 m) := cell_of_block HB rfl
  exact bodyPost_ret (v := .tuple #[rnd vp f m, .int .i64 cd]) (by simp [results, Try.results46, go_sem, c0, c1, c2]) rfl ⟨rfl, HK⟩
theorem group_in {G P a R : Nat} (hF : Fl w b bw be dv s) (hg : s.Geo G P) (ha : a < G) (hR : R = a * P) : Calls Try.prog 46 #[.pointer (some ⟨b, 0, none⟩), .int .i64 (a : Int)] w fun e w' => e = .returned (.tuple #[rnd (some ⟨b, 0, none⟩) R P, .int .i64 0]) ∧ Keeps [] w w' := by
  have hG := hg.gb
  have hP := hg.pb
  have h := geometry_yes (hF.alloc (.cells rnd0 84))
  rw [hg.g, hg.p] at h
  exact group_gen _ _ _ _ _ _ _ _ _ _ w rfl h (fun wx => part_in _ G P a R wx ha (by omega) (by omega) hR)
theorem group_out {G P : Nat} {x : Int} (hF : Fl w b bw be dv s) (hg : s.Geo G P) (hx : inB G x = false) : Calls Try.prog 46 #[.pointer (some ⟨b, 0, none⟩), .int .i64 x] w fun e w' => e = .returned (.tuple #[rnd none 0 0, .int .i64 2]) ∧ Keeps [] w w' := by
  have hG := hg.gb
  have h := geometry_yes (hF.alloc (.cells rnd0 84))
  rw [hg.g, hg.p] at h
  exact group_gen _ _ _ _ _ _ _ _ _ _ w rfl h (fun wx => part_out _ G P x wx (by omega) hx)
theorem group_none (x : Int) (w : World) : Calls Try.prog 46 #[.pointer none, .int .i64 x] w fun e w' => e = .returned (.tuple #[rnd none 0 0, .int .i64 1]) ∧ Keeps [] w w' :=
  group_gen none x 0 0 0 _ _ _ _ _ w rfl (geometry_no none _ (.inl rfl)) (fun wx => part_zero none 0 x wx)

/-- All pages. -/
theorem all_gen (p : Option Addr) (G P n R : Int) (w : World) (hR : IntKind.i64.wrap (G * P) = R)
    (hgeo : Calls Try.prog 49 #[.pointer p] (w.alloc (.cells rnd0 84)) fun e w' => e = .returned (.agg #[.int .i64 G, .int .i64 P, .int .i64 n]) ∧ Keeps [] (w.alloc (.cells rnd0 84)) w') :
    Calls Try.prog 54 #[.pointer p] w fun e w' => e = .returned (rnd p 0 R) ∧ Keeps [] w w' := by
  have HG := Lib.hid hgeo
  clear hgeo
  go_enter Try.func54, Try.ntmps54
  go_wp2_with (go_at_call 49; refine HG.out.mono ?_; rintro e w2 ⟨rfl, k2⟩; have q0 : w2.heap[w.heap.size]? = some (.cells rnd0 84 (0, 0)) := k2.held (heap_alloc_new w _) (by simp); have Q0 := Lib.hid q0; have q1 := q0; have r0 : w2.cell? ⟨w.heap.size, 0, none⟩ = some (.pointer none) := cell_of_block q1 rfl; have r1 : w2.cell? ⟨w.heap.size, 1, none⟩ = some (.int .i64 0) := cell_of_block q1 rfl; have r2 : w2.cell? ⟨w.heap.size, 2, none⟩ = some (.int .i64 0) := cell_of_block q1 rfl; have f0 := frozen_of_block q1 0; have f1 := frozen_of_block q1 1; have f2 := frozen_of_block q1 2; have K2 := Lib.hid (((Keeps.refl [] w).alloc (.cells rnd0 84)).trans0 k2); have lq := lt_of_block q0; clear k2 q1 q0)
  have HB := heap_alloc_held (set3_block Q0.out (.pointer p) (.int .i64 0) (.int .i64 R)) (.cells #[.int .i64 G, .int .i64 P, .int .i64 n] 28)
  have HK := (set3_keep K2.out (Nat.le_refl _) (.pointer p) (.int .i64 0) (.int .i64 R)).alloc (.cells #[.int .i64 G, .int .i64 P, .int .i64 n] 28)
  clear r0 r1 r2 f0 f1 f2
  generalize ((((w2.setCell ⟨w.heap.size, 0, none⟩ (.pointer p)).setCell ⟨w.heap.size, 1, none⟩ (.int .i64 0)).setCell ⟨w.heap.size, 2, none⟩ (.int .i64 R)).alloc (.cells #[.int .i64 G, .int .i64 P, .int .i64 n] 28)) = w3 at *
  have c0 : w3.cell? ⟨w.heap.size, 0, none⟩ = some (.pointer p) := cell_of_block HB rfl
  have c1 : w3.cell? ⟨w.heap.size, 1, none⟩ = some (.int .i64 0) := cell_of_block HB rfl
  have c2 : w3.cell? ⟨w.heap.size, 2, none⟩ = some (.int .i64 R) := cell_of_block HB rfl
  exact bodyPost_ret (v := rnd p 0 R) (by simp [results, Try.results54, go_sem, c0, c1, c2]) rfl ⟨rfl, HK⟩
theorem all_yes {G P : Nat} (hF : Fl w b bw be dv s) (hg : s.Geo G P) : Calls Try.prog 54 #[.pointer (some ⟨b, 0, none⟩)] w fun e w' => e = .returned (rnd (some ⟨b, 0, none⟩) 0 (s.er.length : Int)) ∧ Keeps [] w w' := by
  have h := geometry_yes (hF.alloc (.cells rnd0 84))
  rw [hg.g, hg.p] at h
  have ha := hg.all
  have e : (G : Int) * (P : Int) = (s.er.length : Int) := by rw [hg.er]; exact (Int.natCast_mul G P).symm
  exact all_gen _ _ _ _ _ w (by rw [e]; exact IntWalk.i64_in _ (by omega)) h
theorem all_none (w : World) : Calls Try.prog 54 #[.pointer none] w fun e w' => e = .returned (rnd none 0 0) ∧ Keeps [] w w' :=
  all_gen none 0 0 0 0 w (IntWalk.i64_in 0 (by omega)) (geometry_no none _ (.inl rfl))

/-- One page alone. -/
theorem page_any (p : Option Addr) (f m x : Int) (w : World) : Calls Try.prog 63 #[rnd p f m, .int .i64 x] w fun e w' => e = .returned (rnd p x 1) ∧ Keeps [] w w' := by
  go_enter Try.func63, Try.ntmps63
  go_wp2
  exact bodyPost_ret (v := rnd p x 1) (by simp [results, Try.results63, go_sem]) rfl ⟨rfl, ((Keeps.refl _ _).alloc _).alloc _⟩

end Go.Proofs.Ytcaphgokckkmfaa
