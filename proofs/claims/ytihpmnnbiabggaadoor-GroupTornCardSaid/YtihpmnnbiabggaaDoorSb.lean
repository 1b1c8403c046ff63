
/- slot: Payload, and what is read of words: contracts. No condition but that the words are as many as are read. -/
import Derived.Test.YtihpmnnbiabggaaDoorSa
import Derived.Test.YtihpmnnbiabggaaDoorPd
import Derived.Deep.CutBlock
import Derived.Deep.DeepCutAuto
namespace Go.Proofs.YtihpmnnbiabggaaDoor
open Go.RowKit
set_option maxRecDepth 100000
set_option linter.unusedVariables false

def zer (n : Nat) : List Int := List.replicate n 0
theorem zer_len (n : Nat) : (zer n).length = n := by simp [zer]
theorem zeros11 : (#[.int .i64 0, .int .i64 0, .int .i64 0, .int .i64 0, .int .i64 0, .int .i64 0, .int .i64 0, .int .i64 0, .int .i64 0, .int .i64 0, .int .i64 0] : Array Value) = ints (zer 11) := rfl
theorem zeros13 : (#[.int .i64 0, .int .i64 0, .int .i64 0, .int .i64 0, .int .i64 0, .int .i64 0, .int .i64 0, .int .i64 0, .int .i64 0, .int .i64 0, .int .i64 0, .int .i64 0, .int .i64 0] : Array Value) = ints (zer 13) := rfl

/-- The first eleven numbers, noughts behind them. -/
def payL (xs : List Int) : List Int := xs.take 11 ++ List.replicate (11 - xs.length) 0
theorem payL_len (xs : List Int) : (payL xs).length = 11 := by simp [payL]; omega

theorem pay_splice (xs : List Int) : splice ((zer 11).map (Value.int .i64)) 0 ((xs.take 11).map (.int .i64)) = (payL xs).map (.int .i64) := by
  simp only [splice, payL, zer, List.take_zero, List.nil_append, List.map_append, List.length_map, List.length_take, Nat.zero_add, ← List.map_drop, List.drop_replicate]
  congr 3
  omega

set_option maxHeartbeats 1000000 in
theorem payload_any (a : Option Addr) (n c : Nat) (xs : List Int) (w : World) (hi : IntsAt w a n xs) :
    Calls Tryd.prog 32 #[.slice a n c] w fun e w' => e = .returned (.agg (ints (payL xs))) ∧ Keeps [] w w' := by
  have hsz : (Tryd.prog.info? 3).map (·.size) = some 1 := by kernel_rfl
  go_enter Tryd.func32, Tryd.ntmps32
  go_upto_region 2 with fail
  simp only [zeros11]
  have h0 : PayAt (w.alloc (.cells (ints (zer 11)) 25)) w.heap.size (zer 11) := heap_alloc_new w _
  have k0 : Keeps [] w (w.alloc (.cells (ints (zer 11)) 25)) := (Keeps.refl _ _).alloc _
  have s0 : (w.alloc (.cells (ints (zer 11)) 25)).heap.size = w.heap.size + 1 := by simp
  generalize w.alloc (.cells (ints (zer 11)) 25) = w0 at *
  have h1 : PayAt (w0.alloc (.cells (ints (zer 11)) 25)) (w.heap.size + 1) (zer 11) := by rw [← s0]; exact heap_alloc_new w0 _
  have h2 : PayAt (w0.alloc (.cells (ints (zer 11)) 25)) w.heap.size (zer 11) := heap_alloc_held h0 _
  have k1 := k0.alloc (.cells (ints (zer 11)) 25)
  generalize w0.alloc (.cells (ints (zer 11)) 25) = w1 at *
  have hi1 := hi.keep0 k1
  have hlen : xs.length = n := hi.1.symm
  have HI := Lib.hid hi1
  have h1' : w1.heap[w.heap.size + 1]? = some (.cells ((zer 11).map (Value.int .i64)).toArray 25 (0, 0)) := h1
  have HPOS : Hid (0 < ((xs.take 11).map (Value.int .i64)).length → ∃ ad, a = some ad ∧ ∀ j v, ((xs.take 11).map (Value.int .i64))[j]? = some v → w1.cell? (ad.add j) = some v) := Lib.hid (by
    intro hp
    have hne : xs ≠ [] := by rintro rfl; simp at hp
    rcases a with _ | ad
    · exact absurd (hi1.2.1 rfl) hne
    · refine ⟨ad, rfl, fun j v hv => hi1.news j v ?_⟩
      rw [List.map_take, List.getElem?_take] at hv
      split at hv
      · exact hv
      · cases hv)
  have HN : Hid (((xs.take 11).map (Value.int .i64)).length = Nat.min n 11) := Lib.hid (by rw [List.length_map, List.length_take, hlen, Nat.min_comm])
  clear hi hi1 h0 k0 s0 h1
  go_wp2_with (first
    | (refine wpList_copy_splice rfl (.tmp 4) (.tmp 5) 22 22 rfl 3 Tryd.underlying22 hsz _ a 11 11 n c rfl rfl (w.heap.size + 1) 0 ((zer 11).map (Value.int .i64)) 25 h1' ((xs.take 11).map (Value.int .i64)) HN.out (fun h => ⟨rfl, HPOS.out h⟩) (by simp [zer]; omega) (by intro u hu; obtain ⟨_, _, rfl⟩ := List.mem_map.1 hu; rfl) (w.heap.size + 1) w1 (Below.refl _ _) (Nat.le_refl _) ?_; intro w3 h3 b3; have k3 : Keeps [] w w3 := ⟨b3.os.trans k1.os, b3.output.trans k1.output, Nat.le_trans k1.size b3.size, fun k hk hn => (b3.block k (by omega)).trans (k1.block k hk hn)⟩; have p3 : PayAt w3 (w.heap.size + 1) (payL xs) := (by have := h3; rw [pay_splice] at this; exact this); have z3 : PayAt w3 w.heap.size (zer 11) := (b3.block _ (by omega)).trans h2; clear h3)
    | (refine ld_pay _ p3 (payL_len _) rfl rfl rfl ?_; simp only [Act.put])
    | (refine st_pay _ _ z3 (zer_len _) (payL_len _) rfl rfl rfl rfl ?_; intro w4 h4 k4 s4; simp only [Act.put]))
  refine bodyPost_ret (ret_pay rfl h4 (payL_len _) rfl) rfl ⟨rfl, k3.trans k4 (by simp)⟩


theorem built_lit (k s p0 p1 p2 p3 p4 p5 p6 p7 p8 p9 p10 : Int) : Tryd.prog.built 50 [(0, .int .i64 k), (1, .int .i64 s), (2, .agg #[.int .i64 p0, .int .i64 p1, .int .i64 p2, .int .i64 p3, .int .i64 p4, .int .i64 p5, .int .i64 p6, .int .i64 p7, .int .i64 p8, .int .i64 p9, .int .i64 p10])] = some #[.int .i64 k, .int .i64 s, .int .i64 p0, .int .i64 p1, .int .i64 p2, .int .i64 p3, .int .i64 p4, .int .i64 p5, .int .i64 p6, .int .i64 p7, .int .i64 p8, .int .i64 p9, .int .i64 p10] := by kernel_rfl
theorem eleven {p : List Int} (h : p.length = 11) : ∃ p0 p1 p2 p3 p4 p5 p6 p7 p8 p9 p10, p = [p0, p1, p2, p3, p4, p5, p6, p7, p8, p9, p10] := by
  match p, h with
  | [p0, p1, p2, p3, p4, p5, p6, p7, p8, p9, p10], _ => exact ⟨p0, p1, p2, p3, p4, p5, p6, p7, p8, p9, p10, rfl⟩
theorem built_rec (k s : Int) {p : List Int} (h : p.length = 11) : Tryd.prog.built 50 [(0, .int .i64 k), (1, .int .i64 s), (2, .agg (ints p))] = some (ints (k :: s :: p)) := by
  obtain ⟨p0, p1, p2, p3, p4, p5, p6, p7, p8, p9, p10, rfl⟩ := eleven h
  exact built_lit k s p0 p1 p2 p3 p4 p5 p6 p7 p8 p9 p10

section
variable {ops : Array Oper} {rest : List Oper} {o : Oper} {a : Act} {w : World} {Q : Exit → Act → World → Prop}
/-- A record is made of its parts. -/
theorem bd_rec (x y z : Operand) {k s : Int} {p : List Int} (hp : p.length = 11) (hgd : o.guard = none) (ho : o.op = .build 50 #[(0, x), (1, y), (2, z)]) (hx : a.eval x = .int .i64 k) (hy : a.eval y = .int .i64 s) (hz : a.eval z = .agg (ints p))
    (h : wpList Tryd.prog ops Q rest (a.put o.dst (.agg (ints (k :: s :: p)))) w) : wpList Tryd.prog ops Q (o :: rest) a w := by
  have e : ((#[(0, x), (1, y), (2, z)] : Array (Nat × Operand)).map fun (i, x) => (i, a.eval x)).toList = [(0, .int .i64 k), (1, .int .i64 s), (2, .agg (ints p))] := by simp [hx, hy, hz]
  refine wpList_plain hgd fun K hK => ?_
  refine wp_build 50 _ ho (by rw [e, built_rec k s hp]; rfl) ?_
  rw [e, built_rec k s hp]
  exact hK _ _ h
end

theorem results_cell2 {P : Program} {fn : Func} {p q : Tmp} {ty : TypeId} (h : fn.results = #[.cell p ty, .tmp q]) (tmps : Array Value) (w : World) (g : Nat) (t : TypeId) (cs : Array Value) (fr : Nat × Nat) (d : TypeDesc)
    (hp : tmps.getD p undef = .pointer (some ⟨g, 0, none⟩)) (hg : w.heap[g]? = some (.cells cs t fr))
    (hu : P.underlying ty = some d) (hd : (match d with | .struct _ | .array _ _ => true | _ => false) = true) (hi : (P.info? ty).map (·.size) = some cs.size) :
    (results fn tmps).run P w = .ok (.tuple #[.agg cs, tmps.getD q undef]) w := by
  have hp' : tmps[p]?.getD undef = .pointer (some ⟨g, 0, none⟩) := by simpa using hp
  simp [results, h, hp', asAddr, run_loadVar_row w g t ty cs fr d hg hu hd hi]
/-- Two results, the first a record. -/
theorem ret_rec2 {fn : Func} {p q : Tmp} (h : fn.results = #[.cell p 50, .tmp q]) {tmps : Array Value} {w : World} {g : Nat} {l : List Int} (hg : RecAt w g l) (hl : l.length = 13) (hp : tmps.getD p undef = .pointer (some ⟨g, 0, none⟩)) :
    (results fn tmps).run Tryd.prog w = .ok (.tuple #[.agg (ints l), tmps.getD q undef]) w :=
  results_cell2 h tmps w g 50 (ints l) (0, 0) _ hp hg Tryd.underlying50 rfl (by rw [ints_size, hl]; exact infoRec)

end Go.Proofs.YtihpmnnbiabggaaDoor
