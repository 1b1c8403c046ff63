
/- group: the iterator's contract: each slot's place and words, from the front; a round may say 'no more'. No condition but lengths, and that a round keeps the box of the words. -/
import Derived.Test.YtihpmnnbiabggaaDoorRa
namespace Go.Proofs.YtihpmnnbiabggaaDoor
open Go.RowKit Go.Shelf
set_option linter.unusedVariables false
set_option maxRecDepth 100000
attribute [local go_sem] Oper.semAt_some

/-- A place of a slot. -/
abbrev Pl (N : Nat) := { k : Nat // k < N }
/-- What a round is handed: the place, the slot's words. -/
def slotV (b o c : Nat) (k : Nat) : Array Value := #[.int .i64 (k : Int), .slice (some ⟨b, o + 16 * k, none⟩) 16 (c - 16 * k)]
/-- What a round keeps: the block of the words' box. -/
def KeepsBox (B : Nat) (W W' : World) : Prop := W'.heap[B]? = W.heap[B]?
theorem box_t {B : Nat} {X Y Z : World} (h : KeepsBox B X Y) (k : KeepsBox B Y Z) : KeepsBox B X Z := Eq.trans k h
theorem box_b {B : Nat} {w : World} (hB : B < w.heap.size) (W : World) (l : Nat) (o o' : Obj) (hl : w.heap.size ≤ l) (h : W.heap[l]? = some o) (h1 : o.isCells = false) (h2 : o.isWalk = false) : KeepsBox B W (W.putObj l o') :=
  World.putObj_heap_other (by omega)
/-- The first k places. -/
def firsts {N : Nat} (k : Nat) (h : k ≤ N) : List (Pl N) := (List.range k).attach.map fun i => ⟨i.1, Nat.lt_of_lt_of_le (List.mem_range.1 i.2) h⟩
theorem firsts_val {N k : Nat} (h : k ≤ N) : (firsts k h).map (·.1) = List.range k := by simp [firsts]
theorem snoc_range {N k : Nat} {pre : List (Pl N)} (hp : pre.map (·.1) = List.range k) (hk : k < N) : (pre ++ [(⟨k, hk⟩ : Pl N)]).map (·.1) = List.range (k + 1) := by
  rw [List.map_append, hp, List.range_succ]; rfl
theorem range_len {N k : Nat} {pre : List (Pl N)} (hp : pre.map (·.1) = List.range k) : pre.length = k := by
  have := congrArg List.length hp
  simpa using this

set_option maxHeartbeats 2000000 in
theorem slots1_in (n : Nat) (hn : 1 ≤ n) (l Bs : Nat) (b o len c : Nat) (hlc : len ≤ c) (hcm : c ≤ maxLen) (J Jx : List (Pl (len / 16)) → World → Prop)
    (hY : ∀ pre x W, J pre W → pre.length < len / 16 → YieldAt Fence.wide (n - 1) Tryd.prog l (slotV b o c x.1) W fun e W' =>
      (e = .returned (.bool true) ∧ J (pre ++ [x]) W' ∧ KeepsBox Bs W W') ∨ (e = .returned (.bool false) ∧ Jx (pre ++ [x]) W'))
    (W : World) (hBs : Boxed W Bs 40 (.slice (some ⟨b, o, none⟩) len c)) (h0 : J [] W) :
    CallsIn Fence.wide n Tryd.prog 22 #[.func (.yield l) #[] #[], .pointer (some ⟨Bs, 0, none⟩)] W fun e W' => (∃ v, e = .returned v) ∧
      ((∃ ys : List (Pl (len / 16)), ys.map (·.1) = List.range (len / 16) ∧ J ys W') ∨ (∃ pre : List (Pl (len / 16)), (∃ k, k ≤ len / 16 ∧ pre.map (·.1) = List.range k) ∧ Jx pre W')) := by
  have hcm2 := hcm
  unfold maxLen at hcm2
  have hS : slotsI ((len : Nat) : Int) = ((len / 16 : Nat) : Int) := slotsI_nat len
  have hc := hBs.cell
  obtain ⟨N, hN⟩ : ∃ N, N = len / 16 := ⟨_, rfl⟩
  have hNl : 16 * N ≤ len := by omega
  have hNb : N ≤ 576460752303423488 := by omega
  revert J Jx hY
  rw [← hN] at hS ⊢
  intro J Jx hY h0
  clear hN
  refine callsIn_of_wp Tryd.func22 rfl trivial ?_ rfl
  simp only [Tryd.ntmps22, List.size_toArray, List.length_cons, List.length_nil, Nat.reduceAdd, Nat.reduceSub, Array.replicate_succ, Array.replicate_zero, List.push_toArray, List.append_toArray, List.nil_append, List.cons_append]
  gi_wp2_with (refine ⟨trivial, ?_⟩; gi_at_call 7; refine (callsIn_wide.2 (Slots_any ((len : Nat) : Int) W (by unfold I64; omega))).mono ?_; rw [hS]; rintro e w' ⟨rfl, rfl⟩)
  gi_loopw [7] (fun i wr => ∃ (k : Nat) (pre : List (Pl N)), k ≤ N ∧ pre.map (·.1) = List.range k ∧ i = .int .i64 k ∧ J pre wr ∧ Boxed wr Bs 40 (.slice (some ⟨b, o, none⟩) len c))
    (fun i _ => N - (intOf i).toNat)
  case atStart => exact ⟨0, [], Nat.zero_le _, rfl, rfl, h0, hBs⟩
  case round =>
    obtain ⟨k, pre, hk, hp, rfl, hJs, hbx⟩ := hrel
    have hcx := hbx.cell
    have hpl := range_len hp
    by_cases hlt : k < N
    · have e1 : IntKind.i64.wrap ((k : Int) + 1) = ((k + 1 : Nat) : Int) := by rw [IntKind.wrap_i64]; omega
      obtain ⟨fn, tmps, assign, body, hy, hR⟩ := hY pre ⟨k, hlt⟩ wr hJs (by rw [hpl]; exact hlt)
      dsimp only [slotV] at hy
      have hP := part_any b o len c k (k + 1) wr (by omega) (by omega) hlc hcm
      rw [show 16 * (k + 1 - k) = 16 by omega] at hP
      have HP := Lib.hid hP
      have HPR := Lib.hid hp
      clear hP hp
      gi_wp2_with (refine ⟨trivial, ?_⟩; gi_at_call 23; refine (callsIn_wide.2 HP.out).mono ?_; rintro e w' ⟨rfl, rfl⟩)
      refine hR.mono ?_
      rintro e W3 (⟨rfl, hJ3, hk3⟩ | ⟨rfl, hJx3⟩)
      · gi_wp2
        go_roundw
        case rel => exact ⟨k + 1, pre ++ [⟨k, hlt⟩], by omega, snoc_range HPR.out hlt, by simp, hJ3, Eq.trans hk3 hbx⟩
        case measure => simp [intOf]; omega
      · gi_wp2
        refine bodyPost_ret (results_none rfl _ _ _) rfl ?_
        exact ⟨⟨_, rfl⟩, .inr ⟨_, ⟨k + 1, by omega, snoc_range HPR.out hlt⟩, hJx3⟩⟩
    · obtain rfl : k = N := by omega
      gi_wp2
      go_end0
      exact ⟨⟨_, rfl⟩, .inl ⟨pre, hp, hJs⟩⟩

set_option maxHeartbeats 2000000 in
theorem slots1_nil (n : Nat) (hn : 1 ≤ n) (l Bs : Nat) (a : Option Addr) (len c : Nat) (hl : len < 16) {β : Type} (J : List β → World → Prop)
    (W : World) (hBs : Boxed W Bs 40 (.slice a len c)) (h0 : J [] W) :
    CallsIn Fence.wide n Tryd.prog 22 #[.func (.yield l) #[] #[], .pointer (some ⟨Bs, 0, none⟩)] W fun e W' => (∃ v, e = .returned v) ∧ J [] W' := by
  have hS : slotsI ((len : Nat) : Int) = 0 := by rw [slotsI_nat]; omega
  have hc := hBs.cell
  refine callsIn_of_wp Tryd.func22 rfl trivial ?_ rfl
  simp only [Tryd.ntmps22, List.size_toArray, List.length_cons, List.length_nil, Nat.reduceAdd, Nat.reduceSub, Array.replicate_succ, Array.replicate_zero, List.push_toArray, List.append_toArray, List.nil_append, List.cons_append]
  gi_wp2_with (refine ⟨trivial, ?_⟩; gi_at_call 7; refine (callsIn_wide.2 (Slots_any ((len : Nat) : Int) W (by unfold I64; omega))).mono ?_; rw [hS]; rintro e w' ⟨rfl, rfl⟩)
  gi_loopw [7] (fun i wr => i = .int .i64 0 ∧ J [] wr) (fun _ _ => 0)
  case atStart => exact ⟨rfl, h0⟩
  case round =>
    obtain ⟨rfl, hJs⟩ := hrel
    gi_wp2
    go_end0
    exact ⟨⟨_, rfl⟩, hJs⟩

/-- The contract. -/
theorem slots_stops (n : Nat) (hn : 1 ≤ n) (Bs : Nat) (a : Option Addr) (b o len c : Nat) (hab : len < 16 ∨ a = some ⟨b, o, none⟩) (hlc : len ≤ c) (hcm : c ≤ maxLen) (w : World) (hBs : Boxed w Bs 40 (.slice a len c)) :
    SeqStopsK Fence.wide n Tryd.prog 22 #[.pointer (some ⟨Bs, 0, none⟩)] (fun x : Pl (len / 16) => slotV b o c x.1) (KeepsBox Bs) (fun ys => ys.map (·.1) = List.range (len / 16))
      (fun pre => ∃ k, k ≤ len / 16 ∧ pre.map (·.1) = List.range k) (len / 16) w := fun l J Jx W hW _ _ hY h0 => by
  have hb : Boxed W Bs 40 (.slice a len c) := (hW.block Bs hBs.lt).trans hBs
  by_cases hl : len < 16
  · exact (slots1_nil n hn l Bs a len c hl J W hb h0).mono fun e W' ⟨he, hj⟩ => ⟨he, .inl ⟨[], by rw [show len / 16 = 0 by omega]; rfl, hj⟩⟩
  · obtain rfl := hab.resolve_left hl
    exact slots1_in n hn l Bs b o len c hlc hcm J Jx hY W hb h0

end Go.Proofs.YtihpmnnbiabggaaDoor
