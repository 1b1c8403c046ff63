
/- Program, Erase and Load of a flash that Make made: their contracts. -/
import Derived.Test.YtcaphgokckkmfaaLF
import Derived.Test.YtcaphgokckkmfaaLK
namespace Go.Proofs.Ytcaphgokckkmfaa
open Go.RowKit
set_option maxRecDepth 100000
set_option linter.unusedVariables false
variable {w w' : World} {g c : Nat} {xs ys : List Int} {F : List Nat}

theorem quiet_left {P : Program} {f : FuncId} {args : Array Value} {w : World} {n : Nat} {v : Value}
    (h : Calls P f args (w.drewN n) fun e w' => e = .returned v ∧ w.drewN n = w') : Calls P f args (w.drewN n) fun e w'' => e = .returned v ∧ ∃ m, w'' = w.drewN m :=
  h.mono fun _ _ ⟨he, hm⟩ => ⟨he, n, hm.symm⟩

def ffitB (xs : List Int) : Bool := xs.all (fwithinB 0 65535)

theorem ffit_any (a : Option Addr) (n c : Nat) (xs : List Int) (w : World) (h : IntsAt w a n xs) (hn : n ≤ maxLen) :
    Calls Try.prog 42 #[.slice a n c] w fun e w' => e = .returned (.bool (ffitB xs)) ∧ w = w' := by
  unfold maxLen at hn
  obtain ⟨rfl, ha1, ha2⟩ := h
  go_enter Try.func42, Try.ntmps42
  go_wp2
  go_loop [7] (fun v => ∃ k : Nat, k ≤ xs.length ∧ v = .int .i64 k ∧ ffitB (xs.take k) = true) (fun v => xs.length - (intOf v).toNat)
  case atStart => exact ⟨0, Nat.zero_le _, rfl, rfl⟩
  case round =>
    obtain ⟨k, hk, rfl, hfit⟩ := hrel
    have HS := Lib.hid hfit
    clear hfit
    by_cases hlt : k < xs.length
    · rcases a with _ | ⟨b, o, sp⟩
      · have := ha1 rfl; rw [this] at hlt; simp at hlt
      obtain ⟨rfl, hx⟩ := ha2 b o sp rfl (List.ne_nil_of_length_pos (by omega))
      have gx := hx k hlt
      obtain ⟨x, ex⟩ : ∃ x, x = xs.getD k 0 := ⟨_, rfl⟩
      rw [← ex] at gx
      have hmem : x ∈ xs := by rw [ex]; simp [List.getD, hlt]
      have htk : xs.take (k + 1) = xs.take k ++ [x] := by rw [List.take_succ_eq_append_getElem hlt, ex]; simp [List.getD, hlt]
      have HM := Lib.hid hmem
      have HT := Lib.hid htk
      clear ex hx ha1 ha2 hmem htk
      by_cases hw : fwithinB 0 65535 x = true
      · have HW := Lib.hid hw
        go_wp2_with (go_at_call 60; refine (fwithin_any _ _ _ _).mono ?_; rintro e w' ⟨rfl, rfl⟩)
        go_round
        case rel => exact ⟨k + 1, by omega, by go_num, by rw [HT.out]; unfold ffitB; rw [List.all_append]; have h1 := HS.out; unfold ffitB at h1; rw [h1]; simpa using HW.out⟩
        case measure => simp [intOf]; omega
      · have hw2 : fwithinB 0 65535 x = false := by simpa using hw
        have hfin : ffitB xs = false := by
          unfold ffitB
          rw [List.all_eq_false]
          exact ⟨x, HM.out, by rw [hw2]; simp⟩
        have HF := Lib.hid hfin
        clear hw hfin
        go_wp2_with (go_at_call 60; refine (fwithin_any _ _ _ _).mono ?_; rintro e w' ⟨rfl, rfl⟩)
        go_ret
        exact ⟨by rw [HF.out]; rfl, rfl⟩
    · have hfin : ffitB xs = true := by have := HS.out; rwa [List.take_of_length_le (by omega)] at this
      have HF := Lib.hid hfin
      clear hfin ha1 ha2
      go_wp2
      go_ret
      exact ⟨by rw [HF.out]; rfl, rfl⟩

def rawsOf (at_ : Int) : List Int → List Raw3
  | [] => []
  | x :: r => (false, at_, x) :: rawsOf (at_ + 1) r
theorem rawsOf_length (xs : List Int) : ∀ at_, (rawsOf at_ xs).length = xs.length := by
  induction xs with
  | nil => intro _; rfl
  | cons x r ih => intro a; simp [rawsOf, ih]
theorem rawsOf_get (xs : List Int) : ∀ (at_ : Int) (i : Nat), (rawsOf at_ xs)[i]? = xs[i]?.map fun x => (false, at_ + i, x) := by
  induction xs with
  | nil => intro a i; simp [rawsOf]
  | cons x r ih =>
    intro a i
    cases i with
    | zero => simp [rawsOf]
    | succ j => simp only [rawsOf, List.getElem?_cons_succ, ih]; congr 1; funext y; simp; omega
def erasesOf (first : Int) (n : Nat) : List Raw3 := (List.range n).map fun (i : Nat) => (true, first + (i : Int), (65535 : Int))

def FS.prog (s : FS) (at_ : Int) (xs : List Int) : Int × FS :=
  if fwithinB 0 ((s.w.length : Int) - xs.length) at_ && ffitB xs then
    if s.off then (10, s) else (codeOf (FS.runL s (rawsOf at_ xs)).2, (FS.runL s (rawsOf at_ xs)).1)
  else (2, s)
def FS.eraseP (s : FS) (page : Int) : Int × FS :=
  if fwithinB 0 ((s.er.length : Int) - 1) page then
    if s.off then (10, s) else (codeOf (FS.runL s (erasesOf (page * s.n) s.n.toNat)).2, (FS.runL s (erasesOf (page * s.n) s.n.toNat)).1)
  else (2, s)

theorem run43_off {b bw be : Nat} {dv : Value} {s : FS} (hF : Fl w b bw be dv s) (ho : s.off = true) (m : Int) (fv : Value) :
    Calls Try.prog 43 #[.pointer (some ⟨b, 0, none⟩), .int .i64 m, fv] w fun e w' => e = .returned (.int .i64 10) ∧ w = w' := run_off b bw be dv fv s m w hF ho

theorem fwithinB_iff {l h n : Int} : fwithinB l h n = true ↔ l ≤ n ∧ n ≤ h := by simp [fwithinB]

/-- The run of a Program, its two boxes made. -/
theorem run43_boxed {b bw be : Nat} {dv : Value} {s : FS} {N : Nat} (hF : Fl w b bw be dv s) (hg : s.Good N) (ho : s.off = false) (at_ : Int) (a : Option Addr) (c : Nat) (xs : List Int) (h : IntsAt w a xs.length xs) (hn : xs.length ≤ 1000000)
    (hsep : ∀ b' o s', a = some ⟨b', o, s'⟩ → b' ∉ foot b bw be dv) (hN : N + xs.length ≤ 1000000000) (hh : fwithinB 0 ((s.w.length : Int) - xs.length) at_ = true) (nq : Nat) :
    Calls Try.prog 43 #[.pointer (some ⟨b, 0, none⟩), .int .i64 xs.length, .func (.func 44) #[] #[.pointer (some ⟨w.heap.size, 0, none⟩), .pointer (some ⟨w.heap.size + 1, 0, none⟩)]]
      (((w.alloc (.cells #[.int .i64 at_] 3)).alloc (.cells #[.slice a xs.length c] 38)).drewN nq) fun e w' =>
      e = .returned (.int .i64 (codeOf (FS.runL s (rawsOf at_ xs)).2)) ∧ ∃ dv', Fl w' b bw be dv' (FS.runL s (rawsOf at_ xs)).1 ∧ Keeps (foot b bw be dv) w w' ∧ ∀ j, dv'.ownBlock = some j → dv.ownBlock = some j ∨ w.heap.size ≤ j := by
  have hF2 := ((hF.alloc (.cells #[.int .i64 at_] 3)).alloc (.cells #[.slice a xs.length c] 38)).drewN nq
  have hk2 : Keeps [] w (((w.alloc (.cells #[.int .i64 at_] 3)).alloc (.cells #[.slice a xs.length c] 38)).drewN nq) := (((Keeps.refl _ _).alloc _).alloc _).drewN _
  have h2 := h.keep hk2 (by simp)
  have hwl := hg.hwl
  obtain ⟨hat, hat2⟩ := fwithinB_iff.1 hh
  have hrun := run_43 w.heap.size (w.heap.size + 1) b bw be dv s (rawsOf at_ xs) N _ hF2 ho hg (by rw [rawsOf_length]; exact hN) ?_ ?_
  · rw [rawsOf_length] at hrun
    refine hrun.mono ?_
    rintro e w' ⟨he, dv', q1, q2, q3⟩
    refine ⟨he, dv', q1, (hk2.mono (by simp)).trans q2 (fun x hx => .inl hx), fun j e => (q3 j e).imp id (fun h => ?_)⟩
    have : (((w.alloc (.cells #[.int .i64 at_] 3)).alloc (.cells #[.slice a xs.length c] 38)).drewN nq).heap.size = w.heap.size + 2 := by
      show (((w.alloc (.cells #[.int .i64 at_] 3)).alloc (.cells #[.slice a xs.length c] 38))).heap.size = _
      simp
    omega
  · intro r hr
    obtain ⟨i, hi⟩ := List.getElem?_of_mem hr
    rw [rawsOf_get] at hi
    have hil : i < xs.length := by
      rcases Nat.lt_or_ge i xs.length with h | h
      · exact h
      · rw [List.getElem?_eq_none h] at hi; simp at hi
    rw [List.getElem?_eq_getElem hil] at hi
    simp at hi
    subst hi
    simp only
    omega
  · intro i r wx hi hold
    have hil : i < xs.length := by
      rw [rawsOf_get] at hi
      rcases Nat.lt_or_ge i xs.length with h | h
      · exact h
      · rw [List.getElem?_eq_none h] at hi; simp at hi
    rw [rawsOf_get, List.getElem?_eq_getElem hil] at hi
    simp at hi
    subst hi
    rcases a with _ | ⟨b', o', s'⟩
    · have := h.2.1 rfl; rw [this] at hil; simp at hil
    obtain ⟨rfl, hc⟩ := h2.2.2 b' o' s' rfl (List.ne_nil_of_length_pos (by omega))
    have hs := hsep b' o' none rfl
    have hx := hc i hil
    have sz : (((w.alloc (.cells #[.int .i64 at_] 3)).alloc (.cells #[.slice (some ⟨b', o', none⟩) xs.length c] 38)).drewN nq).heap.size = w.heap.size + 2 := by
      show (((w.alloc (.cells #[.int .i64 at_] 3)).alloc (.cells #[.slice (some ⟨b', o', none⟩) xs.length c] 38))).heap.size = _
      simp
    have hlt := hF.lt
    have e1 := hold w.heap.size (by omega) (fun hx => by have := hlt _ hx; omega)
    have e2 := hold (w.heap.size + 1) (by omega) (fun hx => by have := hlt _ hx; omega)
    have e3 := hold b' (World.block_lt_of_cell? _ _ hx) hs
    have k1 : wx.cell? ⟨w.heap.size, 0, none⟩ = some (.int .i64 at_) := by
      rw [World.cell?_of_block (a := ⟨w.heap.size, 0, none⟩) e1]
      show ((w.alloc _).alloc _).cell? _ = _
      rw [World.cell?_alloc_lt _ _ _ (by simp), World.cell?_alloc_new]; rfl
    have k2 : wx.cell? ⟨w.heap.size + 1, 0, none⟩ = some (.slice (some ⟨b', o', none⟩) xs.length c) := by
      rw [World.cell?_of_block (a := ⟨w.heap.size + 1, 0, none⟩) e2]
      show ((w.alloc _).alloc _).cell? _ = _
      have := World.cell?_alloc_new (w.alloc (.cells #[.int .i64 at_] 3)) #[.slice (some ⟨b', o', none⟩) xs.length c] 38 0
      rw [World.size_alloc] at this
      exact this
    have k3 : wx.cell? ⟨b', o' + i, none⟩ = some (.int .i64 (xs.getD i 0)) := (World.cell?_of_block (a := ⟨b', o' + i, none⟩) e3).trans hx
    have := prog1_any at_ i w.heap.size (w.heap.size + 1) b' o' xs.length c (xs.getD i 0) wx k1 k2 k3 hat (by omega) hil (by omega) (by unfold maxLen; omega)
    simpa [List.getD, hil] using this

set_option maxHeartbeats 1000000 in
theorem program_yes {b bw be : Nat} {dv : Value} {s : FS} {N : Nat} (hF : Fl w b bw be dv s) (hg : s.Good N) (at_ : Int) (a : Option Addr) (n c : Nat) (xs : List Int) (h : IntsAt w a n xs) (hn : n ≤ 1000000)
    (hsep : ∀ b' o s', a = some ⟨b', o, s'⟩ → b' ∉ foot b bw be dv) (hN : N + n ≤ 1000000000) :
    Calls Try.prog 13 #[.pointer (some ⟨b, 0, none⟩), .int .i64 at_, .slice a n c] w fun e w' => e = .returned (.int .i64 (s.prog at_ xs).1) ∧
      ∃ dv', Fl w' b bw be dv' (s.prog at_ xs).2 ∧ Keeps (foot b bw be dv) w w' ∧ ∀ j, dv'.ownBlock = some j → dv.ownBlock = some j ∨ w.heap.size ≤ j := by
  obtain ⟨rfl, ha⟩ := h
  have h : IntsAt w a xs.length xs := ⟨rfl, ha⟩
  have hF2 := (hF.alloc (.cells #[.int .i64 at_] 3)).alloc (.cells #[.slice a xs.length c] 38)
  have hk2 : Keeps [] w ((w.alloc (.cells #[.int .i64 at_] 3)).alloc (.cells #[.slice a xs.length c] 38)) := ((Keeps.refl _ _).alloc _).alloc _
  have h2 := h.keep hk2 (by simp)
  have c0 := hF2.c0
  have hwl := hg.hwl
  have hnn : (xs.length : Int) ≤ 1000000 := by omega
  have lb := hF.lb
  by_cases hh : fwithinB 0 ((s.w.length : Int) - xs.length) at_ = true
  · by_cases hf : ffitB xs = true
    · by_cases ho : s.off = true
      · have hfin : s.prog at_ xs = (10, s) := by simp [FS.prog, hh, hf, ho]
        have HF := Lib.hid hfin
        clear hfin
        go_enter Try.func13, Try.ntmps13
        go_upto_region 3 with (go_at_call 40; refine (made_fl hF2).mono ?_; rintro e w' ⟨rfl, rfl⟩)
        go_quiet ((first | (go_at_call 41; exact quiet_left (fholds_any _ _ _ _ _ _ (by unfold maxLen; omega) (by omega) (by omega))) | (go_at_call 42; exact quiet_left (ffit_any _ _ _ _ _ (h2.keep (F := []) ((Keeps.refl _ _).drewN _) (by simp)) (by unfold maxLen; omega)))))
        go_wp2_with (go_at_call 43; refine (run43_off (hF2.drewN _) ho _ _).mono ?_; rintro e w' ⟨rfl, rfl⟩)
        go_ret
        rw [HF.out]
        exact ⟨rfl, dv, hF2.drewN _, (hk2.drewN _).mono (by simp), fun j e => .inl e⟩
      · have ho2 : s.off = false := by simpa using ho
        have hfin : s.prog at_ xs = (codeOf (FS.runL s (rawsOf at_ xs)).2, (FS.runL s (rawsOf at_ xs)).1) := by simp [FS.prog, hh, hf, ho2]
        have HF := Lib.hid hfin
        have HO := Lib.hid ho2
        clear hfin ho ho2
        go_enter Try.func13, Try.ntmps13
        go_upto_region 3 with (go_at_call 40; refine (made_fl hF2).mono ?_; rintro e w' ⟨rfl, rfl⟩)
        go_quiet ((first | (go_at_call 41; exact quiet_left (fholds_any _ _ _ _ _ _ (by unfold maxLen; omega) (by omega) (by omega))) | (go_at_call 42; exact quiet_left (ffit_any _ _ _ _ _ (h2.keep (F := []) ((Keeps.refl _ _).drewN _) (by simp)) (by unfold maxLen; omega)))))
        go_wp2_with (go_at_call 43; refine (run43_boxed hF hg HO.out at_ a c xs h hn hsep hN hh nq).mono ?_; rintro e w' ⟨rfl, hres⟩)
        go_ret
        rw [HF.out]
        exact ⟨rfl, hres⟩
    · have hf2 : ffitB xs = false := by simpa using hf
      have hfin : s.prog at_ xs = (2, s) := by simp [FS.prog, hf2]
      have HF := Lib.hid hfin
      clear hfin hf
      go_enter Try.func13, Try.ntmps13
      go_upto_region 3 with (go_at_call 40; refine (made_fl hF2).mono ?_; rintro e w' ⟨rfl, rfl⟩)
      go_quiet ((first | (go_at_call 41; exact quiet_left (fholds_any _ _ _ _ _ _ (by unfold maxLen; omega) (by omega) (by omega))) | (go_at_call 42; exact quiet_left (ffit_any _ _ _ _ _ (h2.keep (F := []) ((Keeps.refl _ _).drewN _) (by simp)) (by unfold maxLen; omega)))))
      go_wp2
      go_ret
      rw [HF.out]
      exact ⟨rfl, dv, hF2.drewN _, (hk2.drewN _).mono (by simp), fun j e => .inl e⟩
  · have hh2 : fwithinB 0 ((s.w.length : Int) - xs.length) at_ = false := by simpa using hh
    have hfin : s.prog at_ xs = (2, s) := by simp [FS.prog, hh2]
    have HF := Lib.hid hfin
    clear hfin hh
    go_enter Try.func13, Try.ntmps13
    go_upto_region 3 with (go_at_call 40; refine (made_fl hF2).mono ?_; rintro e w' ⟨rfl, rfl⟩)
    go_quiet ((go_at_call 41; exact quiet_left (fholds_any _ _ _ _ _ _ (by unfold maxLen; omega) (by omega) (by omega))))
    go_wp2
    go_ret
    rw [HF.out]
    exact ⟨rfl, dv, hF2.drewN _, (hk2.drewN _).mono (by simp), fun j e => .inl e⟩

end Go.Proofs.Ytcaphgokckkmfaa
