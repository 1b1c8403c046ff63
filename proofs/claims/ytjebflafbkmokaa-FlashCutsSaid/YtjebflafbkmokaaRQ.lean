/- The document's flash that is brought to where some raw writes lead: one raw write more. -/
import Derived.Test.YtjebflafbkmokaaRP
import Derived.Test.YtjebflafbkmokaaRD
import Derived.Test.YtjebflafbkmokaaCR
namespace Go.Proofs.Ytjebflafbkmokaa
open Go.RowKit
set_option linter.unusedVariables false
variable {b gw cw be : Nat} {lv : Value}

structure RefR (w0 wr : World) (b gw cw be : Nat) (lv : Value) (t : FS) (k : Nat) (L : List Raw3) : Prop where
  fl : Rf wr b gw cw be lv t
  k0 : Keeps [] w0 wr
  up : ∀ j ∈ foot b gw be lv, w0.heap.size ≤ j
  tw : t.w = ((L.take k).foldl FS.put tw0).w
  cut : t.cut = -1
  off : t.off = false
  dn : t.done.length ≤ k
  h16 : W16 t.w

variable {w0 wr : World} {t : FS} {k : Nat} {L : List Raw3}

theorem RefR.wl (h : RefR w0 wr b gw cw be lv t k L) : t.w.length = 64 := by rw [h.tw, foldl_put_length]; exact tw0_w
theorem take_put {r : Raw3} (hr : L[k]? = some r) : ((L.take (k + 1)).foldl FS.put tw0).w = (((L.take k).foldl FS.put tw0).put r).w := by
  obtain ⟨hk, e⟩ := List.getElem?_eq_some_iff.1 hr
  rw [List.take_succ_eq_append_getElem hk, e, List.foldl_append]; rfl

theorem RefR.start {w0 w : World} (h0 : Keeps [] w0 w) {w' : World} (hm : MadeRf w w' tw0 b) (L : List Raw3) : ∃ gw cw be, RefR w0 w' b gw cw be (.slice none 0 0) tw0 0 L := by
  obtain ⟨gw, cw, be, hf, h1, h2, h3, hk⟩ := hm
  have hs := h0.size
  refine ⟨gw, cw, be, hf, h0.trans0 hk, ?_, rfl, by decide +kernel, by decide +kernel, by decide +kernel, tw0_w16⟩
  intro j hj
  rw [mem_foot] at hj
  rcases hj with rfl | rfl | rfl | hj
  · omega
  · omega
  · omega
  · simp [Value.ownBlock] at hj

theorem RefR.erase (h : RefR w0 wr b gw cw be lv t k L) (q : Nat) (v : Int) (hr : L[k]? = some (true, (q : Int), v)) (hq : q < 64) : RefR w0 (wr.drew.setCell ⟨gw, q, none⟩ (.int .i64 65535)) b gw cw be lv { t with w := t.w.set q 65535 } (k + 1) L := by
  have e : t.w.set q 65535 = (t.put (true, (q : Int), v)).w := by simp [FS.put, wordAfter]
  refine ⟨(h.fl.keep0 ((Keeps.refl _ _).drew)).setW (by rw [h.wl]; exact hq) _, (h.k0.drew).setCell (.inr (h.up gw (by simp [foot]))) _, h.up, ?_, h.cut, h.off, by have := h.dn; simp only; omega, ?_⟩
  · show t.w.set q 65535 = _
    rw [take_put hr, e]; simp only [FS.put, h.tw]
  · show W16 (t.w.set q 65535)
    rw [e]; exact h.h16.put (.inl rfl)

theorem ref_prog1 (h : RefR w0 wr b gw cw be lv t k L) (q : Nat) (v : Int) (hr : L[k]? = some (false, (q : Int), v)) (hin : RawIn (false, (q : Int), v)) (hk : k ≤ 1000) :
    Calls Try.prog 18 #[.pointer (some ⟨b, 0, none⟩), .int .i64 q, .slice (some ⟨wr.heap.size, 0, none⟩) 1 1] (wr.alloc (.cells #[.int .i64 v] 3)).drew fun e w' =>
      e = .returned (.int .i64 0) ∧ ∃ lv2, RefR w0 w' b gw cw be lv2 (t.putR (false, (q : Int), v)) (k + 1) L := by
  have hkd : Keeps [] wr (wr.alloc (.cells #[.int .i64 v] 3)).drew := ((Keeps.refl _ _).alloc _).drew
  have hwl := h.wl
  have hcut := h.cut
  have hoff := h.off
  have hdn := h.dn
  have hq : q < 64 := by have := hin.2.2; simp only at this; omega
  have hv : 0 ≤ v ∧ v ≤ 65535 := by rcases hin.1 with h | h; cases h; exact h
  have hsep : ∀ b' o s', (some ⟨wr.heap.size, 0, none⟩ : Option Addr) = some ⟨b', o, s'⟩ → b' ∉ foot b gw be lv := by
    rintro b' o s' e hx
    injection e with e
    injection e with e1 e2 e3
    subst e1
    have := h.fl.lt _ hx
    omega
  have hp : t.progR q [v] = (0, t.putR (false, (q : Int), v)) := by
    have h1 : withinB 0 ((t.w.length : Int) - ([v].length : Nat)) q = true := by rw [withinB_iff, hwl]; simp; omega
    have h2 : fitB [v] = true := by simp [fitB, withinB, hv.1, hv.2]
    simp only [FS.progR, h1, h2, hoff, Bool.and_self, if_true]
    simp [rawsOf, FS.runR, hcut, codeOf]
  refine (refProgram_any (h.fl.keep0 hkd) q _ 1 1 [v] ((ints_one wr v).keep (F := []) (Keeps.refl _ _).drew (by simp)) (by omega) hsep h.h16 (by omega) (by omega) (by omega)).mono ?_
  rintro e w' ⟨he, lv2, q1, q2, q3⟩
  rw [hp] at he q1
  have hs := h.k0.size
  have q3' : ∀ j, lv2.ownBlock = some j → lv.ownBlock = some j ∨ wr.heap.size ≤ j := fun j e => (q3 j e).imp id (fun hh => by simp at hh; omega)
  refine ⟨he, lv2, q1, h.k0.trans ((hkd.mono (by simp)).trans q2 (fun x hx => .inl hx)) (fun x hx => .inr (h.up x hx)), ?_, ?_, ?_, hoff, by rw [putR_done, List.length_append]; simp; omega, h.h16.put (.inr hv)⟩
  · intro j hj
    have hu := h.up
    rw [mem_foot] at hj
    rcases hj with rfl | rfl | rfl | hj
    · exact hu _ (by simp [foot])
    · exact hu _ (by simp [foot])
    · exact hu _ (by simp [foot])
    · rcases q3' _ hj with h1 | h1
      · exact hu _ (by rw [mem_foot]; exact .inr (.inr (.inr h1)))
      · omega
  · rw [take_put hr]; simp only [FS.putR, FS.put, h.tw]
  · simp only [FS.putR, FS.put, hcut]; rfl

end Go.Proofs.Ytjebflafbkmokaa
