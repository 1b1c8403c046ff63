/-
  No cell of these rows narrows 'for every input' (looked for: loops, veiled, ifaces, maps, wideKeys, modest, calm, conditions, laid).
  DERIVED. THE GIVEN ROWS OF THIS SEAT. 7 by the template 'for every input the law returns true; each argument reads behind the call as it read before'; 0 by the template 'total and deterministic' (their statements: YtfkopmgmhmmcbaaTotals.lean).
  GIVEN WITH THE SEED: the statements are not yours to turn. If you find one false, say at which input.
  Laid BY PROGRAM, IN A SANDBOX (cutbox-rows.mjs): the forced cells as the released guide's own fill.sh prints them over the translation 0200a2d83497bf64… (all of the seat's roots in one cut). By AI agents, Wed Nov 11 2026. No macro, syntax, notation, axiom, sorry.
-/
import Derived.Test.YtfkopmgmhmmcbaaChecked
import GoSem.Claim
import GoSem.ClaimJoined
import GoSem.ClaimMapViews
import Derived.JoinedTies
import Derived.KernelRfl
namespace Go.Proofs.Ytfkopmgmhmmcbaa
/- THE CELL 'sum', in the pinned program and in every row, IS THE sha256 OF THE DUMP (.gsa) THAT YtfkopmgmhmmcbaaProg.lean LOADS. Nothing in Lean hashes anything: it is a label: what it is worth is what the hold of that sum in a sandbox is worth. -/
noncomputable def Try.pinned : Pinned := { name := "ytfkopmgmhmmcbaa", sum := "0200a2d83497bf645873a7a6f8d6e88369bd1c0472d64450669b9c42d3d13b9b", checked := Try.checked }
namespace Rows
def none {H : Type} : Left H := { results := [], args := [] }

/-- 'rheostatlaw03.FxClamps': WHATEVER THE INPUT: true; the input reads as it did. -/
def fxClampsSpec : ChangeSpec := { name := "fxClamps", fn := fun _ => fun
  | [d1, d2, d3, d4, d5] => { results := [.lit (.bool true)], args := [d1, d2, d3, d4, d5] }
  | _ => none }
def fxClampsRow : OpenClaim := { program := "ytfkopmgmhmmcbaa", sum := "0200a2d83497bf645873a7a6f8d6e88369bd1c0472d64450669b9c42d3d13b9b", func := "rheostat/rheostatlaw03.FxClamps", spec := "fxClamps", unfollowed := true, recurses := true, apart := false }
def FxClampsSaid : Prop := fxClampsRow.holds Try.pinned (OpenSpec.ofChange fxClampsSpec)

/-- ITS FALSE NEIGHBOUR: 'it returns false'. Refute it at one input. -/
def fxClampsWrong : ChangeSpec := { name := "fxClamps", fn := fun _ => fun
  | [d1, d2, d3, d4, d5] => { results := [.lit (.bool false)], args := [d1, d2, d3, d4, d5] }
  | _ => none }
def FxClampsWrongFalsely : Prop := fxClampsRow.holds Try.pinned (OpenSpec.ofChange fxClampsWrong)

/-- 'rheostatlaw03.FxDivides': WHATEVER THE INPUT: true; the input reads as it did. -/
def fxDividesSpec : ChangeSpec := { name := "fxDivides", fn := fun _ => fun
  | [d1, d2] => { results := [.lit (.bool true)], args := [d1, d2] }
  | _ => none }
def fxDividesRow : OpenClaim := { program := "ytfkopmgmhmmcbaa", sum := "0200a2d83497bf645873a7a6f8d6e88369bd1c0472d64450669b9c42d3d13b9b", func := "rheostat/rheostatlaw03.FxDivides", spec := "fxDivides", unfollowed := true, recurses := true, apart := false }
def FxDividesSaid : Prop := fxDividesRow.holds Try.pinned (OpenSpec.ofChange fxDividesSpec)

/-- ITS FALSE NEIGHBOUR: 'it returns false'. Refute it at one input. -/
def fxDividesWrong : ChangeSpec := { name := "fxDivides", fn := fun _ => fun
  | [d1, d2] => { results := [.lit (.bool false)], args := [d1, d2] }
  | _ => none }
def FxDividesWrongFalsely : Prop := fxDividesRow.holds Try.pinned (OpenSpec.ofChange fxDividesWrong)

/-- 'rheostatlaw03.FxMoves': WHATEVER THE INPUT: true; the input reads as it did. -/
def fxMovesSpec : ChangeSpec := { name := "fxMoves", fn := fun _ => fun
  | [d1, d2, d3] => { results := [.lit (.bool true)], args := [d1, d2, d3] }
  | _ => none }
def fxMovesRow : OpenClaim := { program := "ytfkopmgmhmmcbaa", sum := "0200a2d83497bf645873a7a6f8d6e88369bd1c0472d64450669b9c42d3d13b9b", func := "rheostat/rheostatlaw03.FxMoves", spec := "fxMoves", unfollowed := true, recurses := true, apart := false }
def FxMovesSaid : Prop := fxMovesRow.holds Try.pinned (OpenSpec.ofChange fxMovesSpec)

/-- ITS FALSE NEIGHBOUR: 'it returns false'. Refute it at one input. -/
def fxMovesWrong : ChangeSpec := { name := "fxMoves", fn := fun _ => fun
  | [d1, d2, d3] => { results := [.lit (.bool false)], args := [d1, d2, d3] }
  | _ => none }
def FxMovesWrongFalsely : Prop := fxMovesRow.holds Try.pinned (OpenSpec.ofChange fxMovesWrong)

/-- 'rheostatlaw03.FxBounds': WHATEVER THE INPUT: true; the input reads as it did. -/
def fxBoundsSpec : ChangeSpec := { name := "fxBounds", fn := fun _ => fun
  | [d1, d2, d3] => { results := [.lit (.bool true)], args := [d1, d2, d3] }
  | _ => none }
def fxBoundsRow : OpenClaim := { program := "ytfkopmgmhmmcbaa", sum := "0200a2d83497bf645873a7a6f8d6e88369bd1c0472d64450669b9c42d3d13b9b", func := "rheostat/rheostatlaw03.FxBounds", spec := "fxBounds", unfollowed := true, recurses := true, apart := false }
def FxBoundsSaid : Prop := fxBoundsRow.holds Try.pinned (OpenSpec.ofChange fxBoundsSpec)

/-- ITS FALSE NEIGHBOUR: 'it returns false'. Refute it at one input. -/
def fxBoundsWrong : ChangeSpec := { name := "fxBounds", fn := fun _ => fun
  | [d1, d2, d3] => { results := [.lit (.bool false)], args := [d1, d2, d3] }
  | _ => none }
def FxBoundsWrongFalsely : Prop := fxBoundsRow.holds Try.pinned (OpenSpec.ofChange fxBoundsWrong)

/-- 'rheostatlaw03.FxLefts': WHATEVER THE INPUT: true; the input reads as it did. -/
def fxLeftsSpec : ChangeSpec := { name := "fxLefts", fn := fun _ => fun
  | [d1, d2] => { results := [.lit (.bool true)], args := [d1, d2] }
  | _ => none }
def fxLeftsRow : OpenClaim := { program := "ytfkopmgmhmmcbaa", sum := "0200a2d83497bf645873a7a6f8d6e88369bd1c0472d64450669b9c42d3d13b9b", func := "rheostat/rheostatlaw03.FxLefts", spec := "fxLefts", unfollowed := true, recurses := true, apart := false }
def FxLeftsSaid : Prop := fxLeftsRow.holds Try.pinned (OpenSpec.ofChange fxLeftsSpec)

/-- ITS FALSE NEIGHBOUR: 'it returns false'. Refute it at one input. -/
def fxLeftsWrong : ChangeSpec := { name := "fxLefts", fn := fun _ => fun
  | [d1, d2] => { results := [.lit (.bool false)], args := [d1, d2] }
  | _ => none }
def FxLeftsWrongFalsely : Prop := fxLeftsRow.holds Try.pinned (OpenSpec.ofChange fxLeftsWrong)

/-- 'rheostatlaw03.FxHalves': WHATEVER THE INPUT: true; the input reads as it did. -/
def fxHalvesSpec : ChangeSpec := { name := "fxHalves", fn := fun _ => fun
  | [d1, d2] => { results := [.lit (.bool true)], args := [d1, d2] }
  | _ => none }
def fxHalvesRow : OpenClaim := { program := "ytfkopmgmhmmcbaa", sum := "0200a2d83497bf645873a7a6f8d6e88369bd1c0472d64450669b9c42d3d13b9b", func := "rheostat/rheostatlaw03.FxHalves", spec := "fxHalves", unfollowed := true, recurses := true, apart := false }
def FxHalvesSaid : Prop := fxHalvesRow.holds Try.pinned (OpenSpec.ofChange fxHalvesSpec)

/-- ITS FALSE NEIGHBOUR: 'it returns false'. Refute it at one input. -/
def fxHalvesWrong : ChangeSpec := { name := "fxHalves", fn := fun _ => fun
  | [d1, d2] => { results := [.lit (.bool false)], args := [d1, d2] }
  | _ => none }
def FxHalvesWrongFalsely : Prop := fxHalvesRow.holds Try.pinned (OpenSpec.ofChange fxHalvesWrong)

/-- 'rheostatlaw03.FxComes': WHATEVER THE INPUT: true; the input reads as it did. -/
def fxComesSpec : ChangeSpec := { name := "fxComes", fn := fun _ => fun
  | [d1, d2, d3] => { results := [.lit (.bool true)], args := [d1, d2, d3] }
  | _ => none }
def fxComesRow : OpenClaim := { program := "ytfkopmgmhmmcbaa", sum := "0200a2d83497bf645873a7a6f8d6e88369bd1c0472d64450669b9c42d3d13b9b", func := "rheostat/rheostatlaw03.FxComes", spec := "fxComes", unfollowed := true, recurses := true, apart := false }
def FxComesSaid : Prop := fxComesRow.holds Try.pinned (OpenSpec.ofChange fxComesSpec)

/-- ITS FALSE NEIGHBOUR: 'it returns false'. Refute it at one input. -/
def fxComesWrong : ChangeSpec := { name := "fxComes", fn := fun _ => fun
  | [d1, d2, d3] => { results := [.lit (.bool false)], args := [d1, d2, d3] }
  | _ => none }
def FxComesWrongFalsely : Prop := fxComesRow.holds Try.pinned (OpenSpec.ofChange fxComesWrong)

/- THE SECOND FORM. 'bulk': how many values and letters a reading holds, each counted each time it is reached (what is shared counts as often as it is met; a slice's spare places count too). A statement '..UptoSaid' is the law's where the arguments, and the package variables that the reading takes, are together of bulk at most 1048576: NARROWER than '..Said'. Prove '..Said' where nothing that the law and all that it calls make is longer than what came in: it says more and counts as full. Else prove '..UptoSaid'. A law counts once. -/
mutual
def uptoBulk {H : Type} : DataW H → Nat
  | .lit (.string bytes) => bytes.length + 1
  | .lit _ => 1
  | .nil => 1
  | .ptr d => uptoBulk d + 1
  | .slice elems spare => uptoBulkAll elems + uptoBulkAll spare + 1
  | .agg parts => uptoBulkAll parts + 1
  | .iface _ d => uptoBulk d + 1
  | .map entries => uptoBulkEntries entries + 1
  | .held _ => 1
def uptoBulkAll {H : Type} : List (DataW H) → Nat
  | [] => 0
  | d :: r => uptoBulk d + uptoBulkAll r
def uptoBulkEntries {H : Type} : List (Lit × DataW H) → Nat
  | [] => 0
  | x :: r => uptoBulkEntry x + uptoBulkEntries r
def uptoBulkEntry {H : Type} : Lit × DataW H → Nat
  | (.string bytes, d) => bytes.length + uptoBulk d + 1
  | (_, d) => uptoBulk d + 1
 end
def uptoSmall : (H : Type) → List (DataW H) → Bool := fun _ ds => decide (uptoBulkAll ds ≤ 1048576)
def OpenSpec.upto (s : _root_.Go.ChangeSpec) : _root_.Go.OpenSpec := { _root_.Go.OpenSpec.ofChange s with cond := some uptoSmall }

/-- 'rheostatlaw03.FxClamps', WHERE WHAT IT READS IS OF BULK AT MOST 1048576: true; the input reads as it did. -/
def fxClampsUptoRow : OpenClaim := { program := "ytfkopmgmhmmcbaa", sum := "0200a2d83497bf645873a7a6f8d6e88369bd1c0472d64450669b9c42d3d13b9b", func := "rheostat/rheostatlaw03.FxClamps", spec := "fxClamps", unfollowed := true, recurses := true, apart := false, narrowed := true }
def FxClampsUptoSaid : Prop := fxClampsUptoRow.holds Try.pinned (OpenSpec.upto fxClampsSpec)

/-- 'rheostatlaw03.FxDivides', WHERE WHAT IT READS IS OF BULK AT MOST 1048576: true; the input reads as it did. -/
def fxDividesUptoRow : OpenClaim := { program := "ytfkopmgmhmmcbaa", sum := "0200a2d83497bf645873a7a6f8d6e88369bd1c0472d64450669b9c42d3d13b9b", func := "rheostat/rheostatlaw03.FxDivides", spec := "fxDivides", unfollowed := true, recurses := true, apart := false, narrowed := true }
def FxDividesUptoSaid : Prop := fxDividesUptoRow.holds Try.pinned (OpenSpec.upto fxDividesSpec)

/-- 'rheostatlaw03.FxMoves', WHERE WHAT IT READS IS OF BULK AT MOST 1048576: true; the input reads as it did. -/
def fxMovesUptoRow : OpenClaim := { program := "ytfkopmgmhmmcbaa", sum := "0200a2d83497bf645873a7a6f8d6e88369bd1c0472d64450669b9c42d3d13b9b", func := "rheostat/rheostatlaw03.FxMoves", spec := "fxMoves", unfollowed := true, recurses := true, apart := false, narrowed := true }
def FxMovesUptoSaid : Prop := fxMovesUptoRow.holds Try.pinned (OpenSpec.upto fxMovesSpec)

/-- 'rheostatlaw03.FxBounds', WHERE WHAT IT READS IS OF BULK AT MOST 1048576: true; the input reads as it did. -/
def fxBoundsUptoRow : OpenClaim := { program := "ytfkopmgmhmmcbaa", sum := "0200a2d83497bf645873a7a6f8d6e88369bd1c0472d64450669b9c42d3d13b9b", func := "rheostat/rheostatlaw03.FxBounds", spec := "fxBounds", unfollowed := true, recurses := true, apart := false, narrowed := true }
def FxBoundsUptoSaid : Prop := fxBoundsUptoRow.holds Try.pinned (OpenSpec.upto fxBoundsSpec)

/-- 'rheostatlaw03.FxLefts', WHERE WHAT IT READS IS OF BULK AT MOST 1048576: true; the input reads as it did. -/
def fxLeftsUptoRow : OpenClaim := { program := "ytfkopmgmhmmcbaa", sum := "0200a2d83497bf645873a7a6f8d6e88369bd1c0472d64450669b9c42d3d13b9b", func := "rheostat/rheostatlaw03.FxLefts", spec := "fxLefts", unfollowed := true, recurses := true, apart := false, narrowed := true }
def FxLeftsUptoSaid : Prop := fxLeftsUptoRow.holds Try.pinned (OpenSpec.upto fxLeftsSpec)

/-- 'rheostatlaw03.FxHalves', WHERE WHAT IT READS IS OF BULK AT MOST 1048576: true; the input reads as it did. -/
def fxHalvesUptoRow : OpenClaim := { program := "ytfkopmgmhmmcbaa", sum := "0200a2d83497bf645873a7a6f8d6e88369bd1c0472d64450669b9c42d3d13b9b", func := "rheostat/rheostatlaw03.FxHalves", spec := "fxHalves", unfollowed := true, recurses := true, apart := false, narrowed := true }
def FxHalvesUptoSaid : Prop := fxHalvesUptoRow.holds Try.pinned (OpenSpec.upto fxHalvesSpec)

/-- 'rheostatlaw03.FxComes', WHERE WHAT IT READS IS OF BULK AT MOST 1048576: true; the input reads as it did. -/
def fxComesUptoRow : OpenClaim := { program := "ytfkopmgmhmmcbaa", sum := "0200a2d83497bf645873a7a6f8d6e88369bd1c0472d64450669b9c42d3d13b9b", func := "rheostat/rheostatlaw03.FxComes", spec := "fxComes", unfollowed := true, recurses := true, apart := false, narrowed := true }
def FxComesUptoSaid : Prop := fxComesUptoRow.holds Try.pinned (OpenSpec.upto fxComesSpec)

end Rows
end Go.Proofs.Ytfkopmgmhmmcbaa
