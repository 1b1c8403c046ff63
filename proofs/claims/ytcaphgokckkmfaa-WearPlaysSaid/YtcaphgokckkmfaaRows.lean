/-
  No cell of these rows narrows 'for every input' (looked for: loops, veiled, ifaces, maps, wideKeys, modest, calm, conditions, laid).
  DERIVED. THE GIVEN ROWS OF THIS SEAT. 6 by the template 'for every input the law returns true; each argument reads behind the call as it read before'; 0 by the template 'total and deterministic' (their statements: YtcaphgokckkmfaaTotals.lean).
  GIVEN WITH THE SEED: the statements are not yours to turn. If you find one false, say at which input.
  Laid BY PROGRAM, IN A SANDBOX (cutbox-rows.mjs): the forced cells as the released guide's own fill.sh prints them over the translation 399bc9f51a76f07e… (all of the seat's roots in one cut). By AI agents, Wed Nov 11 2026. No macro, syntax, notation, axiom, sorry.
-/
import Derived.Test.YtcaphgokckkmfaaChecked
import GoSem.Claim
import GoSem.ClaimJoined
import GoSem.ClaimMapViews
import Derived.JoinedTies
import Derived.KernelRfl
namespace Go.Proofs.Ytcaphgokckkmfaa
/- THE CELL 'sum', in the pinned program and in every row, IS THE sha256 OF THE DUMP (.gsa) THAT YtcaphgokckkmfaaProg.lean LOADS. Nothing in Lean hashes anything: it is a label: what it is worth is what the hold of that sum in a sandbox is worth. -/
noncomputable def Try.pinned : Pinned := { name := "ytcaphgokckkmfaa", sum := "399bc9f51a76f07e38addd9a3b08bf73aff843528b9380d4d5687aff1bf484eb", checked := Try.checked }
namespace Rows
def none {H : Type} : Left H := { results := [], args := [] }

/-- 'rheostatlaw08.WearPlays': WHATEVER THE INPUT: true; the input reads as it did. -/
def wearPlaysSpec : ChangeSpec := { name := "wearPlays", fn := fun _ => fun
  | [d] => { results := [.lit (.bool true)], args := [d] }
  | _ => none }
def wearPlaysRow : OpenClaim := { program := "ytcaphgokckkmfaa", sum := "399bc9f51a76f07e38addd9a3b08bf73aff843528b9380d4d5687aff1bf484eb", func := "rheostat/rheostatlaw08.WearPlays", spec := "wearPlays", unfollowed := true, recurses := true, apart := false }
def WearPlaysSaid : Prop := wearPlaysRow.holds Try.pinned (OpenSpec.ofChange wearPlaysSpec)

/-- ITS FALSE NEIGHBOUR: 'it returns false'. Refute it at one input. -/
def wearPlaysWrong : ChangeSpec := { name := "wearPlays", fn := fun _ => fun
  | [d] => { results := [.lit (.bool false)], args := [d] }
  | _ => none }
def WearPlaysWrongFalsely : Prop := wearPlaysRow.holds Try.pinned (OpenSpec.ofChange wearPlaysWrong)

/-- 'rheostatlaw08.WearTurns': WHATEVER THE INPUT: true; the input reads as it did. -/
def wearTurnsSpec : ChangeSpec := { name := "wearTurns", fn := fun _ => fun
  | [d1, d2, d3, d4] => { results := [.lit (.bool true)], args := [d1, d2, d3, d4] }
  | _ => none }
def wearTurnsRow : OpenClaim := { program := "ytcaphgokckkmfaa", sum := "399bc9f51a76f07e38addd9a3b08bf73aff843528b9380d4d5687aff1bf484eb", func := "rheostat/rheostatlaw08.WearTurns", spec := "wearTurns", unfollowed := true, recurses := true, apart := false }
def WearTurnsSaid : Prop := wearTurnsRow.holds Try.pinned (OpenSpec.ofChange wearTurnsSpec)

/-- ITS FALSE NEIGHBOUR: 'it returns false'. Refute it at one input. -/
def wearTurnsWrong : ChangeSpec := { name := "wearTurns", fn := fun _ => fun
  | [d1, d2, d3, d4] => { results := [.lit (.bool false)], args := [d1, d2, d3, d4] }
  | _ => none }
def WearTurnsWrongFalsely : Prop := wearTurnsRow.holds Try.pinned (OpenSpec.ofChange wearTurnsWrong)

/-- 'rheostatlaw08.WearCleans': WHATEVER THE INPUT: true; the input reads as it did. -/
def wearCleansSpec : ChangeSpec := { name := "wearCleans", fn := fun _ => fun
  | [d1, d2] => { results := [.lit (.bool true)], args := [d1, d2] }
  | _ => none }
def wearCleansRow : OpenClaim := { program := "ytcaphgokckkmfaa", sum := "399bc9f51a76f07e38addd9a3b08bf73aff843528b9380d4d5687aff1bf484eb", func := "rheostat/rheostatlaw08.WearCleans", spec := "wearCleans", unfollowed := true, recurses := true, apart := false }
def WearCleansSaid : Prop := wearCleansRow.holds Try.pinned (OpenSpec.ofChange wearCleansSpec)

/-- ITS FALSE NEIGHBOUR: 'it returns false'. Refute it at one input. -/
def wearCleansWrong : ChangeSpec := { name := "wearCleans", fn := fun _ => fun
  | [d1, d2] => { results := [.lit (.bool false)], args := [d1, d2] }
  | _ => none }
def WearCleansWrongFalsely : Prop := wearCleansRow.holds Try.pinned (OpenSpec.ofChange wearCleansWrong)

/-- 'rheostatlaw08.WearCuts': WHATEVER THE INPUT: true; the input reads as it did. -/
def wearCutsSpec : ChangeSpec := { name := "wearCuts", fn := fun _ => fun
  | [d1, d2, d3] => { results := [.lit (.bool true)], args := [d1, d2, d3] }
  | _ => none }
def wearCutsRow : OpenClaim := { program := "ytcaphgokckkmfaa", sum := "399bc9f51a76f07e38addd9a3b08bf73aff843528b9380d4d5687aff1bf484eb", func := "rheostat/rheostatlaw08.WearCuts", spec := "wearCuts", unfollowed := true, recurses := true, apart := false }
def WearCutsSaid : Prop := wearCutsRow.holds Try.pinned (OpenSpec.ofChange wearCutsSpec)

/-- ITS FALSE NEIGHBOUR: 'it returns false'. Refute it at one input. -/
def wearCutsWrong : ChangeSpec := { name := "wearCuts", fn := fun _ => fun
  | [d1, d2, d3] => { results := [.lit (.bool false)], args := [d1, d2, d3] }
  | _ => none }
def WearCutsWrongFalsely : Prop := wearCutsRow.holds Try.pinned (OpenSpec.ofChange wearCutsWrong)

/-- 'rheostatlaw08.WearRounds': WHATEVER THE INPUT: true; the input reads as it did. -/
def wearRoundsSpec : ChangeSpec := { name := "wearRounds", fn := fun _ => fun
  | [d1, d2] => { results := [.lit (.bool true)], args := [d1, d2] }
  | _ => none }
def wearRoundsRow : OpenClaim := { program := "ytcaphgokckkmfaa", sum := "399bc9f51a76f07e38addd9a3b08bf73aff843528b9380d4d5687aff1bf484eb", func := "rheostat/rheostatlaw08.WearRounds", spec := "wearRounds", unfollowed := true, recurses := true, apart := false }
def WearRoundsSaid : Prop := wearRoundsRow.holds Try.pinned (OpenSpec.ofChange wearRoundsSpec)

/-- ITS FALSE NEIGHBOUR: 'it returns false'. Refute it at one input. -/
def wearRoundsWrong : ChangeSpec := { name := "wearRounds", fn := fun _ => fun
  | [d1, d2] => { results := [.lit (.bool false)], args := [d1, d2] }
  | _ => none }
def WearRoundsWrongFalsely : Prop := wearRoundsRow.holds Try.pinned (OpenSpec.ofChange wearRoundsWrong)

/-- 'rheostatlaw08.WearVoid': WHATEVER THE INPUT: true; the input reads as it did. -/
def wearVoidSpec : ChangeSpec := { name := "wearVoid", fn := fun _ => fun
  | [d] => { results := [.lit (.bool true)], args := [d] }
  | _ => none }
def wearVoidRow : OpenClaim := { program := "ytcaphgokckkmfaa", sum := "399bc9f51a76f07e38addd9a3b08bf73aff843528b9380d4d5687aff1bf484eb", func := "rheostat/rheostatlaw08.WearVoid", spec := "wearVoid", unfollowed := true, recurses := true, apart := false }
def WearVoidSaid : Prop := wearVoidRow.holds Try.pinned (OpenSpec.ofChange wearVoidSpec)

/-- ITS FALSE NEIGHBOUR: 'it returns false'. Refute it at one input. -/
def wearVoidWrong : ChangeSpec := { name := "wearVoid", fn := fun _ => fun
  | [d] => { results := [.lit (.bool false)], args := [d] }
  | _ => none }
def WearVoidWrongFalsely : Prop := wearVoidRow.holds Try.pinned (OpenSpec.ofChange wearVoidWrong)

/- THE SECOND FORM. 'bulk': how many values and letters a reading holds, each counted each time it is reached (what is shared counts as often as it is met; a slice's spare places count too). A statement '..UptoSaid' is the law's where the arguments, and the package variables that the reading takes, are together of bulk at most 1048576: NARROWER than '..Said'. Prove '..Said' where nothing that the law and all that it calls make is longer than what came in: it says more and counts as full. Else prove '..UptoSaid'. A law counts once. -/
mutual
def uptoBulk {H : Type} : DataW H → Nat
  | .lit (.string bytes) => bytes.length + 1
  | .lit _ => 1
  | .nil => 1
  | .ptr d => uptoBulk d + 1
  | .slice elems spare => uptoBulkAll elems + uptoBulkAll spare + 1
  | .agg parts => uptoBulkAll parts + 1
  | .iface _ d => uptoBulk d + 1
  | .map entries => uptoBulkEntries entries + 1
  | .held _ => 1
def uptoBulkAll {H : Type} : List (DataW H) → Nat
  | [] => 0
  | d :: r => uptoBulk d + uptoBulkAll r
def uptoBulkEntries {H : Type} : List (Lit × DataW H) → Nat
  | [] => 0
  | x :: r => uptoBulkEntry x + uptoBulkEntries r
def uptoBulkEntry {H : Type} : Lit × DataW H → Nat
  | (.string bytes, d) => bytes.length + uptoBulk d + 1
  | (_, d) => uptoBulk d + 1
 end
def uptoSmall : (H : Type) → List (DataW H) → Bool := fun _ ds => decide (uptoBulkAll ds ≤ 1048576)
def OpenSpec.upto (s : _root_.Go.ChangeSpec) : _root_.Go.OpenSpec := { _root_.Go.OpenSpec.ofChange s with cond := some uptoSmall }

/-- 'rheostatlaw08.WearPlays', WHERE WHAT IT READS IS OF BULK AT MOST 1048576: true; the input reads as it did. -/
def wearPlaysUptoRow : OpenClaim := { program := "ytcaphgokckkmfaa", sum := "399bc9f51a76f07e38addd9a3b08bf73aff843528b9380d4d5687aff1bf484eb", func := "rheostat/rheostatlaw08.WearPlays", spec := "wearPlays", unfollowed := true, recurses := true, apart := false, narrowed := true }
def WearPlaysUptoSaid : Prop := wearPlaysUptoRow.holds Try.pinned (OpenSpec.upto wearPlaysSpec)

/-- 'rheostatlaw08.WearTurns', WHERE WHAT IT READS IS OF BULK AT MOST 1048576: true; the input reads as it did. -/
def wearTurnsUptoRow : OpenClaim := { program := "ytcaphgokckkmfaa", sum := "399bc9f51a76f07e38addd9a3b08bf73aff843528b9380d4d5687aff1bf484eb", func := "rheostat/rheostatlaw08.WearTurns", spec := "wearTurns", unfollowed := true, recurses := true, apart := false, narrowed := true }
def WearTurnsUptoSaid : Prop := wearTurnsUptoRow.holds Try.pinned (OpenSpec.upto wearTurnsSpec)

/-- 'rheostatlaw08.WearCleans', WHERE WHAT IT READS IS OF BULK AT MOST 1048576: true; the input reads as it did. -/
def wearCleansUptoRow : OpenClaim := { program := "ytcaphgokckkmfaa", sum := "399bc9f51a76f07e38addd9a3b08bf73aff843528b9380d4d5687aff1bf484eb", func := "rheostat/rheostatlaw08.WearCleans", spec := "wearCleans", unfollowed := true, recurses := true, apart := false, narrowed := true }
def WearCleansUptoSaid : Prop := wearCleansUptoRow.holds Try.pinned (OpenSpec.upto wearCleansSpec)

/-- 'rheostatlaw08.WearCuts', WHERE WHAT IT READS IS OF BULK AT MOST 1048576: true; the input reads as it did. -/
def wearCutsUptoRow : OpenClaim := { program := "ytcaphgokckkmfaa", sum := "399bc9f51a76f07e38addd9a3b08bf73aff843528b9380d4d5687aff1bf484eb", func := "rheostat/rheostatlaw08.WearCuts", spec := "wearCuts", unfollowed := true, recurses := true, apart := false, narrowed := true }
def WearCutsUptoSaid : Prop := wearCutsUptoRow.holds Try.pinned (OpenSpec.upto wearCutsSpec)

/-- 'rheostatlaw08.WearRounds', WHERE WHAT IT READS IS OF BULK AT MOST 1048576: true; the input reads as it did. -/
def wearRoundsUptoRow : OpenClaim := { program := "ytcaphgokckkmfaa", sum := "399bc9f51a76f07e38addd9a3b08bf73aff843528b9380d4d5687aff1bf484eb", func := "rheostat/rheostatlaw08.WearRounds", spec := "wearRounds", unfollowed := true, recurses := true, apart := false, narrowed := true }
def WearRoundsUptoSaid : Prop := wearRoundsUptoRow.holds Try.pinned (OpenSpec.upto wearRoundsSpec)

/-- 'rheostatlaw08.WearVoid', WHERE WHAT IT READS IS OF BULK AT MOST 1048576: true; the input reads as it did. -/
def wearVoidUptoRow : OpenClaim := { program := "ytcaphgokckkmfaa", sum := "399bc9f51a76f07e38addd9a3b08bf73aff843528b9380d4d5687aff1bf484eb", func := "rheostat/rheostatlaw08.WearVoid", spec := "wearVoid", unfollowed := true, recurses := true, apart := false, narrowed := true }
def WearVoidUptoSaid : Prop := wearVoidUptoRow.holds Try.pinned (OpenSpec.upto wearVoidSpec)

end Rows
end Go.Proofs.Ytcaphgokckkmfaa
