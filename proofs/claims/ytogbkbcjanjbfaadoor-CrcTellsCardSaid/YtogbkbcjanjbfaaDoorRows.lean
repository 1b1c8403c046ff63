/-
  NARROWER THAN 'FOR EVERY INPUT', by the rows' own cells (each row's printed sentence says how): CrcTells: laid · CrcTurns: laid · CrcRights: laid · CrcPieces: laid · CrcFinds: laid · CrcEnds: laid.
  DERIVED. THE GIVEN ROWS OF THIS SEAT. 6 by the template 'for every input the law returns true; each argument reads behind the call as it read before'; 0 by the template 'total and deterministic' (their statements: YtogbkbcjanjbfaaDoorTotals.lean).
  GIVEN WITH THE SEED: the statements are not yours to turn. If you find one false, say at which input.
  Laid BY PROGRAM, IN A SANDBOX (cutbox-rows.mjs): the forced cells as the released guide's own fill.sh prints them over the translation ebb4165685d113a6… (all of the seat's roots in one cut). By AI agents, Wed Nov 11 2026. No macro, syntax, notation, axiom, sorry.
-/
import Derived.Test.YtogbkbcjanjbfaaDoorChecked
import GoSem.Claim
import GoSem.ClaimJoined
import GoSem.ClaimMapViews
import Derived.JoinedTies
import Derived.KernelRfl
namespace Go.Proofs.YtogbkbcjanjbfaaDoor
/- THE CELL 'sum', in the pinned program and in every row, IS THE sha256 OF THE DUMP (.gsa) THAT YtogbkbcjanjbfaaDoorProg.lean LOADS. Nothing in Lean hashes anything: it is a label: what it is worth is what the hold of that sum in a sandbox is worth. -/
noncomputable def Tryd.pinned : Pinned := { name := "ytogbkbcjanjbfaadoor", sum := "ebb4165685d113a6a2f3cf8bc0358e15e9952244256534b57150bf8aab6df68c", checked := Tryd.checked }
namespace Rows
def none {H : Type} : Left H := { results := [], args := [] }

/- WHAT THE LISTED PACKAGE-LEVEL VARIABLES READ AS WHEN THE CALL BEGINS. Each datum BY PROGRAM (the guide's laid-datum.mjs) off the statement by which the dump's own 'gosem.cut.vars' lays the variable. In a bare row this is a premise. The card (YtogbkbcjanjbfaaDoorCards.lean) ties it to the program's text. -/
def laid_rheostat_crc_turns {H : Type} : DataW H := .agg [.lit (.int .i64 0), .lit (.int .i64 4129), .lit (.int .i64 8258), .lit (.int .i64 12387), .lit (.int .i64 16516), .lit (.int .i64 20645), .lit (.int .i64 24774), .lit (.int .i64 28903), .lit (.int .i64 33032), .lit (.int .i64 37161), .lit (.int .i64 41290), .lit (.int .i64 45419), .lit (.int .i64 49548), .lit (.int .i64 53677), .lit (.int .i64 57806), .lit (.int .i64 61935)]

/-- 'rheostatlaw02.CrcTells': WHATEVER THE INPUT: true; the input reads as it did. -/
def crcTellsSpec : ChangeSpec := { name := "crcTells", fn := fun _ => fun
  | [d1, d2] => { results := [.lit (.bool true)], args := [d1, d2] }
  | _ => none }
def crcTellsRow : OpenClaim := { program := "ytogbkbcjanjbfaadoor", sum := "ebb4165685d113a6a2f3cf8bc0358e15e9952244256534b57150bf8aab6df68c", func := "rheostat/rheostatlaw02.CrcTells", spec := "crcTells", named := ["rheostat/crc.turns"], apart := false, laid := [("rheostat/crc.turns", laid_rheostat_crc_turns)] }
def CrcTellsSaid : Prop := crcTellsRow.holds Tryd.pinned (OpenSpec.ofChange crcTellsSpec)

/-- ITS FALSE NEIGHBOUR: 'it returns false'. Refute it at one input. -/
def crcTellsWrong : ChangeSpec := { name := "crcTells", fn := fun _ => fun
  | [d1, d2] => { results := [.lit (.bool false)], args := [d1, d2] }
  | _ => none }
def CrcTellsWrongFalsely : Prop := crcTellsRow.holds Tryd.pinned (OpenSpec.ofChange crcTellsWrong)

/-- 'rheostatlaw02.CrcTurns': WHATEVER THE INPUT: true; the input reads as it did. -/
def crcTurnsSpec : ChangeSpec := { name := "crcTurns", fn := fun _ => fun
  | [d1, d2, d3, d4, d5] => { results := [.lit (.bool true)], args := [d1, d2, d3, d4, d5] }
  | _ => none }
def crcTurnsRow : OpenClaim := { program := "ytogbkbcjanjbfaadoor", sum := "ebb4165685d113a6a2f3cf8bc0358e15e9952244256534b57150bf8aab6df68c", func := "rheostat/rheostatlaw02.CrcTurns", spec := "crcTurns", named := ["rheostat/crc.turns"], apart := false, laid := [("rheostat/crc.turns", laid_rheostat_crc_turns)] }
def CrcTurnsSaid : Prop := crcTurnsRow.holds Tryd.pinned (OpenSpec.ofChange crcTurnsSpec)

/-- ITS FALSE NEIGHBOUR: 'it returns false'. Refute it at one input. -/
def crcTurnsWrong : ChangeSpec := { name := "crcTurns", fn := fun _ => fun
  | [d1, d2, d3, d4, d5] => { results := [.lit (.bool false)], args := [d1, d2, d3, d4, d5] }
  | _ => none }
def CrcTurnsWrongFalsely : Prop := crcTurnsRow.holds Tryd.pinned (OpenSpec.ofChange crcTurnsWrong)

/-- 'rheostatlaw02.CrcRights': WHATEVER THE INPUT: true; the input reads as it did. -/
def crcRightsSpec : ChangeSpec := { name := "crcRights", fn := fun _ => fun
  | [d] => { results := [.lit (.bool true)], args := [d] }
  | _ => none }
def crcRightsRow : OpenClaim := { program := "ytogbkbcjanjbfaadoor", sum := "ebb4165685d113a6a2f3cf8bc0358e15e9952244256534b57150bf8aab6df68c", func := "rheostat/rheostatlaw02.CrcRights", spec := "crcRights", named := ["rheostat/crc.turns"], apart := false, laid := [("rheostat/crc.turns", laid_rheostat_crc_turns)] }
def CrcRightsSaid : Prop := crcRightsRow.holds Tryd.pinned (OpenSpec.ofChange crcRightsSpec)

/-- ITS FALSE NEIGHBOUR: 'it returns false'. Refute it at one input. -/
def crcRightsWrong : ChangeSpec := { name := "crcRights", fn := fun _ => fun
  | [d] => { results := [.lit (.bool false)], args := [d] }
  | _ => none }
def CrcRightsWrongFalsely : Prop := crcRightsRow.holds Tryd.pinned (OpenSpec.ofChange crcRightsWrong)

/-- 'rheostatlaw02.CrcPieces': WHATEVER THE INPUT: true; the input reads as it did. -/
def crcPiecesSpec : ChangeSpec := { name := "crcPieces", fn := fun _ => fun
  | [d1, d2] => { results := [.lit (.bool true)], args := [d1, d2] }
  | _ => none }
def crcPiecesRow : OpenClaim := { program := "ytogbkbcjanjbfaadoor", sum := "ebb4165685d113a6a2f3cf8bc0358e15e9952244256534b57150bf8aab6df68c", func := "rheostat/rheostatlaw02.CrcPieces", spec := "crcPieces", named := ["rheostat/crc.turns"], apart := false, laid := [("rheostat/crc.turns", laid_rheostat_crc_turns)] }
def CrcPiecesSaid : Prop := crcPiecesRow.holds Tryd.pinned (OpenSpec.ofChange crcPiecesSpec)

/-- ITS FALSE NEIGHBOUR: 'it returns false'. Refute it at one input. -/
def crcPiecesWrong : ChangeSpec := { name := "crcPieces", fn := fun _ => fun
  | [d1, d2] => { results := [.lit (.bool false)], args := [d1, d2] }
  | _ => none }
def CrcPiecesWrongFalsely : Prop := crcPiecesRow.holds Tryd.pinned (OpenSpec.ofChange crcPiecesWrong)

/-- 'rheostatlaw02.CrcFinds': WHATEVER THE INPUT: true; the input reads as it did. -/
def crcFindsSpec : ChangeSpec := { name := "crcFinds", fn := fun _ => fun
  | [d1, d2, d3, d4] => { results := [.lit (.bool true)], args := [d1, d2, d3, d4] }
  | _ => none }
def crcFindsRow : OpenClaim := { program := "ytogbkbcjanjbfaadoor", sum := "ebb4165685d113a6a2f3cf8bc0358e15e9952244256534b57150bf8aab6df68c", func := "rheostat/rheostatlaw02.CrcFinds", spec := "crcFinds", named := ["rheostat/crc.turns"], apart := false, laid := [("rheostat/crc.turns", laid_rheostat_crc_turns)] }
def CrcFindsSaid : Prop := crcFindsRow.holds Tryd.pinned (OpenSpec.ofChange crcFindsSpec)

/-- ITS FALSE NEIGHBOUR: 'it returns false'. Refute it at one input. -/
def crcFindsWrong : ChangeSpec := { name := "crcFinds", fn := fun _ => fun
  | [d1, d2, d3, d4] => { results := [.lit (.bool false)], args := [d1, d2, d3, d4] }
  | _ => none }
def CrcFindsWrongFalsely : Prop := crcFindsRow.holds Tryd.pinned (OpenSpec.ofChange crcFindsWrong)

/-- 'rheostatlaw02.CrcEnds': WHATEVER THE INPUT: true; the input reads as it did. -/
def crcEndsSpec : ChangeSpec := { name := "crcEnds", fn := fun _ => fun
  | [d1, d2] => { results := [.lit (.bool true)], args := [d1, d2] }
  | _ => none }
def crcEndsRow : OpenClaim := { program := "ytogbkbcjanjbfaadoor", sum := "ebb4165685d113a6a2f3cf8bc0358e15e9952244256534b57150bf8aab6df68c", func := "rheostat/rheostatlaw02.CrcEnds", spec := "crcEnds", named := ["rheostat/crc.turns"], apart := false, laid := [("rheostat/crc.turns", laid_rheostat_crc_turns)] }
def CrcEndsSaid : Prop := crcEndsRow.holds Tryd.pinned (OpenSpec.ofChange crcEndsSpec)

/-- ITS FALSE NEIGHBOUR: 'it returns false'. Refute it at one input. -/
def crcEndsWrong : ChangeSpec := { name := "crcEnds", fn := fun _ => fun
  | [d1, d2] => { results := [.lit (.bool false)], args := [d1, d2] }
  | _ => none }
def CrcEndsWrongFalsely : Prop := crcEndsRow.holds Tryd.pinned (OpenSpec.ofChange crcEndsWrong)

/- THE SECOND FORM. 'bulk': how many values and letters a reading holds, each counted each time it is reached (what is shared counts as often as it is met; a slice's spare places count too). A statement '..UptoSaid' is the law's where the arguments, and the package variables that the reading takes, are together of bulk at most 1048576: NARROWER than '..Said'. Prove '..Said' where nothing that the law and all that it calls make is longer than what came in: it says more and counts as full. Else prove '..UptoSaid'. A law counts once. -/
mutual
def uptoBulk {H : Type} : DataW H → Nat
  | .lit (.string bytes) => bytes.length + 1
  | .lit _ => 1
  | .nil => 1
  | .ptr d => uptoBulk d + 1
  | .slice elems spare => uptoBulkAll elems + uptoBulkAll spare + 1
  | .agg parts => uptoBulkAll parts + 1
  | .iface _ d => uptoBulk d + 1
  | .map entries => uptoBulkEntries entries + 1
  | .held _ => 1
def uptoBulkAll {H : Type} : List (DataW H) → Nat
  | [] => 0
  | d :: r => uptoBulk d + uptoBulkAll r
def uptoBulkEntries {H : Type} : List (Lit × DataW H) → Nat
  | [] => 0
  | x :: r => uptoBulkEntry x + uptoBulkEntries r
def uptoBulkEntry {H : Type} : Lit × DataW H → Nat
  | (.string bytes, d) => bytes.length + uptoBulk d + 1
  | (_, d) => uptoBulk d + 1
 end
def uptoSmall : (H : Type) → List (DataW H) → Bool := fun _ ds => decide (uptoBulkAll ds ≤ 1048576)
def OpenSpec.upto (s : _root_.Go.ChangeSpec) : _root_.Go.OpenSpec := { _root_.Go.OpenSpec.ofChange s with cond := some uptoSmall }

/-- 'rheostatlaw02.CrcTells', WHERE WHAT IT READS IS OF BULK AT MOST 1048576: true; the input reads as it did. -/
def crcTellsUptoRow : OpenClaim := { program := "ytogbkbcjanjbfaadoor", sum := "ebb4165685d113a6a2f3cf8bc0358e15e9952244256534b57150bf8aab6df68c", func := "rheostat/rheostatlaw02.CrcTells", spec := "crcTells", named := ["rheostat/crc.turns"], apart := false, laid := [("rheostat/crc.turns", laid_rheostat_crc_turns)], narrowed := true }
def CrcTellsUptoSaid : Prop := crcTellsUptoRow.holds Tryd.pinned (OpenSpec.upto crcTellsSpec)

/-- 'rheostatlaw02.CrcTurns', WHERE WHAT IT READS IS OF BULK AT MOST 1048576: true; the input reads as it did. -/
def crcTurnsUptoRow : OpenClaim := { program := "ytogbkbcjanjbfaadoor", sum := "ebb4165685d113a6a2f3cf8bc0358e15e9952244256534b57150bf8aab6df68c", func := "rheostat/rheostatlaw02.CrcTurns", spec := "crcTurns", named := ["rheostat/crc.turns"], apart := false, laid := [("rheostat/crc.turns", laid_rheostat_crc_turns)], narrowed := true }
def CrcTurnsUptoSaid : Prop := crcTurnsUptoRow.holds Tryd.pinned (OpenSpec.upto crcTurnsSpec)

/-- 'rheostatlaw02.CrcRights', WHERE WHAT IT READS IS OF BULK AT MOST 1048576: true; the input reads as it did. -/
def crcRightsUptoRow : OpenClaim := { program := "ytogbkbcjanjbfaadoor", sum := "ebb4165685d113a6a2f3cf8bc0358e15e9952244256534b57150bf8aab6df68c", func := "rheostat/rheostatlaw02.CrcRights", spec := "crcRights", named := ["rheostat/crc.turns"], apart := false, laid := [("rheostat/crc.turns", laid_rheostat_crc_turns)], narrowed := true }
def CrcRightsUptoSaid : Prop := crcRightsUptoRow.holds Tryd.pinned (OpenSpec.upto crcRightsSpec)

/-- 'rheostatlaw02.CrcPieces', WHERE WHAT IT READS IS OF BULK AT MOST 1048576: true; the input reads as it did. -/
def crcPiecesUptoRow : OpenClaim := { program := "ytogbkbcjanjbfaadoor", sum := "ebb4165685d113a6a2f3cf8bc0358e15e9952244256534b57150bf8aab6df68c", func := "rheostat/rheostatlaw02.CrcPieces", spec := "crcPieces", named := ["rheostat/crc.turns"], apart := false, laid := [("rheostat/crc.turns", laid_rheostat_crc_turns)], narrowed := true }
def CrcPiecesUptoSaid : Prop := crcPiecesUptoRow.holds Tryd.pinned (OpenSpec.upto crcPiecesSpec)

/-- 'rheostatlaw02.CrcFinds', WHERE WHAT IT READS IS OF BULK AT MOST 1048576: true; the input reads as it did. -/
def crcFindsUptoRow : OpenClaim := { program := "ytogbkbcjanjbfaadoor", sum := "ebb4165685d113a6a2f3cf8bc0358e15e9952244256534b57150bf8aab6df68c", func := "rheostat/rheostatlaw02.CrcFinds", spec := "crcFinds", named := ["rheostat/crc.turns"], apart := false, laid := [("rheostat/crc.turns", laid_rheostat_crc_turns)], narrowed := true }
def CrcFindsUptoSaid : Prop := crcFindsUptoRow.holds Tryd.pinned (OpenSpec.upto crcFindsSpec)

/-- 'rheostatlaw02.CrcEnds', WHERE WHAT IT READS IS OF BULK AT MOST 1048576: true; the input reads as it did. -/
def crcEndsUptoRow : OpenClaim := { program := "ytogbkbcjanjbfaadoor", sum := "ebb4165685d113a6a2f3cf8bc0358e15e9952244256534b57150bf8aab6df68c", func := "rheostat/rheostatlaw02.CrcEnds", spec := "crcEnds", named := ["rheostat/crc.turns"], apart := false, laid := [("rheostat/crc.turns", laid_rheostat_crc_turns)], narrowed := true }
def CrcEndsUptoSaid : Prop := crcEndsUptoRow.holds Tryd.pinned (OpenSpec.upto crcEndsSpec)

end Rows
end Go.Proofs.YtogbkbcjanjbfaaDoor
