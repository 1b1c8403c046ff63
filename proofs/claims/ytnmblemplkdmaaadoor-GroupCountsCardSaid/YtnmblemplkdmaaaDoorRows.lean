/-
  NARROWER THAN 'FOR EVERY INPUT', by the rows' own cells (each row's printed sentence says how): GroupScans: laid · GroupPuts: laid · GroupCounts: laid · GroupFronts: laid · GroupTorn: laid · GroupFull: laid.
  DERIVED. THE GIVEN ROWS OF THIS SEAT. 6 by the template 'for every input the law returns true; each argument reads behind the call as it read before'; 0 by the template 'total and deterministic' (their statements: YtnmblemplkdmaaaDoorTotals.lean).
  GIVEN WITH THE SEED: the statements are not yours to turn. If you find one false, say at which input.
  Laid BY PROGRAM, IN A SANDBOX (cutbox-rows.mjs): the forced cells as the released guide's own fill.sh prints them over the translation 9d4f6b67fdcf473c… (all of the seat's roots in one cut). By AI agents, Wed Nov 11 2026. No macro, syntax, notation, axiom, sorry.
-/
import Derived.Test.YtnmblemplkdmaaaDoorChecked
import GoSem.Claim
import GoSem.ClaimJoined
import GoSem.ClaimMapViews
import Derived.JoinedTies
import Derived.KernelRfl
namespace Go.Proofs.YtnmblemplkdmaaaDoor
/- THE CELL 'sum', in the pinned program and in every row, IS THE sha256 OF THE DUMP (.gsa) THAT YtnmblemplkdmaaaDoorProg.lean LOADS. Nothing in Lean hashes anything: it is a label: what it is worth is what the hold of that sum in a sandbox is worth. -/
noncomputable def Tryd.pinned : Pinned := { name := "ytnmblemplkdmaaadoor", sum := "9d4f6b67fdcf473cb2fbc0ecd0684132c433976cfc408ebf6e22b58343b5afdc", checked := Tryd.checked }
namespace Rows
def none {H : Type} : Left H := { results := [], args := [] }

/- WHAT THE LISTED PACKAGE-LEVEL VARIABLES READ AS WHEN THE CALL BEGINS. Each datum BY PROGRAM (the guide's laid-datum.mjs) off the statement by which the dump's own 'gosem.cut.vars' lays the variable. In a bare row this is a premise. The card (YtnmblemplkdmaaaDoorCards.lean) ties it to the program's text. -/
def laid_rheostat_crc_turns {H : Type} : DataW H := .agg [.lit (.int .i64 0), .lit (.int .i64 4129), .lit (.int .i64 8258), .lit (.int .i64 12387), .lit (.int .i64 16516), .lit (.int .i64 20645), .lit (.int .i64 24774), .lit (.int .i64 28903), .lit (.int .i64 33032), .lit (.int .i64 37161), .lit (.int .i64 41290), .lit (.int .i64 45419), .lit (.int .i64 49548), .lit (.int .i64 53677), .lit (.int .i64 57806), .lit (.int .i64 61935)]

/-- 'rheostatlaw07.GroupScans': WHATEVER THE INPUT: true; the input reads as it did. -/
def groupScansSpec : ChangeSpec := { name := "groupScans", fn := fun _ => fun
  | [d1, d2] => { results := [.lit (.bool true)], args := [d1, d2] }
  | _ => none }
def groupScansRow : OpenClaim := { program := "ytnmblemplkdmaaadoor", sum := "9d4f6b67fdcf473cb2fbc0ecd0684132c433976cfc408ebf6e22b58343b5afdc", func := "rheostat/rheostatlaw07.GroupScans", spec := "groupScans", unfollowed := true, recurses := true, named := ["rheostat/crc.turns"], apart := false, laid := [("rheostat/crc.turns", laid_rheostat_crc_turns)] }
def GroupScansSaid : Prop := groupScansRow.holds Tryd.pinned (OpenSpec.ofChange groupScansSpec)

/-- ITS FALSE NEIGHBOUR: 'it returns false'. Refute it at one input. -/
def groupScansWrong : ChangeSpec := { name := "groupScans", fn := fun _ => fun
  | [d1, d2] => { results := [.lit (.bool false)], args := [d1, d2] }
  | _ => none }
def GroupScansWrongFalsely : Prop := groupScansRow.holds Tryd.pinned (OpenSpec.ofChange groupScansWrong)

/-- 'rheostatlaw07.GroupPuts': WHATEVER THE INPUT: true; the input reads as it did. -/
def groupPutsSpec : ChangeSpec := { name := "groupPuts", fn := fun _ => fun
  | [d1, d2, d3, d4] => { results := [.lit (.bool true)], args := [d1, d2, d3, d4] }
  | _ => none }
def groupPutsRow : OpenClaim := { program := "ytnmblemplkdmaaadoor", sum := "9d4f6b67fdcf473cb2fbc0ecd0684132c433976cfc408ebf6e22b58343b5afdc", func := "rheostat/rheostatlaw07.GroupPuts", spec := "groupPuts", unfollowed := true, recurses := true, named := ["rheostat/crc.turns"], apart := false, laid := [("rheostat/crc.turns", laid_rheostat_crc_turns)] }
def GroupPutsSaid : Prop := groupPutsRow.holds Tryd.pinned (OpenSpec.ofChange groupPutsSpec)

/-- ITS FALSE NEIGHBOUR: 'it returns false'. Refute it at one input. -/
def groupPutsWrong : ChangeSpec := { name := "groupPuts", fn := fun _ => fun
  | [d1, d2, d3, d4] => { results := [.lit (.bool false)], args := [d1, d2, d3, d4] }
  | _ => none }
def GroupPutsWrongFalsely : Prop := groupPutsRow.holds Tryd.pinned (OpenSpec.ofChange groupPutsWrong)

/-- 'rheostatlaw07.GroupCounts': WHATEVER THE INPUT: true; the input reads as it did. -/
def groupCountsSpec : ChangeSpec := { name := "groupCounts", fn := fun _ => fun
  | [d1, d2, d3] => { results := [.lit (.bool true)], args := [d1, d2, d3] }
  | _ => none }
def groupCountsRow : OpenClaim := { program := "ytnmblemplkdmaaadoor", sum := "9d4f6b67fdcf473cb2fbc0ecd0684132c433976cfc408ebf6e22b58343b5afdc", func := "rheostat/rheostatlaw07.GroupCounts", spec := "groupCounts", unfollowed := true, recurses := true, named := ["rheostat/crc.turns"], apart := false, laid := [("rheostat/crc.turns", laid_rheostat_crc_turns)] }
def GroupCountsSaid : Prop := groupCountsRow.holds Tryd.pinned (OpenSpec.ofChange groupCountsSpec)

/-- ITS FALSE NEIGHBOUR: 'it returns false'. Refute it at one input. -/
def groupCountsWrong : ChangeSpec := { name := "groupCounts", fn := fun _ => fun
  | [d1, d2, d3] => { results := [.lit (.bool false)], args := [d1, d2, d3] }
  | _ => none }
def GroupCountsWrongFalsely : Prop := groupCountsRow.holds Tryd.pinned (OpenSpec.ofChange groupCountsWrong)

/-- 'rheostatlaw07.GroupFronts': WHATEVER THE INPUT: true; the input reads as it did. -/
def groupFrontsSpec : ChangeSpec := { name := "groupFronts", fn := fun _ => fun
  | [d1, d2, d3, d4] => { results := [.lit (.bool true)], args := [d1, d2, d3, d4] }
  | _ => none }
def groupFrontsRow : OpenClaim := { program := "ytnmblemplkdmaaadoor", sum := "9d4f6b67fdcf473cb2fbc0ecd0684132c433976cfc408ebf6e22b58343b5afdc", func := "rheostat/rheostatlaw07.GroupFronts", spec := "groupFronts", unfollowed := true, recurses := true, named := ["rheostat/crc.turns"], apart := false, laid := [("rheostat/crc.turns", laid_rheostat_crc_turns)] }
def GroupFrontsSaid : Prop := groupFrontsRow.holds Tryd.pinned (OpenSpec.ofChange groupFrontsSpec)

/-- ITS FALSE NEIGHBOUR: 'it returns false'. Refute it at one input. -/
def groupFrontsWrong : ChangeSpec := { name := "groupFronts", fn := fun _ => fun
  | [d1, d2, d3, d4] => { results := [.lit (.bool false)], args := [d1, d2, d3, d4] }
  | _ => none }
def GroupFrontsWrongFalsely : Prop := groupFrontsRow.holds Tryd.pinned (OpenSpec.ofChange groupFrontsWrong)

/-- 'rheostatlaw07.GroupTorn': WHATEVER THE INPUT: true; the input reads as it did. -/
def groupTornSpec : ChangeSpec := { name := "groupTorn", fn := fun _ => fun
  | [d1, d2, d3] => { results := [.lit (.bool true)], args := [d1, d2, d3] }
  | _ => none }
def groupTornRow : OpenClaim := { program := "ytnmblemplkdmaaadoor", sum := "9d4f6b67fdcf473cb2fbc0ecd0684132c433976cfc408ebf6e22b58343b5afdc", func := "rheostat/rheostatlaw07.GroupTorn", spec := "groupTorn", unfollowed := true, recurses := true, named := ["rheostat/crc.turns"], apart := false, laid := [("rheostat/crc.turns", laid_rheostat_crc_turns)] }
def GroupTornSaid : Prop := groupTornRow.holds Tryd.pinned (OpenSpec.ofChange groupTornSpec)

/-- ITS FALSE NEIGHBOUR: 'it returns false'. Refute it at one input. -/
def groupTornWrong : ChangeSpec := { name := "groupTorn", fn := fun _ => fun
  | [d1, d2, d3] => { results := [.lit (.bool false)], args := [d1, d2, d3] }
  | _ => none }
def GroupTornWrongFalsely : Prop := groupTornRow.holds Tryd.pinned (OpenSpec.ofChange groupTornWrong)

/-- 'rheostatlaw07.GroupFull': WHATEVER THE INPUT: true; the input reads as it did. -/
def groupFullSpec : ChangeSpec := { name := "groupFull", fn := fun _ => fun
  | [d1, d2] => { results := [.lit (.bool true)], args := [d1, d2] }
  | _ => none }
def groupFullRow : OpenClaim := { program := "ytnmblemplkdmaaadoor", sum := "9d4f6b67fdcf473cb2fbc0ecd0684132c433976cfc408ebf6e22b58343b5afdc", func := "rheostat/rheostatlaw07.GroupFull", spec := "groupFull", unfollowed := true, recurses := true, named := ["rheostat/crc.turns"], apart := false, laid := [("rheostat/crc.turns", laid_rheostat_crc_turns)] }
def GroupFullSaid : Prop := groupFullRow.holds Tryd.pinned (OpenSpec.ofChange groupFullSpec)

/-- ITS FALSE NEIGHBOUR: 'it returns false'. Refute it at one input. -/
def groupFullWrong : ChangeSpec := { name := "groupFull", fn := fun _ => fun
  | [d1, d2] => { results := [.lit (.bool false)], args := [d1, d2] }
  | _ => none }
def GroupFullWrongFalsely : Prop := groupFullRow.holds Tryd.pinned (OpenSpec.ofChange groupFullWrong)

/- THE SECOND FORM. 'bulk': how many values and letters a reading holds, each counted each time it is reached (what is shared counts as often as it is met; a slice's spare places count too). A statement '..UptoSaid' is the law's where the arguments, and the package variables that the reading takes, are together of bulk at most 1048576: NARROWER than '..Said'. Prove '..Said' where nothing that the law and all that it calls make is longer than what came in: it says more and counts as full. Else prove '..UptoSaid'. A law counts once. -/
mutual
def uptoBulk {H : Type} : DataW H → Nat
  | .lit (.string bytes) => bytes.length + 1
  | .lit _ => 1
  | .nil => 1
  | .ptr d => uptoBulk d + 1
  | .slice elems spare => uptoBulkAll elems + uptoBulkAll spare + 1
  | .agg parts => uptoBulkAll parts + 1
  | .iface _ d => uptoBulk d + 1
  | .map entries => uptoBulkEntries entries + 1
  | .held _ => 1
def uptoBulkAll {H : Type} : List (DataW H) → Nat
  | [] => 0
  | d :: r => uptoBulk d + uptoBulkAll r
def uptoBulkEntries {H : Type} : List (Lit × DataW H) → Nat
  | [] => 0
  | x :: r => uptoBulkEntry x + uptoBulkEntries r
def uptoBulkEntry {H : Type} : Lit × DataW H → Nat
  | (.string bytes, d) => bytes.length + uptoBulk d + 1
  | (_, d) => uptoBulk d + 1
 end
def uptoSmall : (H : Type) → List (DataW H) → Bool := fun _ ds => decide (uptoBulkAll ds ≤ 1048576)
def OpenSpec.upto (s : _root_.Go.ChangeSpec) : _root_.Go.OpenSpec := { _root_.Go.OpenSpec.ofChange s with cond := some uptoSmall }

/-- 'rheostatlaw07.GroupScans', WHERE WHAT IT READS IS OF BULK AT MOST 1048576: true; the input reads as it did. -/
def groupScansUptoRow : OpenClaim := { program := "ytnmblemplkdmaaadoor", sum := "9d4f6b67fdcf473cb2fbc0ecd0684132c433976cfc408ebf6e22b58343b5afdc", func := "rheostat/rheostatlaw07.GroupScans", spec := "groupScans", unfollowed := true, recurses := true, named := ["rheostat/crc.turns"], apart := false, laid := [("rheostat/crc.turns", laid_rheostat_crc_turns)], narrowed := true }
def GroupScansUptoSaid : Prop := groupScansUptoRow.holds Tryd.pinned (OpenSpec.upto groupScansSpec)

/-- 'rheostatlaw07.GroupPuts', WHERE WHAT IT READS IS OF BULK AT MOST 1048576: true; the input reads as it did. -/
def groupPutsUptoRow : OpenClaim := { program := "ytnmblemplkdmaaadoor", sum := "9d4f6b67fdcf473cb2fbc0ecd0684132c433976cfc408ebf6e22b58343b5afdc", func := "rheostat/rheostatlaw07.GroupPuts", spec := "groupPuts", unfollowed := true, recurses := true, named := ["rheostat/crc.turns"], apart := false, laid := [("rheostat/crc.turns", laid_rheostat_crc_turns)], narrowed := true }
def GroupPutsUptoSaid : Prop := groupPutsUptoRow.holds Tryd.pinned (OpenSpec.upto groupPutsSpec)

/-- 'rheostatlaw07.GroupCounts', WHERE WHAT IT READS IS OF BULK AT MOST 1048576: true; the input reads as it did. -/
def groupCountsUptoRow : OpenClaim := { program := "ytnmblemplkdmaaadoor", sum := "9d4f6b67fdcf473cb2fbc0ecd0684132c433976cfc408ebf6e22b58343b5afdc", func := "rheostat/rheostatlaw07.GroupCounts", spec := "groupCounts", unfollowed := true, recurses := true, named := ["rheostat/crc.turns"], apart := false, laid := [("rheostat/crc.turns", laid_rheostat_crc_turns)], narrowed := true }
def GroupCountsUptoSaid : Prop := groupCountsUptoRow.holds Tryd.pinned (OpenSpec.upto groupCountsSpec)

/-- 'rheostatlaw07.GroupFronts', WHERE WHAT IT READS IS OF BULK AT MOST 1048576: true; the input reads as it did. -/
def groupFrontsUptoRow : OpenClaim := { program := "ytnmblemplkdmaaadoor", sum := "9d4f6b67fdcf473cb2fbc0ecd0684132c433976cfc408ebf6e22b58343b5afdc", func := "rheostat/rheostatlaw07.GroupFronts", spec := "groupFronts", unfollowed := true, recurses := true, named := ["rheostat/crc.turns"], apart := false, laid := [("rheostat/crc.turns", laid_rheostat_crc_turns)], narrowed := true }
def GroupFrontsUptoSaid : Prop := groupFrontsUptoRow.holds Tryd.pinned (OpenSpec.upto groupFrontsSpec)

/-- 'rheostatlaw07.GroupTorn', WHERE WHAT IT READS IS OF BULK AT MOST 1048576: true; the input reads as it did. -/
def groupTornUptoRow : OpenClaim := { program := "ytnmblemplkdmaaadoor", sum := "9d4f6b67fdcf473cb2fbc0ecd0684132c433976cfc408ebf6e22b58343b5afdc", func := "rheostat/rheostatlaw07.GroupTorn", spec := "groupTorn", unfollowed := true, recurses := true, named := ["rheostat/crc.turns"], apart := false, laid := [("rheostat/crc.turns", laid_rheostat_crc_turns)], narrowed := true }
def GroupTornUptoSaid : Prop := groupTornUptoRow.holds Tryd.pinned (OpenSpec.upto groupTornSpec)

/-- 'rheostatlaw07.GroupFull', WHERE WHAT IT READS IS OF BULK AT MOST 1048576: true; the input reads as it did. -/
def groupFullUptoRow : OpenClaim := { program := "ytnmblemplkdmaaadoor", sum := "9d4f6b67fdcf473cb2fbc0ecd0684132c433976cfc408ebf6e22b58343b5afdc", func := "rheostat/rheostatlaw07.GroupFull", spec := "groupFull", unfollowed := true, recurses := true, named := ["rheostat/crc.turns"], apart := false, laid := [("rheostat/crc.turns", laid_rheostat_crc_turns)], narrowed := true }
def GroupFullUptoSaid : Prop := groupFullUptoRow.holds Tryd.pinned (OpenSpec.upto groupFullSpec)

end Rows
end Go.Proofs.YtnmblemplkdmaaaDoor
