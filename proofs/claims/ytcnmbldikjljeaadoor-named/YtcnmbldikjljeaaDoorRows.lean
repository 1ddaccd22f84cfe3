/-
  NARROWER THAN 'FOR EVERY INPUT', by the rows' own cells (each row's printed sentence says how): Named: laid · Broken: laid · Summed: laid · Added: laid.
  DERIVED. THE GIVEN ROWS OF THIS SEAT. 4 by the template 'for every input the law returns true; each argument reads behind the call as it read before'; 0 by the template 'total and deterministic' (their statements: YtcnmbldikjljeaaDoorTotals.lean).
  GIVEN WITH THE SEED: the statements are not yours to turn. If you find one false, say at which input.
  Laid BY PROGRAM, IN A SANDBOX (cutbox-rows.mjs): the forced cells as the released guide's own fill.sh prints them over the translation e50d51411e8e6c08… (all of the seat's roots in one cut). By AI agents, Wed Nov 11 2026. No macro, syntax, notation, axiom, sorry.
-/
import Derived.Test.YtcnmbldikjljeaaDoorChecked
import GoSem.Claim
import GoSem.ClaimJoined
import GoSem.ClaimMapViews
import Derived.JoinedTies
import Derived.KernelRfl
namespace Go.Proofs.YtcnmbldikjljeaaDoor
/- THE CELL 'sum', in the pinned program and in every row, IS THE sha256 OF THE DUMP (.gsa) THAT YtcnmbldikjljeaaDoorProg.lean LOADS. Nothing in Lean hashes anything: it is a label: what it is worth is what the hold of that sum in a sandbox is worth. -/
noncomputable def Tryd.pinned : Pinned := { name := "ytcnmbldikjljeaadoor", sum := "e50d51411e8e6c08b8be4659c1aaaff1838a0bb385302fc46aa1302dcda52bea", checked := Tryd.checked }
namespace Rows
def none {H : Type} : Left H := { results := [], args := [] }

/- WHAT THE LISTED PACKAGE-LEVEL VARIABLES READ AS WHEN THE CALL BEGINS. Each datum BY PROGRAM (the guide's laid-datum.mjs) off the statement by which the dump's own 'gosem.cut.vars' lays the variable. In a bare row this is a premise. The card (YtcnmbldikjljeaaDoorCards.lean) ties it to the program's text. -/
def laid_docket_docket_dayNames {H : Type} : DataW H := .agg [.lit (.string [77, 111]), .lit (.string [84, 117]), .lit (.string [87, 101]), .lit (.string [84, 104]), .lit (.string [70, 114]), .lit (.string [83, 97]), .lit (.string [83, 117])]

/-- 'docketkeep.Named': WHATEVER THE INPUT: true; the input reads as it did. -/
def namedSpec : ChangeSpec := { name := "named", fn := fun _ => fun
  | [d1, d2] => { results := [.lit (.bool true)], args := [d1, d2] }
  | _ => none }
def namedRow : OpenClaim := { program := "ytcnmbldikjljeaadoor", sum := "e50d51411e8e6c08b8be4659c1aaaff1838a0bb385302fc46aa1302dcda52bea", func := "docket/docketkeep.Named", spec := "named", unfollowed := true, recurses := true, named := ["docket/docket.dayNames"], apart := false, laid := [("docket/docket.dayNames", laid_docket_docket_dayNames)] }
def NamedSaid : Prop := namedRow.holds Tryd.pinned (OpenSpec.ofChange namedSpec)

/-- ITS FALSE NEIGHBOUR: 'it returns false'. Refute it at one input. -/
def namedWrong : ChangeSpec := { name := "named", fn := fun _ => fun
  | [d1, d2] => { results := [.lit (.bool false)], args := [d1, d2] }
  | _ => none }
def NamedWrongFalsely : Prop := namedRow.holds Tryd.pinned (OpenSpec.ofChange namedWrong)

/-- 'docketkeep.Broken': WHATEVER THE INPUT: true; the input reads as it did. -/
def brokenSpec : ChangeSpec := { name := "broken", fn := fun _ => fun
  | [d1, d2, d3] => { results := [.lit (.bool true)], args := [d1, d2, d3] }
  | _ => none }
def brokenRow : OpenClaim := { program := "ytcnmbldikjljeaadoor", sum := "e50d51411e8e6c08b8be4659c1aaaff1838a0bb385302fc46aa1302dcda52bea", func := "docket/docketkeep.Broken", spec := "broken", unfollowed := true, recurses := true, named := ["docket/docket.dayNames"], apart := false, laid := [("docket/docket.dayNames", laid_docket_docket_dayNames)] }
def BrokenSaid : Prop := brokenRow.holds Tryd.pinned (OpenSpec.ofChange brokenSpec)

/-- ITS FALSE NEIGHBOUR: 'it returns false'. Refute it at one input. -/
def brokenWrong : ChangeSpec := { name := "broken", fn := fun _ => fun
  | [d1, d2, d3] => { results := [.lit (.bool false)], args := [d1, d2, d3] }
  | _ => none }
def BrokenWrongFalsely : Prop := brokenRow.holds Tryd.pinned (OpenSpec.ofChange brokenWrong)

/-- 'docketkeep.Summed': WHATEVER THE INPUT: true; the input reads as it did. -/
def summedSpec : ChangeSpec := { name := "summed", fn := fun _ => fun
  | [d1, d2, d3, d4] => { results := [.lit (.bool true)], args := [d1, d2, d3, d4] }
  | _ => none }
def summedRow : OpenClaim := { program := "ytcnmbldikjljeaadoor", sum := "e50d51411e8e6c08b8be4659c1aaaff1838a0bb385302fc46aa1302dcda52bea", func := "docket/docketkeep.Summed", spec := "summed", unfollowed := true, recurses := true, named := ["docket/docket.dayNames"], apart := false, laid := [("docket/docket.dayNames", laid_docket_docket_dayNames)] }
def SummedSaid : Prop := summedRow.holds Tryd.pinned (OpenSpec.ofChange summedSpec)

/-- ITS FALSE NEIGHBOUR: 'it returns false'. Refute it at one input. -/
def summedWrong : ChangeSpec := { name := "summed", fn := fun _ => fun
  | [d1, d2, d3, d4] => { results := [.lit (.bool false)], args := [d1, d2, d3, d4] }
  | _ => none }
def SummedWrongFalsely : Prop := summedRow.holds Tryd.pinned (OpenSpec.ofChange summedWrong)

/-- 'docketkeep.Added': WHATEVER THE INPUT: true; the input reads as it did. -/
def addedSpec : ChangeSpec := { name := "added", fn := fun _ => fun
  | [d1, d2, d3, d4] => { results := [.lit (.bool true)], args := [d1, d2, d3, d4] }
  | _ => none }
def addedRow : OpenClaim := { program := "ytcnmbldikjljeaadoor", sum := "e50d51411e8e6c08b8be4659c1aaaff1838a0bb385302fc46aa1302dcda52bea", func := "docket/docketkeep.Added", spec := "added", unfollowed := true, recurses := true, named := ["docket/docket.dayNames"], apart := false, laid := [("docket/docket.dayNames", laid_docket_docket_dayNames)] }
def AddedSaid : Prop := addedRow.holds Tryd.pinned (OpenSpec.ofChange addedSpec)

/-- ITS FALSE NEIGHBOUR: 'it returns false'. Refute it at one input. -/
def addedWrong : ChangeSpec := { name := "added", fn := fun _ => fun
  | [d1, d2, d3, d4] => { results := [.lit (.bool false)], args := [d1, d2, d3, d4] }
  | _ => none }
def AddedWrongFalsely : Prop := addedRow.holds Tryd.pinned (OpenSpec.ofChange addedWrong)

/- THE SECOND FORM. 'bulk': how many values and letters a reading holds, each counted each time it is reached (what is shared counts as often as it is met; a slice's spare places count too). A statement '..UptoSaid' is the law's where the arguments, and the package variables that the reading takes, are together of bulk at most 1048576: NARROWER than '..Said'. Prove '..Said' where nothing that the law and all that it calls make is longer than what came in: it says more and counts as full. Else prove '..UptoSaid'. A law counts once. -/
mutual
def uptoBulk {H : Type} : DataW H → Nat
  | .lit (.string bytes) => bytes.length + 1
  | .lit _ => 1
  | .nil => 1
  | .ptr d => uptoBulk d + 1
  | .slice elems spare => uptoBulkAll elems + uptoBulkAll spare + 1
  | .agg parts => uptoBulkAll parts + 1
  | .iface _ d => uptoBulk d + 1
  | .map entries => uptoBulkEntries entries + 1
  | .held _ => 1
def uptoBulkAll {H : Type} : List (DataW H) → Nat
  | [] => 0
  | d :: r => uptoBulk d + uptoBulkAll r
def uptoBulkEntries {H : Type} : List (Lit × DataW H) → Nat
  | [] => 0
  | x :: r => uptoBulkEntry x + uptoBulkEntries r
def uptoBulkEntry {H : Type} : Lit × DataW H → Nat
  | (.string bytes, d) => bytes.length + uptoBulk d + 1
  | (_, d) => uptoBulk d + 1
 end
def uptoSmall : (H : Type) → List (DataW H) → Bool := fun _ ds => decide (uptoBulkAll ds ≤ 1048576)
def OpenSpec.upto (s : _root_.Go.ChangeSpec) : _root_.Go.OpenSpec := { _root_.Go.OpenSpec.ofChange s with cond := some uptoSmall }

/-- 'docketkeep.Named', WHERE WHAT IT READS IS OF BULK AT MOST 1048576: true; the input reads as it did. -/
def namedUptoRow : OpenClaim := { program := "ytcnmbldikjljeaadoor", sum := "e50d51411e8e6c08b8be4659c1aaaff1838a0bb385302fc46aa1302dcda52bea", func := "docket/docketkeep.Named", spec := "named", unfollowed := true, recurses := true, named := ["docket/docket.dayNames"], apart := false, laid := [("docket/docket.dayNames", laid_docket_docket_dayNames)], narrowed := true }
def NamedUptoSaid : Prop := namedUptoRow.holds Tryd.pinned (OpenSpec.upto namedSpec)

/-- 'docketkeep.Broken', WHERE WHAT IT READS IS OF BULK AT MOST 1048576: true; the input reads as it did. -/
def brokenUptoRow : OpenClaim := { program := "ytcnmbldikjljeaadoor", sum := "e50d51411e8e6c08b8be4659c1aaaff1838a0bb385302fc46aa1302dcda52bea", func := "docket/docketkeep.Broken", spec := "broken", unfollowed := true, recurses := true, named := ["docket/docket.dayNames"], apart := false, laid := [("docket/docket.dayNames", laid_docket_docket_dayNames)], narrowed := true }
def BrokenUptoSaid : Prop := brokenUptoRow.holds Tryd.pinned (OpenSpec.upto brokenSpec)

/-- 'docketkeep.Summed', WHERE WHAT IT READS IS OF BULK AT MOST 1048576: true; the input reads as it did. -/
def summedUptoRow : OpenClaim := { program := "ytcnmbldikjljeaadoor", sum := "e50d51411e8e6c08b8be4659c1aaaff1838a0bb385302fc46aa1302dcda52bea", func := "docket/docketkeep.Summed", spec := "summed", unfollowed := true, recurses := true, named := ["docket/docket.dayNames"], apart := false, laid := [("docket/docket.dayNames", laid_docket_docket_dayNames)], narrowed := true }
def SummedUptoSaid : Prop := summedUptoRow.holds Tryd.pinned (OpenSpec.upto summedSpec)

/-- 'docketkeep.Added', WHERE WHAT IT READS IS OF BULK AT MOST 1048576: true; the input reads as it did. -/
def addedUptoRow : OpenClaim := { program := "ytcnmbldikjljeaadoor", sum := "e50d51411e8e6c08b8be4659c1aaaff1838a0bb385302fc46aa1302dcda52bea", func := "docket/docketkeep.Added", spec := "added", unfollowed := true, recurses := true, named := ["docket/docket.dayNames"], apart := false, laid := [("docket/docket.dayNames", laid_docket_docket_dayNames)], narrowed := true }
def AddedUptoSaid : Prop := addedUptoRow.holds Tryd.pinned (OpenSpec.upto addedSpec)

end Rows
end Go.Proofs.YtcnmbldikjljeaaDoor
