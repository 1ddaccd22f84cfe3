/-
  NARROWER THAN 'FOR EVERY INPUT', by the rows' own cells (each row's printed sentence says how): Calendars: laid · Named: laid · Broken: laid.
  DERIVED. THE GIVEN ROWS OF THIS SEAT. 3 by the template 'for every input the law returns true; each argument reads behind the call as it read before'; 0 by the template 'total and deterministic' (their statements: YtjmdepmeohenhaaDoorTotals.lean).
  GIVEN WITH THE SEED: the statements are not yours to turn. If you find one false, say at which input.
  Laid BY PROGRAM, IN A SANDBOX (cutbox-rows.mjs): the forced cells as the released guide's own fill.sh prints them over the translation 30755c1f3d874f07… (all of the seat's roots in one cut). By AI agents, Wed Nov 11 2026. No macro, syntax, notation, axiom, sorry.
-/
import Derived.Test.YtjmdepmeohenhaaDoorChecked
import GoSem.Claim
import GoSem.ClaimJoined
import GoSem.ClaimMapViews
import Derived.JoinedTies
import Derived.KernelRfl
namespace Go.Proofs.YtjmdepmeohenhaaDoor
/- THE CELL 'sum', in the pinned program and in every row, IS THE sha256 OF THE DUMP (.gsa) THAT YtjmdepmeohenhaaDoorProg.lean LOADS. Nothing in Lean hashes anything: it is a label: what it is worth is what the hold of that sum in a sandbox is worth. -/
noncomputable def Tryd.pinned : Pinned := { name := "ytjmdepmeohenhaadoor", sum := "30755c1f3d874f0711e832be61184cb9e511ab6a6e53ee66a27ff55065a99b35", checked := Tryd.checked }
namespace Rows
def none {H : Type} : Left H := { results := [], args := [] }

/- WHAT THE LISTED PACKAGE-LEVEL VARIABLES READ AS WHEN THE CALL BEGINS. Each datum BY PROGRAM (the guide's laid-datum.mjs) off the statement by which the dump's own 'gosem.cut.vars' lays the variable. In a bare row this is a premise. The card (YtjmdepmeohenhaaDoorCards.lean) ties it to the program's text. -/
def laid_docket_docket_dayNames {H : Type} : DataW H := .agg [.lit (.string [77, 111]), .lit (.string [84, 117]), .lit (.string [87, 101]), .lit (.string [84, 104]), .lit (.string [70, 114]), .lit (.string [83, 97]), .lit (.string [83, 117])]

/-- 'docketlaw.Calendars': WHATEVER THE INPUT: true; the input reads as it did. -/
def calendarsSpec : ChangeSpec := { name := "calendars", fn := fun _ => fun
  | [d] => { results := [.lit (.bool true)], args := [d] }
  | _ => none }
def calendarsRow : OpenClaim := { program := "ytjmdepmeohenhaadoor", sum := "30755c1f3d874f0711e832be61184cb9e511ab6a6e53ee66a27ff55065a99b35", func := "docket/docketlaw.Calendars", spec := "calendars", named := ["docket/docket.dayNames"], apart := false, laid := [("docket/docket.dayNames", laid_docket_docket_dayNames)] }
def CalendarsSaid : Prop := calendarsRow.holds Tryd.pinned (OpenSpec.ofChange calendarsSpec)

/-- ITS FALSE NEIGHBOUR: 'it returns false'. Refute it at one input. -/
def calendarsWrong : ChangeSpec := { name := "calendars", fn := fun _ => fun
  | [d] => { results := [.lit (.bool false)], args := [d] }
  | _ => none }
def CalendarsWrongFalsely : Prop := calendarsRow.holds Tryd.pinned (OpenSpec.ofChange calendarsWrong)

/-- 'docketkeep.Named': WHATEVER THE INPUT: true; the input reads as it did. -/
def namedSpec : ChangeSpec := { name := "named", fn := fun _ => fun
  | [d1, d2] => { results := [.lit (.bool true)], args := [d1, d2] }
  | _ => none }
def namedRow : OpenClaim := { program := "ytjmdepmeohenhaadoor", sum := "30755c1f3d874f0711e832be61184cb9e511ab6a6e53ee66a27ff55065a99b35", func := "docket/docketkeep.Named", spec := "named", named := ["docket/docket.dayNames"], apart := false, laid := [("docket/docket.dayNames", laid_docket_docket_dayNames)] }
def NamedSaid : Prop := namedRow.holds Tryd.pinned (OpenSpec.ofChange namedSpec)

/-- ITS FALSE NEIGHBOUR: 'it returns false'. Refute it at one input. -/
def namedWrong : ChangeSpec := { name := "named", fn := fun _ => fun
  | [d1, d2] => { results := [.lit (.bool false)], args := [d1, d2] }
  | _ => none }
def NamedWrongFalsely : Prop := namedRow.holds Tryd.pinned (OpenSpec.ofChange namedWrong)

/-- 'docketkeep.Broken': WHATEVER THE INPUT: true; the input reads as it did. -/
def brokenSpec : ChangeSpec := { name := "broken", fn := fun _ => fun
  | [d1, d2, d3] => { results := [.lit (.bool true)], args := [d1, d2, d3] }
  | _ => none }
def brokenRow : OpenClaim := { program := "ytjmdepmeohenhaadoor", sum := "30755c1f3d874f0711e832be61184cb9e511ab6a6e53ee66a27ff55065a99b35", func := "docket/docketkeep.Broken", spec := "broken", named := ["docket/docket.dayNames"], apart := false, laid := [("docket/docket.dayNames", laid_docket_docket_dayNames)] }
def BrokenSaid : Prop := brokenRow.holds Tryd.pinned (OpenSpec.ofChange brokenSpec)

/-- ITS FALSE NEIGHBOUR: 'it returns false'. Refute it at one input. -/
def brokenWrong : ChangeSpec := { name := "broken", fn := fun _ => fun
  | [d1, d2, d3] => { results := [.lit (.bool false)], args := [d1, d2, d3] }
  | _ => none }
def BrokenWrongFalsely : Prop := brokenRow.holds Tryd.pinned (OpenSpec.ofChange brokenWrong)

/- THE SECOND FORM. 'bulk': how many values and letters a reading holds, each counted each time it is reached (what is shared counts as often as it is met; a slice's spare places count too). A statement '..UptoSaid' is the law's where the arguments, and the package variables that the reading takes, are together of bulk at most 1048576: NARROWER than '..Said'. Prove '..Said' where nothing that the law and all that it calls make is longer than what came in: it says more and counts as full. Else prove '..UptoSaid'. A law counts once. -/
mutual
def uptoBulk {H : Type} : DataW H → Nat
  | .lit (.string bytes) => bytes.length + 1
  | .lit _ => 1
  | .nil => 1
  | .ptr d => uptoBulk d + 1
  | .slice elems spare => uptoBulkAll elems + uptoBulkAll spare + 1
  | .agg parts => uptoBulkAll parts + 1
  | .iface _ d => uptoBulk d + 1
  | .map entries => uptoBulkEntries entries + 1
  | .held _ => 1
def uptoBulkAll {H : Type} : List (DataW H) → Nat
  | [] => 0
  | d :: r => uptoBulk d + uptoBulkAll r
def uptoBulkEntries {H : Type} : List (Lit × DataW H) → Nat
  | [] => 0
  | x :: r => uptoBulkEntry x + uptoBulkEntries r
def uptoBulkEntry {H : Type} : Lit × DataW H → Nat
  | (.string bytes, d) => bytes.length + uptoBulk d + 1
  | (_, d) => uptoBulk d + 1
 end
def uptoSmall : (H : Type) → List (DataW H) → Bool := fun _ ds => decide (uptoBulkAll ds ≤ 1048576)
def OpenSpec.upto (s : _root_.Go.ChangeSpec) : _root_.Go.OpenSpec := { _root_.Go.OpenSpec.ofChange s with cond := some uptoSmall }

/-- 'docketlaw.Calendars', WHERE WHAT IT READS IS OF BULK AT MOST 1048576: true; the input reads as it did. -/
def calendarsUptoRow : OpenClaim := { program := "ytjmdepmeohenhaadoor", sum := "30755c1f3d874f0711e832be61184cb9e511ab6a6e53ee66a27ff55065a99b35", func := "docket/docketlaw.Calendars", spec := "calendars", named := ["docket/docket.dayNames"], apart := false, laid := [("docket/docket.dayNames", laid_docket_docket_dayNames)], narrowed := true }
def CalendarsUptoSaid : Prop := calendarsUptoRow.holds Tryd.pinned (OpenSpec.upto calendarsSpec)

/-- 'docketkeep.Named', WHERE WHAT IT READS IS OF BULK AT MOST 1048576: true; the input reads as it did. -/
def namedUptoRow : OpenClaim := { program := "ytjmdepmeohenhaadoor", sum := "30755c1f3d874f0711e832be61184cb9e511ab6a6e53ee66a27ff55065a99b35", func := "docket/docketkeep.Named", spec := "named", named := ["docket/docket.dayNames"], apart := false, laid := [("docket/docket.dayNames", laid_docket_docket_dayNames)], narrowed := true }
def NamedUptoSaid : Prop := namedUptoRow.holds Tryd.pinned (OpenSpec.upto namedSpec)

/-- 'docketkeep.Broken', WHERE WHAT IT READS IS OF BULK AT MOST 1048576: true; the input reads as it did. -/
def brokenUptoRow : OpenClaim := { program := "ytjmdepmeohenhaadoor", sum := "30755c1f3d874f0711e832be61184cb9e511ab6a6e53ee66a27ff55065a99b35", func := "docket/docketkeep.Broken", spec := "broken", named := ["docket/docket.dayNames"], apart := false, laid := [("docket/docket.dayNames", laid_docket_docket_dayNames)], narrowed := true }
def BrokenUptoSaid : Prop := brokenUptoRow.holds Tryd.pinned (OpenSpec.upto brokenSpec)

end Rows
end Go.Proofs.YtjmdepmeohenhaaDoor
