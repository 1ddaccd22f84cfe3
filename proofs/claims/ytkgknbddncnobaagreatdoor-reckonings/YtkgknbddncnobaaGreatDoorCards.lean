/-
  DERIVED. GIVEN WITH THE SEED: THE CARDS: each row of YtkgknbddncnobaaGreatDoorRows.lean that lists a variable, with what it lists TIED to the program's text (the seventh form; the later family's looks); each row that meets fmt, with fmt's text TOLD by the authors' own Lean function (tested against real Go, not proved from fmt's source: count such statements apart). THE CARD IS WHAT COUNTS. Prove the row's statement (the work); the ties are given (YtkgknbddncnobaaGreatDoorTie.lean); close each card by the builder's one call (the guide's Derived/Test/ToyasCard.lean, 'card_holds'). Laid BY PROGRAM, IN A SANDBOX (cutbox-door.mjs). By AI agents, Wed Nov 11 2026. No macro, syntax, notation, axiom, sorry.
-/
import Derived.Test.YtkgknbddncnobaaGreatDoorRows
import GoSem.ClaimSeven
namespace Go.Proofs.YtkgknbddncnobaaGreatDoor
namespace Rows

/-- THE TIED CARD OF 'docketlaw.Calendars'. -/
def calendarsCard : Claim7 := { stood := { row := calendarsRow, standIns := [], harness := (true, "3e55d8edd343335bb9d5ac0dd5b1142b16eb0ff7f1df3efdca1445a89721ba41"), looks := false }, kinds := [], alts := [], laidByText := true, laidKinds := [.data], laidTests := true, laidLooks := .later }
def CalendarsCardSaid : Prop := Claim7.holds Tryz.pinned (.plain (OpenSpec.ofChange calendarsSpec)) calendarsCard

/-- THE TIED CARD OF 'docketlaw.Reckonings'. -/
def reckoningsCard : Claim7 := { stood := { row := reckoningsRow, standIns := [], harness := (true, "3e55d8edd343335bb9d5ac0dd5b1142b16eb0ff7f1df3efdca1445a89721ba41"), looks := false }, kinds := [], alts := [], laidByText := true, laidKinds := [.data], laidTests := true, laidLooks := .later }
def ReckoningsCardSaid : Prop := Claim7.holds Tryz.pinned (.plain (OpenSpec.ofChange reckoningsSpec)) reckoningsCard

/-- THE SECOND FORM's CARD OF 'docketlaw.Calendars'. -/
def calendarsUptoCard : Claim7 := { stood := { row := calendarsUptoRow, standIns := [], harness := (true, "3e55d8edd343335bb9d5ac0dd5b1142b16eb0ff7f1df3efdca1445a89721ba41"), looks := false }, kinds := [], alts := [], laidByText := true, laidKinds := [.data], laidTests := true, laidLooks := .later }
def CalendarsUptoCardSaid : Prop := Claim7.holds Tryz.pinned (.plain (OpenSpec.upto calendarsSpec)) calendarsUptoCard

/-- THE SECOND FORM's CARD OF 'docketlaw.Reckonings'. -/
def reckoningsUptoCard : Claim7 := { stood := { row := reckoningsUptoRow, standIns := [], harness := (true, "3e55d8edd343335bb9d5ac0dd5b1142b16eb0ff7f1df3efdca1445a89721ba41"), looks := false }, kinds := [], alts := [], laidByText := true, laidKinds := [.data], laidTests := true, laidLooks := .later }
def ReckoningsUptoCardSaid : Prop := Claim7.holds Tryz.pinned (.plain (OpenSpec.upto reckoningsSpec)) reckoningsUptoCard
end Rows
end Go.Proofs.YtkgknbddncnobaaGreatDoor
