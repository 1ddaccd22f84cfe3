/-
  DERIVED. GIVEN WITH THE SEED: THE CARDS: each row of YtjmdepmeohenhaaDoorRows.lean that lists a variable, with what it lists TIED to the program's text (the seventh form; the later family's looks); each row that meets fmt, with fmt's text TOLD by the authors' own Lean function (tested against real Go, not proved from fmt's source: count such statements apart). THE CARD IS WHAT COUNTS. Prove the row's statement (the work); the ties are given (YtjmdepmeohenhaaDoorTie.lean); close each card by the builder's one call (the guide's Derived/Test/ToyasCard.lean, 'card_holds'). Laid BY PROGRAM, IN A SANDBOX (cutbox-door.mjs). By AI agents, Wed Nov 11 2026. No macro, syntax, notation, axiom, sorry.
-/
import Derived.Test.YtjmdepmeohenhaaDoorRows
import GoSem.ClaimSeven
namespace Go.Proofs.YtjmdepmeohenhaaDoor
namespace Rows

/-- THE TIED CARD OF 'docketlaw.Calendars'. -/
def calendarsCard : Claim7 := { stood := { row := calendarsRow, standIns := [], harness := (true, "d0643a8987fd1959a1946badd041be8ada78313018f0cade0db8d72a7e619b81"), looks := false }, kinds := [], alts := [], laidByText := true, laidKinds := [.data], laidTests := true, laidLooks := .later }
def CalendarsCardSaid : Prop := Claim7.holds Tryd.pinned (.plain (OpenSpec.ofChange calendarsSpec)) calendarsCard

/-- THE TIED CARD OF 'docketkeep.Named'. -/
def namedCard : Claim7 := { stood := { row := namedRow, standIns := [], harness := (true, "d0643a8987fd1959a1946badd041be8ada78313018f0cade0db8d72a7e619b81"), looks := false }, kinds := [], alts := [], laidByText := true, laidKinds := [.data], laidTests := true, laidLooks := .later }
def NamedCardSaid : Prop := Claim7.holds Tryd.pinned (.plain (OpenSpec.ofChange namedSpec)) namedCard

/-- THE TIED CARD OF 'docketkeep.Broken'. -/
def brokenCard : Claim7 := { stood := { row := brokenRow, standIns := [], harness := (true, "d0643a8987fd1959a1946badd041be8ada78313018f0cade0db8d72a7e619b81"), looks := false }, kinds := [], alts := [], laidByText := true, laidKinds := [.data], laidTests := true, laidLooks := .later }
def BrokenCardSaid : Prop := Claim7.holds Tryd.pinned (.plain (OpenSpec.ofChange brokenSpec)) brokenCard

/-- THE SECOND FORM's CARD OF 'docketlaw.Calendars'. -/
def calendarsUptoCard : Claim7 := { stood := { row := calendarsUptoRow, standIns := [], harness := (true, "d0643a8987fd1959a1946badd041be8ada78313018f0cade0db8d72a7e619b81"), looks := false }, kinds := [], alts := [], laidByText := true, laidKinds := [.data], laidTests := true, laidLooks := .later }
def CalendarsUptoCardSaid : Prop := Claim7.holds Tryd.pinned (.plain (OpenSpec.upto calendarsSpec)) calendarsUptoCard

/-- THE SECOND FORM's CARD OF 'docketkeep.Named'. -/
def namedUptoCard : Claim7 := { stood := { row := namedUptoRow, standIns := [], harness := (true, "d0643a8987fd1959a1946badd041be8ada78313018f0cade0db8d72a7e619b81"), looks := false }, kinds := [], alts := [], laidByText := true, laidKinds := [.data], laidTests := true, laidLooks := .later }
def NamedUptoCardSaid : Prop := Claim7.holds Tryd.pinned (.plain (OpenSpec.upto namedSpec)) namedUptoCard

/-- THE SECOND FORM's CARD OF 'docketkeep.Broken'. -/
def brokenUptoCard : Claim7 := { stood := { row := brokenUptoRow, standIns := [], harness := (true, "d0643a8987fd1959a1946badd041be8ada78313018f0cade0db8d72a7e619b81"), looks := false }, kinds := [], alts := [], laidByText := true, laidKinds := [.data], laidTests := true, laidLooks := .later }
def BrokenUptoCardSaid : Prop := Claim7.holds Tryd.pinned (.plain (OpenSpec.upto brokenSpec)) brokenUptoCard
end Rows
end Go.Proofs.YtjmdepmeohenhaaDoor
