/-
  DERIVED. GIVEN WITH THE SEED: THE CARDS: each row of YtcnmbldikjljeaaGreatDoorRows.lean that lists a variable, with what it lists TIED to the program's text (the seventh form; the later family's looks); each row that meets fmt, with fmt's text TOLD by the authors' own Lean function (tested against real Go, not proved from fmt's source: count such statements apart). THE CARD IS WHAT COUNTS. Prove the row's statement (the work); the ties are given (YtcnmbldikjljeaaGreatDoorTie.lean); close each card by the builder's one call (the guide's Derived/Test/ToyasCard.lean, 'card_holds'). Laid BY PROGRAM, IN A SANDBOX (cutbox-door.mjs). By AI agents, Wed Nov 11 2026. No macro, syntax, notation, axiom, sorry.
-/
import Derived.Test.YtcnmbldikjljeaaGreatDoorRows
import GoSem.ClaimSeven
namespace Go.Proofs.YtcnmbldikjljeaaGreatDoor
namespace Rows

/-- THE TIED CARD OF 'docketlaw.Calendars'. -/
def calendarsCard : Claim7 := { stood := { row := calendarsRow, standIns := [], harness := (true, "8e4d4ff8ff3cb7ee5872ec4654d41ef0a1a753346f31e9ccdbb664ab575856ac"), looks := false }, kinds := [], alts := [], laidByText := true, laidKinds := [.data], laidTests := true, laidLooks := .later }
def CalendarsCardSaid : Prop := Claim7.holds Tryz.pinned (.plain (OpenSpec.ofChange calendarsSpec)) calendarsCard

/-- THE TIED CARD OF 'docketlaw.Reckonings'. -/
def reckoningsCard : Claim7 := { stood := { row := reckoningsRow, standIns := [], harness := (true, "8e4d4ff8ff3cb7ee5872ec4654d41ef0a1a753346f31e9ccdbb664ab575856ac"), looks := false }, kinds := [], alts := [], laidByText := true, laidKinds := [.data], laidTests := true, laidLooks := .later }
def ReckoningsCardSaid : Prop := Claim7.holds Tryz.pinned (.plain (OpenSpec.ofChange reckoningsSpec)) reckoningsCard

/-- THE TIED CARD OF 'docketlaw.Dockets'. -/
def docketsCard : Claim7 := { stood := { row := docketsRow, standIns := [], harness := (true, "8e4d4ff8ff3cb7ee5872ec4654d41ef0a1a753346f31e9ccdbb664ab575856ac"), looks := false }, kinds := [], alts := [], laidByText := true, laidKinds := [.data], laidTests := true, laidLooks := .later }
def DocketsCardSaid : Prop := Claim7.holds Tryz.pinned (.plain (OpenSpec.ofChange docketsSpec)) docketsCard

/-- THE TIED CARD OF 'docketkeep.Pieces'. -/
def piecesCard : Claim7 := { stood := { row := piecesRow, standIns := [], harness := (true, "8e4d4ff8ff3cb7ee5872ec4654d41ef0a1a753346f31e9ccdbb664ab575856ac"), looks := false }, kinds := [], alts := [], laidByText := true, laidKinds := [.data], laidTests := true, laidLooks := .later }
def PiecesCardSaid : Prop := Claim7.holds Tryz.pinned (.plain (OpenSpec.ofChange piecesSpec)) piecesCard

/-- THE TIED CARD OF 'docketkeep.Timely'. -/
def timelyCard : Claim7 := { stood := { row := timelyRow, standIns := [], harness := (true, "8e4d4ff8ff3cb7ee5872ec4654d41ef0a1a753346f31e9ccdbb664ab575856ac"), looks := false }, kinds := [], alts := [], laidByText := true, laidKinds := [.data], laidTests := true, laidLooks := .later }
def TimelyCardSaid : Prop := Claim7.holds Tryz.pinned (.plain (OpenSpec.ofChange timelySpec)) timelyCard

/-- THE TIED CARD OF 'docketkeep.Quiet'. -/
def quietCard : Claim7 := { stood := { row := quietRow, standIns := [], harness := (true, "8e4d4ff8ff3cb7ee5872ec4654d41ef0a1a753346f31e9ccdbb664ab575856ac"), looks := false }, kinds := [], alts := [], laidByText := true, laidKinds := [.data], laidTests := true, laidLooks := .later }
def QuietCardSaid : Prop := Claim7.holds Tryz.pinned (.plain (OpenSpec.ofChange quietSpec)) quietCard

/-- THE TIED CARD OF 'docketlaw.All'. -/
def allCard : Claim7 := { stood := { row := allRow, standIns := [], harness := (true, "8e4d4ff8ff3cb7ee5872ec4654d41ef0a1a753346f31e9ccdbb664ab575856ac"), looks := false }, kinds := [], alts := [], laidByText := true, laidKinds := [.data], laidTests := true, laidLooks := .later }
def AllCardSaid : Prop := Claim7.holds Tryz.pinned (.plain (OpenSpec.ofChange allSpec)) allCard

/-- THE SECOND FORM's CARD OF 'docketlaw.Calendars'. -/
def calendarsUptoCard : Claim7 := { stood := { row := calendarsUptoRow, standIns := [], harness := (true, "8e4d4ff8ff3cb7ee5872ec4654d41ef0a1a753346f31e9ccdbb664ab575856ac"), looks := false }, kinds := [], alts := [], laidByText := true, laidKinds := [.data], laidTests := true, laidLooks := .later }
def CalendarsUptoCardSaid : Prop := Claim7.holds Tryz.pinned (.plain (OpenSpec.upto calendarsSpec)) calendarsUptoCard

/-- THE SECOND FORM's CARD OF 'docketlaw.Reckonings'. -/
def reckoningsUptoCard : Claim7 := { stood := { row := reckoningsUptoRow, standIns := [], harness := (true, "8e4d4ff8ff3cb7ee5872ec4654d41ef0a1a753346f31e9ccdbb664ab575856ac"), looks := false }, kinds := [], alts := [], laidByText := true, laidKinds := [.data], laidTests := true, laidLooks := .later }
def ReckoningsUptoCardSaid : Prop := Claim7.holds Tryz.pinned (.plain (OpenSpec.upto reckoningsSpec)) reckoningsUptoCard

/-- THE SECOND FORM's CARD OF 'docketlaw.Dockets'. -/
def docketsUptoCard : Claim7 := { stood := { row := docketsUptoRow, standIns := [], harness := (true, "8e4d4ff8ff3cb7ee5872ec4654d41ef0a1a753346f31e9ccdbb664ab575856ac"), looks := false }, kinds := [], alts := [], laidByText := true, laidKinds := [.data], laidTests := true, laidLooks := .later }
def DocketsUptoCardSaid : Prop := Claim7.holds Tryz.pinned (.plain (OpenSpec.upto docketsSpec)) docketsUptoCard

/-- THE SECOND FORM's CARD OF 'docketkeep.Pieces'. -/
def piecesUptoCard : Claim7 := { stood := { row := piecesUptoRow, standIns := [], harness := (true, "8e4d4ff8ff3cb7ee5872ec4654d41ef0a1a753346f31e9ccdbb664ab575856ac"), looks := false }, kinds := [], alts := [], laidByText := true, laidKinds := [.data], laidTests := true, laidLooks := .later }
def PiecesUptoCardSaid : Prop := Claim7.holds Tryz.pinned (.plain (OpenSpec.upto piecesSpec)) piecesUptoCard

/-- THE SECOND FORM's CARD OF 'docketkeep.Timely'. -/
def timelyUptoCard : Claim7 := { stood := { row := timelyUptoRow, standIns := [], harness := (true, "8e4d4ff8ff3cb7ee5872ec4654d41ef0a1a753346f31e9ccdbb664ab575856ac"), looks := false }, kinds := [], alts := [], laidByText := true, laidKinds := [.data], laidTests := true, laidLooks := .later }
def TimelyUptoCardSaid : Prop := Claim7.holds Tryz.pinned (.plain (OpenSpec.upto timelySpec)) timelyUptoCard

/-- THE SECOND FORM's CARD OF 'docketkeep.Quiet'. -/
def quietUptoCard : Claim7 := { stood := { row := quietUptoRow, standIns := [], harness := (true, "8e4d4ff8ff3cb7ee5872ec4654d41ef0a1a753346f31e9ccdbb664ab575856ac"), looks := false }, kinds := [], alts := [], laidByText := true, laidKinds := [.data], laidTests := true, laidLooks := .later }
def QuietUptoCardSaid : Prop := Claim7.holds Tryz.pinned (.plain (OpenSpec.upto quietSpec)) quietUptoCard

/-- THE SECOND FORM's CARD OF 'docketlaw.All'. -/
def allUptoCard : Claim7 := { stood := { row := allUptoRow, standIns := [], harness := (true, "8e4d4ff8ff3cb7ee5872ec4654d41ef0a1a753346f31e9ccdbb664ab575856ac"), looks := false }, kinds := [], alts := [], laidByText := true, laidKinds := [.data], laidTests := true, laidLooks := .later }
def AllUptoCardSaid : Prop := Claim7.holds Tryz.pinned (.plain (OpenSpec.upto allSpec)) allUptoCard
end Rows
end Go.Proofs.YtcnmbldikjljeaaGreatDoor
