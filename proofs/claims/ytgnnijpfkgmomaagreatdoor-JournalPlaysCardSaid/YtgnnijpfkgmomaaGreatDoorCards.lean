/-
  DERIVED. GIVEN WITH THE SEED: THE CARDS: each row of YtgnnijpfkgmomaaGreatDoorRows.lean that lists a variable, with what it lists TIED to the program's text (the seventh form; the later family's looks); each row that meets fmt, with fmt's text TOLD by the authors' own Lean function (tested against real Go, not proved from fmt's source: count such statements apart). THE CARD IS WHAT COUNTS. Prove the row's statement (the work); the ties are given (YtgnnijpfkgmomaaGreatDoorTie.lean); close each card by the builder's one call (the guide's Derived/Test/ToyasCard.lean, 'card_holds'). Laid BY PROGRAM, IN A SANDBOX (cutbox-door.mjs). By AI agents, Wed Nov 11 2026. No macro, syntax, notation, axiom, sorry.
-/
import Derived.Test.YtgnnijpfkgmomaaGreatDoorRows
import GoSem.ClaimSeven
namespace Go.Proofs.YtgnnijpfkgmomaaGreatDoor
namespace Rows

/-- THE TIED CARD OF 'tarnlaw07.JournalPlays'. -/
def journalPlaysCard : Claim7 := { stood := { row := journalPlaysRow, standIns := [], harness := (true, "704f986c09fb538a62a9d4623692a087320fe15de0f644d58a7ed80e0bd68444"), looks := false }, kinds := [], alts := [], laidByText := true, laidKinds := [.data, .pinned], laidTests := true, laidLooks := .later }
def JournalPlaysCardSaid : Prop := Claim7.holds Tryz.pinned (.plain (OpenSpec.ofChange journalPlaysSpec)) journalPlaysCard

/-- THE TIED CARD OF 'tarnlaw07.JournalLast'. -/
def journalLastCard : Claim7 := { stood := { row := journalLastRow, standIns := [], harness := (true, "704f986c09fb538a62a9d4623692a087320fe15de0f644d58a7ed80e0bd68444"), looks := false }, kinds := [], alts := [], laidByText := true, laidKinds := [.data, .pinned], laidTests := true, laidLooks := .later }
def JournalLastCardSaid : Prop := Claim7.holds Tryz.pinned (.plain (OpenSpec.ofChange journalLastSpec)) journalLastCard

/-- THE TIED CARD OF 'tarnlaw07.JournalInput'. -/
def journalInputCard : Claim7 := { stood := { row := journalInputRow, standIns := [], harness := (true, "704f986c09fb538a62a9d4623692a087320fe15de0f644d58a7ed80e0bd68444"), looks := false }, kinds := [], alts := [], laidByText := true, laidKinds := [.data, .pinned], laidTests := true, laidLooks := .later }
def JournalInputCardSaid : Prop := Claim7.holds Tryz.pinned (.plain (OpenSpec.ofChange journalInputSpec)) journalInputCard

/-- THE SECOND FORM's CARD OF 'tarnlaw07.JournalPlays'. -/
def journalPlaysUptoCard : Claim7 := { stood := { row := journalPlaysUptoRow, standIns := [], harness := (true, "704f986c09fb538a62a9d4623692a087320fe15de0f644d58a7ed80e0bd68444"), looks := false }, kinds := [], alts := [], laidByText := true, laidKinds := [.data, .pinned], laidTests := true, laidLooks := .later }
def JournalPlaysUptoCardSaid : Prop := Claim7.holds Tryz.pinned (.plain (OpenSpec.upto journalPlaysSpec)) journalPlaysUptoCard

/-- THE SECOND FORM's CARD OF 'tarnlaw07.JournalLast'. -/
def journalLastUptoCard : Claim7 := { stood := { row := journalLastUptoRow, standIns := [], harness := (true, "704f986c09fb538a62a9d4623692a087320fe15de0f644d58a7ed80e0bd68444"), looks := false }, kinds := [], alts := [], laidByText := true, laidKinds := [.data, .pinned], laidTests := true, laidLooks := .later }
def JournalLastUptoCardSaid : Prop := Claim7.holds Tryz.pinned (.plain (OpenSpec.upto journalLastSpec)) journalLastUptoCard

/-- THE SECOND FORM's CARD OF 'tarnlaw07.JournalInput'. -/
def journalInputUptoCard : Claim7 := { stood := { row := journalInputUptoRow, standIns := [], harness := (true, "704f986c09fb538a62a9d4623692a087320fe15de0f644d58a7ed80e0bd68444"), looks := false }, kinds := [], alts := [], laidByText := true, laidKinds := [.data, .pinned], laidTests := true, laidLooks := .later }
def JournalInputUptoCardSaid : Prop := Claim7.holds Tryz.pinned (.plain (OpenSpec.upto journalInputSpec)) journalInputUptoCard
end Rows
end Go.Proofs.YtgnnijpfkgmomaaGreatDoor
