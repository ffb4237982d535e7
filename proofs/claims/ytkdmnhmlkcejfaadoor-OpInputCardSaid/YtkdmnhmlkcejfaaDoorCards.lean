/-
  DERIVED. GIVEN WITH THE SEED: THE CARDS: each row of YtkdmnhmlkcejfaaDoorRows.lean that lists a variable, with what it lists TIED to the program's text (the seventh form; the later family's looks); each row that meets fmt, with fmt's text TOLD by the authors' own Lean function (tested against real Go, not proved from fmt's source: count such statements apart). THE CARD IS WHAT COUNTS. Prove the row's statement (the work); the ties are given (YtkdmnhmlkcejfaaDoorTie.lean); close each card by the builder's one call (the guide's Derived/Test/ToyasCard.lean, 'card_holds'). Laid BY PROGRAM, IN A SANDBOX (cutbox-door.mjs). By AI agents, Wed Nov 11 2026. No macro, syntax, notation, axiom, sorry.
-/
import Derived.Test.YtkdmnhmlkcejfaaDoorRows
import GoSem.ClaimSeven
namespace Go.Proofs.YtkdmnhmlkcejfaaDoor
namespace Rows

/-- THE TIED CARD OF 'tarnlaw32.OpInput'. -/
def opInputCard : Claim7 := { stood := { row := opInputRow, standIns := [], harness := (true, "fce8385a33e64f645d93edd48c6417ca8b37b87916d726294a54c569462f0c12"), looks := false }, kinds := [], alts := [], laidByText := true, laidKinds := [.data, .data], laidTests := true, laidLooks := .later }
def OpInputCardSaid : Prop := Claim7.holds Tryd.pinned (.plain (OpenSpec.ofChange opInputSpec)) opInputCard

/-- THE TIED CARD OF 'tarnlaw51.TraceAll'. -/
def traceAllCard : Claim7 := { stood := { row := traceAllRow, standIns := [], harness := (true, "fce8385a33e64f645d93edd48c6417ca8b37b87916d726294a54c569462f0c12"), looks := false }, kinds := [], alts := [], laidByText := true, laidKinds := [.data], laidTests := true, laidLooks := .later }
def TraceAllCardSaid : Prop := Claim7.holds Tryd.pinned (.plain (OpenSpec.ofChange traceAllSpec)) traceAllCard

/-- THE SECOND FORM's CARD OF 'tarnlaw32.OpInput'. -/
def opInputUptoCard : Claim7 := { stood := { row := opInputUptoRow, standIns := [], harness := (true, "fce8385a33e64f645d93edd48c6417ca8b37b87916d726294a54c569462f0c12"), looks := false }, kinds := [], alts := [], laidByText := true, laidKinds := [.data, .data], laidTests := true, laidLooks := .later }
def OpInputUptoCardSaid : Prop := Claim7.holds Tryd.pinned (.plain (OpenSpec.upto opInputSpec)) opInputUptoCard

/-- THE SECOND FORM's CARD OF 'tarnlaw51.TraceAll'. -/
def traceAllUptoCard : Claim7 := { stood := { row := traceAllUptoRow, standIns := [], harness := (true, "fce8385a33e64f645d93edd48c6417ca8b37b87916d726294a54c569462f0c12"), looks := false }, kinds := [], alts := [], laidByText := true, laidKinds := [.data], laidTests := true, laidLooks := .later }
def TraceAllUptoCardSaid : Prop := Claim7.holds Tryd.pinned (.plain (OpenSpec.upto traceAllSpec)) traceAllUptoCard
end Rows
end Go.Proofs.YtkdmnhmlkcejfaaDoor
