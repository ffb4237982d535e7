/-
  DERIVED. GIVEN WITH THE SEED: THE CARDS: each row of YtpekpdceagdbeaaDoorRows.lean that lists a variable, with what it lists TIED to the program's text (the seventh form; the later family's looks); each row that meets fmt, with fmt's text TOLD by the authors' own Lean function (tested against real Go, not proved from fmt's source: count such statements apart). THE CARD IS WHAT COUNTS. Prove the row's statement (the work); the ties are given (YtpekpdceagdbeaaDoorTie.lean); close each card by the builder's one call (the guide's Derived/Test/ToyasCard.lean, 'card_holds'). Laid BY PROGRAM, IN A SANDBOX (cutbox-door.mjs). By AI agents, Wed Nov 11 2026. No macro, syntax, notation, axiom, sorry.
-/
import Derived.Test.YtpekpdceagdbeaaDoorRows
import GoSem.ClaimSeven
namespace Go.Proofs.YtpekpdceagdbeaaDoor
namespace Rows

/-- THE TIED CARD OF 'tarnlaw15.NetMost'. -/
def netMostCard : Claim7 := { stood := { row := netMostRow, standIns := [], harness := (true, "17a03eacef8f202306ed5e607382f2ccc73e2926ca03ca284cf209eee1aeb9ef"), looks := true }, kinds := [], alts := [], laidByText := true, laidKinds := [.data], laidTests := true, laidLooks := .later }
def NetMostCardSaid : Prop := Claim7.holds Tryd.pinned (.plain (OpenSpec.ofChange netMostSpec)) netMostCard

/-- THE TIED CARD OF 'tarnlaw15.NetNone'. -/
def netNoneCard : Claim7 := { stood := { row := netNoneRow, standIns := [], harness := (true, "17a03eacef8f202306ed5e607382f2ccc73e2926ca03ca284cf209eee1aeb9ef"), looks := true }, kinds := [], alts := [], laidByText := true, laidKinds := [.data], laidTests := true, laidLooks := .later }
def NetNoneCardSaid : Prop := Claim7.holds Tryd.pinned (.plain (OpenSpec.ofChange netNoneSpec)) netNoneCard

/-- THE TIED CARD OF 'tarnlaw32.OpInput'. -/
def opInputCard : Claim7 := { stood := { row := opInputRow, standIns := [], harness := (true, "17a03eacef8f202306ed5e607382f2ccc73e2926ca03ca284cf209eee1aeb9ef"), looks := true }, kinds := [], alts := [], laidByText := true, laidKinds := [.data, .data], laidTests := true, laidLooks := .later }
def OpInputCardSaid : Prop := Claim7.holds Tryd.pinned (.plain (OpenSpec.ofChange opInputSpec)) opInputCard

/-- THE TIED CARD OF 'tarnlaw46.ScriptNums'. -/
def scriptNumsCard : Claim7 := { stood := { row := scriptNumsRow, standIns := [], harness := (true, "17a03eacef8f202306ed5e607382f2ccc73e2926ca03ca284cf209eee1aeb9ef"), looks := true }, kinds := [], alts := [], laidByText := true, laidKinds := [.data, .data, .data, .data, .sentinel, .sentinel, .data, .pinned], laidTests := true, laidLooks := .later }
def ScriptNumsCardSaid : Prop := Claim7.holds Tryd.pinned (.plain (OpenSpec.ofChange scriptNumsSpec)) scriptNumsCard

/-- THE TIED CARD OF 'tarnlaw46.ScriptMost'. -/
def scriptMostCard : Claim7 := { stood := { row := scriptMostRow, standIns := [], harness := (true, "17a03eacef8f202306ed5e607382f2ccc73e2926ca03ca284cf209eee1aeb9ef"), looks := true }, kinds := [], alts := [], laidByText := true, laidKinds := [.data, .data, .data, .data, .sentinel, .sentinel, .data, .pinned], laidTests := true, laidLooks := .later }
def ScriptMostCardSaid : Prop := Claim7.holds Tryd.pinned (.plain (OpenSpec.ofChange scriptMostSpec)) scriptMostCard

/-- THE TIED CARD OF 'tarnlaw51.TracePuts'. -/
def tracePutsCard : Claim7 := { stood := { row := tracePutsRow, standIns := [], harness := (true, "17a03eacef8f202306ed5e607382f2ccc73e2926ca03ca284cf209eee1aeb9ef"), looks := true }, kinds := [], alts := [], laidByText := true, laidKinds := [.data], laidTests := true, laidLooks := .later }
def TracePutsCardSaid : Prop := Claim7.holds Tryd.pinned (.plain (OpenSpec.ofChange tracePutsSpec)) tracePutsCard

/-- THE TIED CARD OF 'tarnlaw51.TraceGets'. -/
def traceGetsCard : Claim7 := { stood := { row := traceGetsRow, standIns := [], harness := (true, "17a03eacef8f202306ed5e607382f2ccc73e2926ca03ca284cf209eee1aeb9ef"), looks := true }, kinds := [], alts := [], laidByText := true, laidKinds := [.data], laidTests := true, laidLooks := .later }
def TraceGetsCardSaid : Prop := Claim7.holds Tryd.pinned (.plain (OpenSpec.ofChange traceGetsSpec)) traceGetsCard

/-- THE TIED CARD OF 'tarnlaw51.TraceAll'. -/
def traceAllCard : Claim7 := { stood := { row := traceAllRow, standIns := [], harness := (true, "17a03eacef8f202306ed5e607382f2ccc73e2926ca03ca284cf209eee1aeb9ef"), looks := true }, kinds := [], alts := [], laidByText := true, laidKinds := [.data], laidTests := true, laidLooks := .later }
def TraceAllCardSaid : Prop := Claim7.holds Tryd.pinned (.plain (OpenSpec.ofChange traceAllSpec)) traceAllCard

/-- THE SECOND FORM's CARD OF 'tarnlaw15.NetMost'. -/
def netMostUptoCard : Claim7 := { stood := { row := netMostUptoRow, standIns := [], harness := (true, "17a03eacef8f202306ed5e607382f2ccc73e2926ca03ca284cf209eee1aeb9ef"), looks := true }, kinds := [], alts := [], laidByText := true, laidKinds := [.data], laidTests := true, laidLooks := .later }
def NetMostUptoCardSaid : Prop := Claim7.holds Tryd.pinned (.plain (OpenSpec.upto netMostSpec)) netMostUptoCard

/-- THE SECOND FORM's CARD OF 'tarnlaw15.NetNone'. -/
def netNoneUptoCard : Claim7 := { stood := { row := netNoneUptoRow, standIns := [], harness := (true, "17a03eacef8f202306ed5e607382f2ccc73e2926ca03ca284cf209eee1aeb9ef"), looks := true }, kinds := [], alts := [], laidByText := true, laidKinds := [.data], laidTests := true, laidLooks := .later }
def NetNoneUptoCardSaid : Prop := Claim7.holds Tryd.pinned (.plain (OpenSpec.upto netNoneSpec)) netNoneUptoCard

/-- THE SECOND FORM's CARD OF 'tarnlaw32.OpInput'. -/
def opInputUptoCard : Claim7 := { stood := { row := opInputUptoRow, standIns := [], harness := (true, "17a03eacef8f202306ed5e607382f2ccc73e2926ca03ca284cf209eee1aeb9ef"), looks := true }, kinds := [], alts := [], laidByText := true, laidKinds := [.data, .data], laidTests := true, laidLooks := .later }
def OpInputUptoCardSaid : Prop := Claim7.holds Tryd.pinned (.plain (OpenSpec.upto opInputSpec)) opInputUptoCard

/-- THE SECOND FORM's CARD OF 'tarnlaw46.ScriptNums'. -/
def scriptNumsUptoCard : Claim7 := { stood := { row := scriptNumsUptoRow, standIns := [], harness := (true, "17a03eacef8f202306ed5e607382f2ccc73e2926ca03ca284cf209eee1aeb9ef"), looks := true }, kinds := [], alts := [], laidByText := true, laidKinds := [.data, .data, .data, .data, .sentinel, .sentinel, .data, .pinned], laidTests := true, laidLooks := .later }
def ScriptNumsUptoCardSaid : Prop := Claim7.holds Tryd.pinned (.plain (OpenSpec.upto scriptNumsSpec)) scriptNumsUptoCard

/-- THE SECOND FORM's CARD OF 'tarnlaw46.ScriptMost'. -/
def scriptMostUptoCard : Claim7 := { stood := { row := scriptMostUptoRow, standIns := [], harness := (true, "17a03eacef8f202306ed5e607382f2ccc73e2926ca03ca284cf209eee1aeb9ef"), looks := true }, kinds := [], alts := [], laidByText := true, laidKinds := [.data, .data, .data, .data, .sentinel, .sentinel, .data, .pinned], laidTests := true, laidLooks := .later }
def ScriptMostUptoCardSaid : Prop := Claim7.holds Tryd.pinned (.plain (OpenSpec.upto scriptMostSpec)) scriptMostUptoCard

/-- THE SECOND FORM's CARD OF 'tarnlaw51.TracePuts'. -/
def tracePutsUptoCard : Claim7 := { stood := { row := tracePutsUptoRow, standIns := [], harness := (true, "17a03eacef8f202306ed5e607382f2ccc73e2926ca03ca284cf209eee1aeb9ef"), looks := true }, kinds := [], alts := [], laidByText := true, laidKinds := [.data], laidTests := true, laidLooks := .later }
def TracePutsUptoCardSaid : Prop := Claim7.holds Tryd.pinned (.plain (OpenSpec.upto tracePutsSpec)) tracePutsUptoCard

/-- THE SECOND FORM's CARD OF 'tarnlaw51.TraceGets'. -/
def traceGetsUptoCard : Claim7 := { stood := { row := traceGetsUptoRow, standIns := [], harness := (true, "17a03eacef8f202306ed5e607382f2ccc73e2926ca03ca284cf209eee1aeb9ef"), looks := true }, kinds := [], alts := [], laidByText := true, laidKinds := [.data], laidTests := true, laidLooks := .later }
def TraceGetsUptoCardSaid : Prop := Claim7.holds Tryd.pinned (.plain (OpenSpec.upto traceGetsSpec)) traceGetsUptoCard

/-- THE SECOND FORM's CARD OF 'tarnlaw51.TraceAll'. -/
def traceAllUptoCard : Claim7 := { stood := { row := traceAllUptoRow, standIns := [], harness := (true, "17a03eacef8f202306ed5e607382f2ccc73e2926ca03ca284cf209eee1aeb9ef"), looks := true }, kinds := [], alts := [], laidByText := true, laidKinds := [.data], laidTests := true, laidLooks := .later }
def TraceAllUptoCardSaid : Prop := Claim7.holds Tryd.pinned (.plain (OpenSpec.upto traceAllSpec)) traceAllUptoCard
end Rows
end Go.Proofs.YtpekpdceagdbeaaDoor
