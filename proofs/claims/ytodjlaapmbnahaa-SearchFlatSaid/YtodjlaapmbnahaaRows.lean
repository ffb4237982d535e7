/-
  No cell of these rows narrows 'for every input' (looked for: loops, veiled, ifaces, maps, wideKeys, modest, calm, conditions, laid).
  DERIVED. THE GIVEN ROWS OF THIS SEAT. 3 by the template 'for every input the law returns true; each argument reads behind the call as it read before'; 0 by the template 'total and deterministic' (their statements: YtodjlaapmbnahaaTotals.lean).
  GIVEN WITH THE SEED: the statements are not yours to turn. If you find one false, say at which input.
  Laid BY PROGRAM, IN A SANDBOX (cutbox-rows.mjs): the forced cells as the released guide's own fill.sh prints them over the translation ca2c42215bea55a1… (all of the seat's roots in one cut). By AI agents, Wed Nov 11 2026. No macro, syntax, notation, axiom, sorry.
-/
import Derived.Test.YtodjlaapmbnahaaChecked
import GoSem.Claim
import GoSem.ClaimJoined
import GoSem.ClaimMapViews
import Derived.JoinedTies
import Derived.KernelRfl
namespace Go.Proofs.Ytodjlaapmbnahaa
/- THE CELL 'sum', in the pinned program and in every row, IS THE sha256 OF THE DUMP (.gsa) THAT YtodjlaapmbnahaaProg.lean LOADS. Nothing in Lean hashes anything: it is a label: what it is worth is what the hold of that sum in a sandbox is worth. -/
noncomputable def Try.pinned : Pinned := { name := "ytodjlaapmbnahaa", sum := "ca2c42215bea55a158a1f5a7977873db61fa6fb2f5f79483fe031c6d0138bb5f", checked := Try.checked }
namespace Rows
def none {H : Type} : Left H := { results := [], args := [] }

/-- 'tarnlaw35.FlatFits': WHATEVER THE INPUT: true; the input reads as it did. -/
def flatFitsSpec : ChangeSpec := { name := "flatFits", fn := fun _ => fun
  | [d1, d2] => { results := [.lit (.bool true)], args := [d1, d2] }
  | _ => none }
def flatFitsRow : OpenClaim := { program := "ytodjlaapmbnahaa", sum := "ca2c42215bea55a158a1f5a7977873db61fa6fb2f5f79483fe031c6d0138bb5f", func := "tarn/tarnlaw35.FlatFits", spec := "flatFits", inPlace := ["internal/abi.NoEscape", "internal/bytealg.MakeNoZero"], plainKeys := false, apart := false }
def FlatFitsSaid : Prop := flatFitsRow.holds Try.pinned (OpenSpec.ofChange flatFitsSpec)

/-- ITS FALSE NEIGHBOUR: 'it returns false'. Refute it at one input. -/
def flatFitsWrong : ChangeSpec := { name := "flatFits", fn := fun _ => fun
  | [d1, d2] => { results := [.lit (.bool false)], args := [d1, d2] }
  | _ => none }
def FlatFitsWrongFalsely : Prop := flatFitsRow.holds Try.pinned (OpenSpec.ofChange flatFitsWrong)

/-- 'tarnlaw35.FlatBent': WHATEVER THE INPUT: true; the input reads as it did. -/
def flatBentSpec : ChangeSpec := { name := "flatBent", fn := fun _ => fun
  | [d1, d2, d3] => { results := [.lit (.bool true)], args := [d1, d2, d3] }
  | _ => none }
def flatBentRow : OpenClaim := { program := "ytodjlaapmbnahaa", sum := "ca2c42215bea55a158a1f5a7977873db61fa6fb2f5f79483fe031c6d0138bb5f", func := "tarn/tarnlaw35.FlatBent", spec := "flatBent", inPlace := ["internal/abi.NoEscape", "internal/bytealg.MakeNoZero"], plainKeys := false, apart := false }
def FlatBentSaid : Prop := flatBentRow.holds Try.pinned (OpenSpec.ofChange flatBentSpec)

/-- ITS FALSE NEIGHBOUR: 'it returns false'. Refute it at one input. -/
def flatBentWrong : ChangeSpec := { name := "flatBent", fn := fun _ => fun
  | [d1, d2, d3] => { results := [.lit (.bool false)], args := [d1, d2, d3] }
  | _ => none }
def FlatBentWrongFalsely : Prop := flatBentRow.holds Try.pinned (OpenSpec.ofChange flatBentWrong)

/-- 'tarnlaw40.SearchFlat': WHATEVER THE INPUT: true; the input reads as it did. -/
def searchFlatSpec : ChangeSpec := { name := "searchFlat", fn := fun _ => fun
  | [d] => { results := [.lit (.bool true)], args := [d] }
  | _ => none }
def searchFlatRow : OpenClaim := { program := "ytodjlaapmbnahaa", sum := "ca2c42215bea55a158a1f5a7977873db61fa6fb2f5f79483fe031c6d0138bb5f", func := "tarn/tarnlaw40.SearchFlat", spec := "searchFlat", inPlace := ["internal/abi.NoEscape", "internal/bytealg.MakeNoZero"], recurses := true, plainKeys := false, apart := false }
def SearchFlatSaid : Prop := searchFlatRow.holds Try.pinned (OpenSpec.ofChange searchFlatSpec)

/-- ITS FALSE NEIGHBOUR: 'it returns false'. Refute it at one input. -/
def searchFlatWrong : ChangeSpec := { name := "searchFlat", fn := fun _ => fun
  | [d] => { results := [.lit (.bool false)], args := [d] }
  | _ => none }
def SearchFlatWrongFalsely : Prop := searchFlatRow.holds Try.pinned (OpenSpec.ofChange searchFlatWrong)

/- THE SECOND FORM. 'bulk': how many values and letters a reading holds, each counted each time it is reached (what is shared counts as often as it is met; a slice's spare places count too). A statement '..UptoSaid' is the law's where the arguments, and the package variables that the reading takes, are together of bulk at most 1048576: NARROWER than '..Said'. Prove '..Said' where nothing that the law and all that it calls make is longer than what came in: it says more and counts as full. Else prove '..UptoSaid'. A law counts once. -/
mutual
def uptoBulk {H : Type} : DataW H → Nat
  | .lit (.string bytes) => bytes.length + 1
  | .lit _ => 1
  | .nil => 1
  | .ptr d => uptoBulk d + 1
  | .slice elems spare => uptoBulkAll elems + uptoBulkAll spare + 1
  | .agg parts => uptoBulkAll parts + 1
  | .iface _ d => uptoBulk d + 1
  | .map entries => uptoBulkEntries entries + 1
  | .held _ => 1
def uptoBulkAll {H : Type} : List (DataW H) → Nat
  | [] => 0
  | d :: r => uptoBulk d + uptoBulkAll r
def uptoBulkEntries {H : Type} : List (Lit × DataW H) → Nat
  | [] => 0
  | x :: r => uptoBulkEntry x + uptoBulkEntries r
def uptoBulkEntry {H : Type} : Lit × DataW H → Nat
  | (.string bytes, d) => bytes.length + uptoBulk d + 1
  | (_, d) => uptoBulk d + 1
 end
def uptoSmall : (H : Type) → List (DataW H) → Bool := fun _ ds => decide (uptoBulkAll ds ≤ 1048576)
def OpenSpec.upto (s : _root_.Go.ChangeSpec) : _root_.Go.OpenSpec := { _root_.Go.OpenSpec.ofChange s with cond := some uptoSmall }

/-- 'tarnlaw35.FlatFits', WHERE WHAT IT READS IS OF BULK AT MOST 1048576: true; the input reads as it did. -/
def flatFitsUptoRow : OpenClaim := { program := "ytodjlaapmbnahaa", sum := "ca2c42215bea55a158a1f5a7977873db61fa6fb2f5f79483fe031c6d0138bb5f", func := "tarn/tarnlaw35.FlatFits", spec := "flatFits", inPlace := ["internal/abi.NoEscape", "internal/bytealg.MakeNoZero"], plainKeys := false, apart := false, narrowed := true }
def FlatFitsUptoSaid : Prop := flatFitsUptoRow.holds Try.pinned (OpenSpec.upto flatFitsSpec)

/-- 'tarnlaw35.FlatBent', WHERE WHAT IT READS IS OF BULK AT MOST 1048576: true; the input reads as it did. -/
def flatBentUptoRow : OpenClaim := { program := "ytodjlaapmbnahaa", sum := "ca2c42215bea55a158a1f5a7977873db61fa6fb2f5f79483fe031c6d0138bb5f", func := "tarn/tarnlaw35.FlatBent", spec := "flatBent", inPlace := ["internal/abi.NoEscape", "internal/bytealg.MakeNoZero"], plainKeys := false, apart := false, narrowed := true }
def FlatBentUptoSaid : Prop := flatBentUptoRow.holds Try.pinned (OpenSpec.upto flatBentSpec)

/-- 'tarnlaw40.SearchFlat', WHERE WHAT IT READS IS OF BULK AT MOST 1048576: true; the input reads as it did. -/
def searchFlatUptoRow : OpenClaim := { program := "ytodjlaapmbnahaa", sum := "ca2c42215bea55a158a1f5a7977873db61fa6fb2f5f79483fe031c6d0138bb5f", func := "tarn/tarnlaw40.SearchFlat", spec := "searchFlat", inPlace := ["internal/abi.NoEscape", "internal/bytealg.MakeNoZero"], recurses := true, plainKeys := false, apart := false, narrowed := true }
def SearchFlatUptoSaid : Prop := searchFlatUptoRow.holds Try.pinned (OpenSpec.upto searchFlatSpec)

end Rows
end Go.Proofs.Ytodjlaapmbnahaa
