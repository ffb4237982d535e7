/-
  NARROWER THAN 'FOR EVERY INPUT', by the rows' own cells (each row's printed sentence says how): OpInput: laid · TraceAll: laid.
  DERIVED. THE GIVEN ROWS OF THIS SEAT. 2 by the template 'for every input the law returns true; each argument reads behind the call as it read before'; 0 by the template 'total and deterministic' (their statements: YtkdmnhmlkcejfaaDoorTotals.lean).
  GIVEN WITH THE SEED: the statements are not yours to turn. If you find one false, say at which input.
  Laid BY PROGRAM, IN A SANDBOX (cutbox-rows.mjs): the forced cells as the released guide's own fill.sh prints them over the translation 60540041fdb85cdd… (all of the seat's roots in one cut). By AI agents, Wed Nov 11 2026. No macro, syntax, notation, axiom, sorry.
-/
import Derived.Test.YtkdmnhmlkcejfaaDoorChecked
import GoSem.Claim
import GoSem.ClaimJoined
import GoSem.ClaimMapViews
import Derived.JoinedTies
import Derived.KernelRfl
namespace Go.Proofs.YtkdmnhmlkcejfaaDoor
/- THE CELL 'sum', in the pinned program and in every row, IS THE sha256 OF THE DUMP (.gsa) THAT YtkdmnhmlkcejfaaDoorProg.lean LOADS. Nothing in Lean hashes anything: it is a label: what it is worth is what the hold of that sum in a sandbox is worth. -/
noncomputable def Tryd.pinned : Pinned := { name := "ytkdmnhmlkcejfaadoor", sum := "60540041fdb85cdd8a3d9a3ac6777c500dc32c9d6114cdeae36ee6f3bb0e57af", checked := Tryd.checked }
namespace Rows
def none {H : Type} : Left H := { results := [], args := [] }

/- WHAT THE LISTED PACKAGE-LEVEL VARIABLES READ AS WHEN THE CALL BEGINS. Each datum BY PROGRAM (the guide's laid-datum.mjs) off the statement by which the dump's own 'gosem.cut.vars' lays the variable. In a bare row this is a premise. The card (YtkdmnhmlkcejfaaDoorCards.lean) ties it to the program's text. -/
def laid_tarn_op_says {H : Type} : DataW H := .agg [.lit (.int .i64 11), .lit (.int .i64 13), .lit (.int .i64 15), .lit (.int .i64 17), .lit (.int .i64 19)]
def laid_tarn_op_hears {H : Type} : DataW H := .agg [.lit (.int .i64 12), .lit (.int .i64 14), .lit (.int .i64 16), .lit (.int .i64 18), .lit (.int .i64 20)]
def laid_tarn_crc_nibbles {H : Type} : DataW H := .agg [.lit (.int .u32 0), .lit (.int .u32 498536548), .lit (.int .u32 997073096), .lit (.int .u32 651767980), .lit (.int .u32 1994146192), .lit (.int .u32 1802195444), .lit (.int .u32 1303535960), .lit (.int .u32 1342533948), .lit (.int .u32 3988292384), .lit (.int .u32 4027552580), .lit (.int .u32 3604390888), .lit (.int .u32 3412177804), .lit (.int .u32 2607071920), .lit (.int .u32 2262029012), .lit (.int .u32 2685067896), .lit (.int .u32 3183342108)]

/-- 'tarnlaw32.OpInput': WHATEVER THE INPUT: true; the input reads as it did. -/
def opInputSpec : ChangeSpec := { name := "opInput", fn := fun _ => fun
  | [d1, d2, d3] => { results := [.lit (.bool true)], args := [d1, d2, d3] }
  | _ => none }
def opInputRow : OpenClaim := { program := "ytkdmnhmlkcejfaadoor", sum := "60540041fdb85cdd8a3d9a3ac6777c500dc32c9d6114cdeae36ee6f3bb0e57af", func := "tarn/tarnlaw32.OpInput", spec := "opInput", inPlace := ["internal/abi.NoEscape", "internal/bytealg.MakeNoZero"], named := ["tarn/op.says", "tarn/op.hears"], apart := false, laid := [("tarn/op.says", laid_tarn_op_says), ("tarn/op.hears", laid_tarn_op_hears)] }
def OpInputSaid : Prop := opInputRow.holds Tryd.pinned (OpenSpec.ofChange opInputSpec)

/-- ITS FALSE NEIGHBOUR: 'it returns false'. Refute it at one input. -/
def opInputWrong : ChangeSpec := { name := "opInput", fn := fun _ => fun
  | [d1, d2, d3] => { results := [.lit (.bool false)], args := [d1, d2, d3] }
  | _ => none }
def OpInputWrongFalsely : Prop := opInputRow.holds Tryd.pinned (OpenSpec.ofChange opInputWrong)

/-- 'tarnlaw51.TraceAll': WHATEVER THE INPUT: true; the input reads as it did. -/
def traceAllSpec : ChangeSpec := { name := "traceAll", fn := fun _ => fun
  | [d1, d2] => { results := [.lit (.bool true)], args := [d1, d2] }
  | _ => none }
def traceAllRow : OpenClaim := { program := "ytkdmnhmlkcejfaadoor", sum := "60540041fdb85cdd8a3d9a3ac6777c500dc32c9d6114cdeae36ee6f3bb0e57af", func := "tarn/tarnlaw51.TraceAll", spec := "traceAll", inPlace := ["internal/abi.NoEscape"], unfollowed := true, recurses := true, named := ["tarn/crc.nibbles"], apart := false, laid := [("tarn/crc.nibbles", laid_tarn_crc_nibbles)] }
def TraceAllSaid : Prop := traceAllRow.holds Tryd.pinned (OpenSpec.ofChange traceAllSpec)

/-- ITS FALSE NEIGHBOUR: 'it returns false'. Refute it at one input. -/
def traceAllWrong : ChangeSpec := { name := "traceAll", fn := fun _ => fun
  | [d1, d2] => { results := [.lit (.bool false)], args := [d1, d2] }
  | _ => none }
def TraceAllWrongFalsely : Prop := traceAllRow.holds Tryd.pinned (OpenSpec.ofChange traceAllWrong)

/- THE SECOND FORM. 'bulk': how many values and letters a reading holds, each counted each time it is reached (what is shared counts as often as it is met; a slice's spare places count too). A statement '..UptoSaid' is the law's where the arguments, and the package variables that the reading takes, are together of bulk at most 1048576: NARROWER than '..Said'. Prove '..Said' where nothing that the law and all that it calls make is longer than what came in: it says more and counts as full. Else prove '..UptoSaid'. A law counts once. -/
mutual
def uptoBulk {H : Type} : DataW H → Nat
  | .lit (.string bytes) => bytes.length + 1
  | .lit _ => 1
  | .nil => 1
  | .ptr d => uptoBulk d + 1
  | .slice elems spare => uptoBulkAll elems + uptoBulkAll spare + 1
  | .agg parts => uptoBulkAll parts + 1
  | .iface _ d => uptoBulk d + 1
  | .map entries => uptoBulkEntries entries + 1
  | .held _ => 1
def uptoBulkAll {H : Type} : List (DataW H) → Nat
  | [] => 0
  | d :: r => uptoBulk d + uptoBulkAll r
def uptoBulkEntries {H : Type} : List (Lit × DataW H) → Nat
  | [] => 0
  | x :: r => uptoBulkEntry x + uptoBulkEntries r
def uptoBulkEntry {H : Type} : Lit × DataW H → Nat
  | (.string bytes, d) => bytes.length + uptoBulk d + 1
  | (_, d) => uptoBulk d + 1
 end
def uptoSmall : (H : Type) → List (DataW H) → Bool := fun _ ds => decide (uptoBulkAll ds ≤ 1048576)
def OpenSpec.upto (s : _root_.Go.ChangeSpec) : _root_.Go.OpenSpec := { _root_.Go.OpenSpec.ofChange s with cond := some uptoSmall }

/-- 'tarnlaw32.OpInput', WHERE WHAT IT READS IS OF BULK AT MOST 1048576: true; the input reads as it did. -/
def opInputUptoRow : OpenClaim := { program := "ytkdmnhmlkcejfaadoor", sum := "60540041fdb85cdd8a3d9a3ac6777c500dc32c9d6114cdeae36ee6f3bb0e57af", func := "tarn/tarnlaw32.OpInput", spec := "opInput", inPlace := ["internal/abi.NoEscape", "internal/bytealg.MakeNoZero"], named := ["tarn/op.says", "tarn/op.hears"], apart := false, laid := [("tarn/op.says", laid_tarn_op_says), ("tarn/op.hears", laid_tarn_op_hears)], narrowed := true }
def OpInputUptoSaid : Prop := opInputUptoRow.holds Tryd.pinned (OpenSpec.upto opInputSpec)

/-- 'tarnlaw51.TraceAll', WHERE WHAT IT READS IS OF BULK AT MOST 1048576: true; the input reads as it did. -/
def traceAllUptoRow : OpenClaim := { program := "ytkdmnhmlkcejfaadoor", sum := "60540041fdb85cdd8a3d9a3ac6777c500dc32c9d6114cdeae36ee6f3bb0e57af", func := "tarn/tarnlaw51.TraceAll", spec := "traceAll", inPlace := ["internal/abi.NoEscape"], unfollowed := true, recurses := true, named := ["tarn/crc.nibbles"], apart := false, laid := [("tarn/crc.nibbles", laid_tarn_crc_nibbles)], narrowed := true }
def TraceAllUptoSaid : Prop := traceAllUptoRow.holds Tryd.pinned (OpenSpec.upto traceAllSpec)

end Rows
end Go.Proofs.YtkdmnhmlkcejfaaDoor
