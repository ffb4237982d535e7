/-
  NARROWER THAN 'FOR EVERY INPUT', by the rows' own cells (each row's printed sentence says how): NetMost: laid · NetNone: laid · OpInput: laid · ScriptNums: laid · ScriptMost: laid · TracePuts: laid · TraceGets: laid · TraceAll: laid.
  DERIVED. THE GIVEN ROWS OF THIS SEAT. 8 by the template 'for every input the law returns true; each argument reads behind the call as it read before'; 0 by the template 'total and deterministic' (their statements: YtpekpdceagdbeaaDoorTotals.lean).
  GIVEN WITH THE SEED: the statements are not yours to turn. If you find one false, say at which input.
  Laid BY PROGRAM, IN A SANDBOX (cutbox-rows.mjs): the forced cells as the released guide's own fill.sh prints them over the translation 189b81b016fbf36d… (all of the seat's roots in one cut). By AI agents, Wed Nov 11 2026. No macro, syntax, notation, axiom, sorry.
-/
import Derived.Test.YtpekpdceagdbeaaDoorChecked
import GoSem.PinnedTables
import GoSem.Claim
import GoSem.ClaimJoined
import GoSem.ClaimMapViews
import Derived.JoinedTies
import Derived.KernelRfl
namespace Go.Proofs.YtpekpdceagdbeaaDoor
/- THE CELL 'sum', in the pinned program and in every row, IS THE sha256 OF THE DUMP (.gsa) THAT YtpekpdceagdbeaaDoorProg.lean LOADS. Nothing in Lean hashes anything: it is a label: what it is worth is what the hold of that sum in a sandbox is worth. -/
noncomputable def Tryd.pinned : Pinned := { name := "ytpekpdceagdbeaadoor", sum := "189b81b016fbf36d6a31e7211594112751d22a06dd5fa220e52ac0e726d18bab", checked := Tryd.checked }
namespace Rows
def none {H : Type} : Left H := { results := [], args := [] }

/- WHAT THE LISTED PACKAGE-LEVEL VARIABLES READ AS WHEN THE CALL BEGINS. Each datum BY PROGRAM (the guide's laid-datum.mjs) off the statement by which the dump's own 'gosem.cut.vars' lays the variable. In a bare row this is a premise. The card (YtpekpdceagdbeaaDoorCards.lean) ties it to the program's text. -/
def laid_tarn_crc_nibbles {H : Type} : DataW H := .agg [.lit (.int .u32 0), .lit (.int .u32 498536548), .lit (.int .u32 997073096), .lit (.int .u32 651767980), .lit (.int .u32 1994146192), .lit (.int .u32 1802195444), .lit (.int .u32 1303535960), .lit (.int .u32 1342533948), .lit (.int .u32 3988292384), .lit (.int .u32 4027552580), .lit (.int .u32 3604390888), .lit (.int .u32 3412177804), .lit (.int .u32 2607071920), .lit (.int .u32 2262029012), .lit (.int .u32 2685067896), .lit (.int .u32 3183342108)]
def laid_tarn_op_says {H : Type} : DataW H := .agg [.lit (.int .i64 11), .lit (.int .i64 13), .lit (.int .i64 15), .lit (.int .i64 17), .lit (.int .i64 19)]
def laid_tarn_op_hears {H : Type} : DataW H := .agg [.lit (.int .i64 12), .lit (.int .i64 14), .lit (.int .i64 16), .lit (.int .i64 18), .lit (.int .i64 20)]
def laid_math_bits_deBruijn32tab {H : Type} : DataW H := .agg [.lit (.int .u8 0), .lit (.int .u8 1), .lit (.int .u8 28), .lit (.int .u8 2), .lit (.int .u8 29), .lit (.int .u8 14), .lit (.int .u8 24), .lit (.int .u8 3), .lit (.int .u8 30), .lit (.int .u8 22), .lit (.int .u8 20), .lit (.int .u8 15), .lit (.int .u8 25), .lit (.int .u8 17), .lit (.int .u8 4), .lit (.int .u8 8), .lit (.int .u8 31), .lit (.int .u8 27), .lit (.int .u8 13), .lit (.int .u8 23), .lit (.int .u8 21), .lit (.int .u8 19), .lit (.int .u8 16), .lit (.int .u8 7), .lit (.int .u8 26), .lit (.int .u8 12), .lit (.int .u8 18), .lit (.int .u8 6), .lit (.int .u8 11), .lit (.int .u8 5), .lit (.int .u8 10), .lit (.int .u8 9)]
def laid_math_bits_deBruijn64tab {H : Type} : DataW H := .agg [.lit (.int .u8 0), .lit (.int .u8 1), .lit (.int .u8 56), .lit (.int .u8 2), .lit (.int .u8 57), .lit (.int .u8 49), .lit (.int .u8 28), .lit (.int .u8 3), .lit (.int .u8 61), .lit (.int .u8 58), .lit (.int .u8 42), .lit (.int .u8 50), .lit (.int .u8 38), .lit (.int .u8 29), .lit (.int .u8 17), .lit (.int .u8 4), .lit (.int .u8 62), .lit (.int .u8 47), .lit (.int .u8 59), .lit (.int .u8 36), .lit (.int .u8 45), .lit (.int .u8 43), .lit (.int .u8 51), .lit (.int .u8 22), .lit (.int .u8 53), .lit (.int .u8 39), .lit (.int .u8 33), .lit (.int .u8 30), .lit (.int .u8 24), .lit (.int .u8 18), .lit (.int .u8 12), .lit (.int .u8 5), .lit (.int .u8 63), .lit (.int .u8 55), .lit (.int .u8 48), .lit (.int .u8 27), .lit (.int .u8 60), .lit (.int .u8 41), .lit (.int .u8 37), .lit (.int .u8 16), .lit (.int .u8 46), .lit (.int .u8 35), .lit (.int .u8 44), .lit (.int .u8 21), .lit (.int .u8 52), .lit (.int .u8 32), .lit (.int .u8 23), .lit (.int .u8 11), .lit (.int .u8 54), .lit (.int .u8 26), .lit (.int .u8 40), .lit (.int .u8 15), .lit (.int .u8 34), .lit (.int .u8 20), .lit (.int .u8 31), .lit (.int .u8 10), .lit (.int .u8 25), .lit (.int .u8 14), .lit (.int .u8 19), .lit (.int .u8 9), .lit (.int .u8 13), .lit (.int .u8 8), .lit (.int .u8 7), .lit (.int .u8 6)]
def laid_internal_strconv_uint64pow10 {H : Type} : DataW H := .agg [.lit (.int .u64 1), .lit (.int .u64 10), .lit (.int .u64 100), .lit (.int .u64 1000), .lit (.int .u64 10000), .lit (.int .u64 100000), .lit (.int .u64 1000000), .lit (.int .u64 10000000), .lit (.int .u64 100000000), .lit (.int .u64 1000000000), .lit (.int .u64 10000000000), .lit (.int .u64 100000000000), .lit (.int .u64 1000000000000), .lit (.int .u64 10000000000000), .lit (.int .u64 100000000000000), .lit (.int .u64 1000000000000000), .lit (.int .u64 10000000000000000), .lit (.int .u64 100000000000000000), .lit (.int .u64 1000000000000000000), .lit (.int .u64 10000000000000000000)]
def laid_unicode_utf8_acceptRanges {H : Type} : DataW H := .agg [.agg [.lit (.int .u8 128), .lit (.int .u8 191)], .agg [.lit (.int .u8 160), .lit (.int .u8 191)], .agg [.lit (.int .u8 128), .lit (.int .u8 159)], .agg [.lit (.int .u8 144), .lit (.int .u8 191)], .agg [.lit (.int .u8 128), .lit (.int .u8 143)], .agg [.lit (.int .u8 0), .lit (.int .u8 0)], .agg [.lit (.int .u8 0), .lit (.int .u8 0)], .agg [.lit (.int .u8 0), .lit (.int .u8 0)], .agg [.lit (.int .u8 0), .lit (.int .u8 0)], .agg [.lit (.int .u8 0), .lit (.int .u8 0)], .agg [.lit (.int .u8 0), .lit (.int .u8 0)], .agg [.lit (.int .u8 0), .lit (.int .u8 0)], .agg [.lit (.int .u8 0), .lit (.int .u8 0)], .agg [.lit (.int .u8 0), .lit (.int .u8 0)], .agg [.lit (.int .u8 0), .lit (.int .u8 0)], .agg [.lit (.int .u8 0), .lit (.int .u8 0)]]
def laid_strconv_ErrRange {H : Type} : DataW H := .iface "*errors.errorString" (.ptr (.agg [.lit (.string [118, 97, 108, 117, 101, 32, 111, 117, 116, 32, 111, 102, 32, 114, 97, 110, 103, 101])]))
def laid_strconv_ErrSyntax {H : Type} : DataW H := .iface "*errors.errorString" (.ptr (.agg [.lit (.string [105, 110, 118, 97, 108, 105, 100, 32, 115, 121, 110, 116, 97, 120])]))
def laid_tarn_script_verbs {H : Type} : DataW H := .agg [.lit (.string [97, 115, 107]), .lit (.string [116, 97, 107, 101]), .lit (.string [115, 101, 116, 116, 108, 101]), .lit (.string [100, 101, 108, 105, 118, 101, 114]), .lit (.string [100, 114, 111, 112]), .lit (.string [100, 111, 117, 98, 108, 101]), .lit (.string [106, 117, 110, 107]), .lit (.string [116, 105, 99, 107]), .lit (.string [115, 121, 110, 99]), .lit (.string [99, 114, 97, 115, 104]), .lit (.string [115, 116, 97, 114, 116]), .lit (.string [119, 105, 112, 101])]
/-- One of Go's own tables, pinned by name: the form's constant. -/
def laid_unicode_utf8_first : DataW Unit := Go.Pinned.utf8First

/-- 'tarnlaw15.NetMost': WHATEVER THE INPUT: true; the input reads as it did. -/
def netMostSpec : ChangeSpec := { name := "netMost", fn := fun _ => fun
  | [d] => { results := [.lit (.bool true)], args := [d] }
  | _ => none }
def netMostRow : OpenClaim := { program := "ytpekpdceagdbeaadoor", sum := "189b81b016fbf36d6a31e7211594112751d22a06dd5fa220e52ac0e726d18bab", func := "tarn/tarnlaw15.NetMost", spec := "netMost", inPlace := ["internal/abi.NoEscape", "internal/bytealg.MakeNoZero"], unfollowed := true, recurses := true, named := ["tarn/crc.nibbles"], apart := false, laid := [("tarn/crc.nibbles", laid_tarn_crc_nibbles)] }
def NetMostSaid : Prop := netMostRow.holds Tryd.pinned (OpenSpec.ofChange netMostSpec)

/-- ITS FALSE NEIGHBOUR: 'it returns false'. Refute it at one input. -/
def netMostWrong : ChangeSpec := { name := "netMost", fn := fun _ => fun
  | [d] => { results := [.lit (.bool false)], args := [d] }
  | _ => none }
def NetMostWrongFalsely : Prop := netMostRow.holds Tryd.pinned (OpenSpec.ofChange netMostWrong)

/-- 'tarnlaw15.NetNone': WHATEVER THE INPUT: true; the input reads as it did. -/
def netNoneSpec : ChangeSpec := { name := "netNone", fn := fun _ => fun
  | [d1, d2] => { results := [.lit (.bool true)], args := [d1, d2] }
  | _ => none }
def netNoneRow : OpenClaim := { program := "ytpekpdceagdbeaadoor", sum := "189b81b016fbf36d6a31e7211594112751d22a06dd5fa220e52ac0e726d18bab", func := "tarn/tarnlaw15.NetNone", spec := "netNone", inPlace := ["internal/abi.NoEscape", "internal/bytealg.MakeNoZero"], unfollowed := true, recurses := true, named := ["tarn/crc.nibbles"], apart := false, laid := [("tarn/crc.nibbles", laid_tarn_crc_nibbles)] }
def NetNoneSaid : Prop := netNoneRow.holds Tryd.pinned (OpenSpec.ofChange netNoneSpec)

/-- ITS FALSE NEIGHBOUR: 'it returns false'. Refute it at one input. -/
def netNoneWrong : ChangeSpec := { name := "netNone", fn := fun _ => fun
  | [d1, d2] => { results := [.lit (.bool false)], args := [d1, d2] }
  | _ => none }
def NetNoneWrongFalsely : Prop := netNoneRow.holds Tryd.pinned (OpenSpec.ofChange netNoneWrong)

/-- 'tarnlaw32.OpInput': WHATEVER THE INPUT: true; the input reads as it did. -/
def opInputSpec : ChangeSpec := { name := "opInput", fn := fun _ => fun
  | [d1, d2, d3] => { results := [.lit (.bool true)], args := [d1, d2, d3] }
  | _ => none }
def opInputRow : OpenClaim := { program := "ytpekpdceagdbeaadoor", sum := "189b81b016fbf36d6a31e7211594112751d22a06dd5fa220e52ac0e726d18bab", func := "tarn/tarnlaw32.OpInput", spec := "opInput", inPlace := ["internal/abi.NoEscape", "internal/bytealg.MakeNoZero"], named := ["tarn/op.says", "tarn/op.hears"], apart := false, laid := [("tarn/op.says", laid_tarn_op_says), ("tarn/op.hears", laid_tarn_op_hears)] }
def OpInputSaid : Prop := opInputRow.holds Tryd.pinned (OpenSpec.ofChange opInputSpec)

/-- ITS FALSE NEIGHBOUR: 'it returns false'. Refute it at one input. -/
def opInputWrong : ChangeSpec := { name := "opInput", fn := fun _ => fun
  | [d1, d2, d3] => { results := [.lit (.bool false)], args := [d1, d2, d3] }
  | _ => none }
def OpInputWrongFalsely : Prop := opInputRow.holds Tryd.pinned (OpenSpec.ofChange opInputWrong)

/-- 'tarnlaw46.ScriptNums': WHATEVER THE INPUT: true; the input reads as it did. -/
def scriptNumsSpec : ChangeSpec := { name := "scriptNums", fn := fun _ => fun
  | [d1, d2] => { results := [.lit (.bool true)], args := [d1, d2] }
  | _ => none }
def scriptNumsRow : OpenClaim := { program := "ytpekpdceagdbeaadoor", sum := "189b81b016fbf36d6a31e7211594112751d22a06dd5fa220e52ac0e726d18bab", func := "tarn/tarnlaw46.ScriptNums", spec := "scriptNums", inPlace := ["internal/bytealg.CountString", "internal/bytealg.IndexByteString", "internal/bytealg.IndexString", "internal/abi.NoEscape", "internal/bytealg.MakeNoZero"], named := ["internal/strconv.uint64pow10", "math/bits.deBruijn32tab", "math/bits.deBruijn64tab", "unicode/utf8.first", "unicode/utf8.acceptRanges", "internal/bytealg.MaxLen", "tarn/script.verbs", "strconv.ErrSyntax", "strconv.ErrRange"], apart := false, laid := [("math/bits.deBruijn32tab", laid_math_bits_deBruijn32tab), ("math/bits.deBruijn64tab", laid_math_bits_deBruijn64tab), ("internal/strconv.uint64pow10", laid_internal_strconv_uint64pow10), ("unicode/utf8.acceptRanges", laid_unicode_utf8_acceptRanges), ("strconv.ErrRange", laid_strconv_ErrRange), ("strconv.ErrSyntax", laid_strconv_ErrSyntax), ("tarn/script.verbs", laid_tarn_script_verbs), ("unicode/utf8.first", laid_unicode_utf8_first)] }
def ScriptNumsSaid : Prop := scriptNumsRow.holds Tryd.pinned (OpenSpec.ofChange scriptNumsSpec)

/-- ITS FALSE NEIGHBOUR: 'it returns false'. Refute it at one input. -/
def scriptNumsWrong : ChangeSpec := { name := "scriptNums", fn := fun _ => fun
  | [d1, d2] => { results := [.lit (.bool false)], args := [d1, d2] }
  | _ => none }
def ScriptNumsWrongFalsely : Prop := scriptNumsRow.holds Tryd.pinned (OpenSpec.ofChange scriptNumsWrong)

/-- 'tarnlaw46.ScriptMost': WHATEVER THE INPUT: true; the input reads as it did. -/
def scriptMostSpec : ChangeSpec := { name := "scriptMost", fn := fun _ => fun
  | [d] => { results := [.lit (.bool true)], args := [d] }
  | _ => none }
def scriptMostRow : OpenClaim := { program := "ytpekpdceagdbeaadoor", sum := "189b81b016fbf36d6a31e7211594112751d22a06dd5fa220e52ac0e726d18bab", func := "tarn/tarnlaw46.ScriptMost", spec := "scriptMost", inPlace := ["internal/bytealg.CountString", "internal/bytealg.IndexByteString", "internal/bytealg.IndexString", "internal/abi.NoEscape", "internal/bytealg.MakeNoZero"], named := ["unicode/utf8.first", "unicode/utf8.acceptRanges", "internal/bytealg.MaxLen", "tarn/script.verbs", "strconv.ErrSyntax", "strconv.ErrRange", "internal/strconv.uint64pow10", "math/bits.deBruijn32tab", "math/bits.deBruijn64tab"], apart := false, laid := [("math/bits.deBruijn32tab", laid_math_bits_deBruijn32tab), ("math/bits.deBruijn64tab", laid_math_bits_deBruijn64tab), ("internal/strconv.uint64pow10", laid_internal_strconv_uint64pow10), ("unicode/utf8.acceptRanges", laid_unicode_utf8_acceptRanges), ("strconv.ErrRange", laid_strconv_ErrRange), ("strconv.ErrSyntax", laid_strconv_ErrSyntax), ("tarn/script.verbs", laid_tarn_script_verbs), ("unicode/utf8.first", laid_unicode_utf8_first)] }
def ScriptMostSaid : Prop := scriptMostRow.holds Tryd.pinned (OpenSpec.ofChange scriptMostSpec)

/-- ITS FALSE NEIGHBOUR: 'it returns false'. Refute it at one input. -/
def scriptMostWrong : ChangeSpec := { name := "scriptMost", fn := fun _ => fun
  | [d] => { results := [.lit (.bool false)], args := [d] }
  | _ => none }
def ScriptMostWrongFalsely : Prop := scriptMostRow.holds Tryd.pinned (OpenSpec.ofChange scriptMostWrong)

/-- 'tarnlaw51.TracePuts': WHATEVER THE INPUT: true; the input reads as it did. -/
def tracePutsSpec : ChangeSpec := { name := "tracePuts", fn := fun _ => fun
  | [d1, d2] => { results := [.lit (.bool true)], args := [d1, d2] }
  | _ => none }
def tracePutsRow : OpenClaim := { program := "ytpekpdceagdbeaadoor", sum := "189b81b016fbf36d6a31e7211594112751d22a06dd5fa220e52ac0e726d18bab", func := "tarn/tarnlaw51.TracePuts", spec := "tracePuts", unfollowed := true, recurses := true, named := ["tarn/crc.nibbles"], apart := false, laid := [("tarn/crc.nibbles", laid_tarn_crc_nibbles)] }
def TracePutsSaid : Prop := tracePutsRow.holds Tryd.pinned (OpenSpec.ofChange tracePutsSpec)

/-- ITS FALSE NEIGHBOUR: 'it returns false'. Refute it at one input. -/
def tracePutsWrong : ChangeSpec := { name := "tracePuts", fn := fun _ => fun
  | [d1, d2] => { results := [.lit (.bool false)], args := [d1, d2] }
  | _ => none }
def TracePutsWrongFalsely : Prop := tracePutsRow.holds Tryd.pinned (OpenSpec.ofChange tracePutsWrong)

/-- 'tarnlaw51.TraceGets': WHATEVER THE INPUT: true; the input reads as it did. -/
def traceGetsSpec : ChangeSpec := { name := "traceGets", fn := fun _ => fun
  | [d1, d2, d3] => { results := [.lit (.bool true)], args := [d1, d2, d3] }
  | _ => none }
def traceGetsRow : OpenClaim := { program := "ytpekpdceagdbeaadoor", sum := "189b81b016fbf36d6a31e7211594112751d22a06dd5fa220e52ac0e726d18bab", func := "tarn/tarnlaw51.TraceGets", spec := "traceGets", unfollowed := true, recurses := true, named := ["tarn/crc.nibbles"], apart := false, laid := [("tarn/crc.nibbles", laid_tarn_crc_nibbles)] }
def TraceGetsSaid : Prop := traceGetsRow.holds Tryd.pinned (OpenSpec.ofChange traceGetsSpec)

/-- ITS FALSE NEIGHBOUR: 'it returns false'. Refute it at one input. -/
def traceGetsWrong : ChangeSpec := { name := "traceGets", fn := fun _ => fun
  | [d1, d2, d3] => { results := [.lit (.bool false)], args := [d1, d2, d3] }
  | _ => none }
def TraceGetsWrongFalsely : Prop := traceGetsRow.holds Tryd.pinned (OpenSpec.ofChange traceGetsWrong)

/-- 'tarnlaw51.TraceAll': WHATEVER THE INPUT: true; the input reads as it did. -/
def traceAllSpec : ChangeSpec := { name := "traceAll", fn := fun _ => fun
  | [d1, d2] => { results := [.lit (.bool true)], args := [d1, d2] }
  | _ => none }
def traceAllRow : OpenClaim := { program := "ytpekpdceagdbeaadoor", sum := "189b81b016fbf36d6a31e7211594112751d22a06dd5fa220e52ac0e726d18bab", func := "tarn/tarnlaw51.TraceAll", spec := "traceAll", inPlace := ["internal/abi.NoEscape"], unfollowed := true, recurses := true, named := ["tarn/crc.nibbles"], apart := false, laid := [("tarn/crc.nibbles", laid_tarn_crc_nibbles)] }
def TraceAllSaid : Prop := traceAllRow.holds Tryd.pinned (OpenSpec.ofChange traceAllSpec)

/-- ITS FALSE NEIGHBOUR: 'it returns false'. Refute it at one input. -/
def traceAllWrong : ChangeSpec := { name := "traceAll", fn := fun _ => fun
  | [d1, d2] => { results := [.lit (.bool false)], args := [d1, d2] }
  | _ => none }
def TraceAllWrongFalsely : Prop := traceAllRow.holds Tryd.pinned (OpenSpec.ofChange traceAllWrong)

/- THE SECOND FORM. 'bulk': how many values and letters a reading holds, each counted each time it is reached (what is shared counts as often as it is met; a slice's spare places count too). A statement '..UptoSaid' is the law's where the arguments, and the package variables that the reading takes, are together of bulk at most 1048576: NARROWER than '..Said'. Prove '..Said' where nothing that the law and all that it calls make is longer than what came in: it says more and counts as full. Else prove '..UptoSaid'. A law counts once. -/
mutual
def uptoBulk {H : Type} : DataW H → Nat
  | .lit (.string bytes) => bytes.length + 1
  | .lit _ => 1
  | .nil => 1
  | .ptr d => uptoBulk d + 1
  | .slice elems spare => uptoBulkAll elems + uptoBulkAll spare + 1
  | .agg parts => uptoBulkAll parts + 1
  | .iface _ d => uptoBulk d + 1
  | .map entries => uptoBulkEntries entries + 1
  | .held _ => 1
def uptoBulkAll {H : Type} : List (DataW H) → Nat
  | [] => 0
  | d :: r => uptoBulk d + uptoBulkAll r
def uptoBulkEntries {H : Type} : List (Lit × DataW H) → Nat
  | [] => 0
  | x :: r => uptoBulkEntry x + uptoBulkEntries r
def uptoBulkEntry {H : Type} : Lit × DataW H → Nat
  | (.string bytes, d) => bytes.length + uptoBulk d + 1
  | (_, d) => uptoBulk d + 1
 end
def uptoSmall : (H : Type) → List (DataW H) → Bool := fun _ ds => decide (uptoBulkAll ds ≤ 1048576)
def OpenSpec.upto (s : _root_.Go.ChangeSpec) : _root_.Go.OpenSpec := { _root_.Go.OpenSpec.ofChange s with cond := some uptoSmall }

/-- 'tarnlaw15.NetMost', WHERE WHAT IT READS IS OF BULK AT MOST 1048576: true; the input reads as it did. -/
def netMostUptoRow : OpenClaim := { program := "ytpekpdceagdbeaadoor", sum := "189b81b016fbf36d6a31e7211594112751d22a06dd5fa220e52ac0e726d18bab", func := "tarn/tarnlaw15.NetMost", spec := "netMost", inPlace := ["internal/abi.NoEscape", "internal/bytealg.MakeNoZero"], unfollowed := true, recurses := true, named := ["tarn/crc.nibbles"], apart := false, laid := [("tarn/crc.nibbles", laid_tarn_crc_nibbles)], narrowed := true }
def NetMostUptoSaid : Prop := netMostUptoRow.holds Tryd.pinned (OpenSpec.upto netMostSpec)

/-- 'tarnlaw15.NetNone', WHERE WHAT IT READS IS OF BULK AT MOST 1048576: true; the input reads as it did. -/
def netNoneUptoRow : OpenClaim := { program := "ytpekpdceagdbeaadoor", sum := "189b81b016fbf36d6a31e7211594112751d22a06dd5fa220e52ac0e726d18bab", func := "tarn/tarnlaw15.NetNone", spec := "netNone", inPlace := ["internal/abi.NoEscape", "internal/bytealg.MakeNoZero"], unfollowed := true, recurses := true, named := ["tarn/crc.nibbles"], apart := false, laid := [("tarn/crc.nibbles", laid_tarn_crc_nibbles)], narrowed := true }
def NetNoneUptoSaid : Prop := netNoneUptoRow.holds Tryd.pinned (OpenSpec.upto netNoneSpec)

/-- 'tarnlaw32.OpInput', WHERE WHAT IT READS IS OF BULK AT MOST 1048576: true; the input reads as it did. -/
def opInputUptoRow : OpenClaim := { program := "ytpekpdceagdbeaadoor", sum := "189b81b016fbf36d6a31e7211594112751d22a06dd5fa220e52ac0e726d18bab", func := "tarn/tarnlaw32.OpInput", spec := "opInput", inPlace := ["internal/abi.NoEscape", "internal/bytealg.MakeNoZero"], named := ["tarn/op.says", "tarn/op.hears"], apart := false, laid := [("tarn/op.says", laid_tarn_op_says), ("tarn/op.hears", laid_tarn_op_hears)], narrowed := true }
def OpInputUptoSaid : Prop := opInputUptoRow.holds Tryd.pinned (OpenSpec.upto opInputSpec)

/-- 'tarnlaw46.ScriptNums', WHERE WHAT IT READS IS OF BULK AT MOST 1048576: true; the input reads as it did. -/
def scriptNumsUptoRow : OpenClaim := { program := "ytpekpdceagdbeaadoor", sum := "189b81b016fbf36d6a31e7211594112751d22a06dd5fa220e52ac0e726d18bab", func := "tarn/tarnlaw46.ScriptNums", spec := "scriptNums", inPlace := ["internal/bytealg.CountString", "internal/bytealg.IndexByteString", "internal/bytealg.IndexString", "internal/abi.NoEscape", "internal/bytealg.MakeNoZero"], named := ["internal/strconv.uint64pow10", "math/bits.deBruijn32tab", "math/bits.deBruijn64tab", "unicode/utf8.first", "unicode/utf8.acceptRanges", "internal/bytealg.MaxLen", "tarn/script.verbs", "strconv.ErrSyntax", "strconv.ErrRange"], apart := false, laid := [("math/bits.deBruijn32tab", laid_math_bits_deBruijn32tab), ("math/bits.deBruijn64tab", laid_math_bits_deBruijn64tab), ("internal/strconv.uint64pow10", laid_internal_strconv_uint64pow10), ("unicode/utf8.acceptRanges", laid_unicode_utf8_acceptRanges), ("strconv.ErrRange", laid_strconv_ErrRange), ("strconv.ErrSyntax", laid_strconv_ErrSyntax), ("tarn/script.verbs", laid_tarn_script_verbs), ("unicode/utf8.first", laid_unicode_utf8_first)], narrowed := true }
def ScriptNumsUptoSaid : Prop := scriptNumsUptoRow.holds Tryd.pinned (OpenSpec.upto scriptNumsSpec)

/-- 'tarnlaw46.ScriptMost', WHERE WHAT IT READS IS OF BULK AT MOST 1048576: true; the input reads as it did. -/
def scriptMostUptoRow : OpenClaim := { program := "ytpekpdceagdbeaadoor", sum := "189b81b016fbf36d6a31e7211594112751d22a06dd5fa220e52ac0e726d18bab", func := "tarn/tarnlaw46.ScriptMost", spec := "scriptMost", inPlace := ["internal/bytealg.CountString", "internal/bytealg.IndexByteString", "internal/bytealg.IndexString", "internal/abi.NoEscape", "internal/bytealg.MakeNoZero"], named := ["unicode/utf8.first", "unicode/utf8.acceptRanges", "internal/bytealg.MaxLen", "tarn/script.verbs", "strconv.ErrSyntax", "strconv.ErrRange", "internal/strconv.uint64pow10", "math/bits.deBruijn32tab", "math/bits.deBruijn64tab"], apart := false, laid := [("math/bits.deBruijn32tab", laid_math_bits_deBruijn32tab), ("math/bits.deBruijn64tab", laid_math_bits_deBruijn64tab), ("internal/strconv.uint64pow10", laid_internal_strconv_uint64pow10), ("unicode/utf8.acceptRanges", laid_unicode_utf8_acceptRanges), ("strconv.ErrRange", laid_strconv_ErrRange), ("strconv.ErrSyntax", laid_strconv_ErrSyntax), ("tarn/script.verbs", laid_tarn_script_verbs), ("unicode/utf8.first", laid_unicode_utf8_first)], narrowed := true }
def ScriptMostUptoSaid : Prop := scriptMostUptoRow.holds Tryd.pinned (OpenSpec.upto scriptMostSpec)

/-- 'tarnlaw51.TracePuts', WHERE WHAT IT READS IS OF BULK AT MOST 1048576: true; the input reads as it did. -/
def tracePutsUptoRow : OpenClaim := { program := "ytpekpdceagdbeaadoor", sum := "189b81b016fbf36d6a31e7211594112751d22a06dd5fa220e52ac0e726d18bab", func := "tarn/tarnlaw51.TracePuts", spec := "tracePuts", unfollowed := true, recurses := true, named := ["tarn/crc.nibbles"], apart := false, laid := [("tarn/crc.nibbles", laid_tarn_crc_nibbles)], narrowed := true }
def TracePutsUptoSaid : Prop := tracePutsUptoRow.holds Tryd.pinned (OpenSpec.upto tracePutsSpec)

/-- 'tarnlaw51.TraceGets', WHERE WHAT IT READS IS OF BULK AT MOST 1048576: true; the input reads as it did. -/
def traceGetsUptoRow : OpenClaim := { program := "ytpekpdceagdbeaadoor", sum := "189b81b016fbf36d6a31e7211594112751d22a06dd5fa220e52ac0e726d18bab", func := "tarn/tarnlaw51.TraceGets", spec := "traceGets", unfollowed := true, recurses := true, named := ["tarn/crc.nibbles"], apart := false, laid := [("tarn/crc.nibbles", laid_tarn_crc_nibbles)], narrowed := true }
def TraceGetsUptoSaid : Prop := traceGetsUptoRow.holds Tryd.pinned (OpenSpec.upto traceGetsSpec)

/-- 'tarnlaw51.TraceAll', WHERE WHAT IT READS IS OF BULK AT MOST 1048576: true; the input reads as it did. -/
def traceAllUptoRow : OpenClaim := { program := "ytpekpdceagdbeaadoor", sum := "189b81b016fbf36d6a31e7211594112751d22a06dd5fa220e52ac0e726d18bab", func := "tarn/tarnlaw51.TraceAll", spec := "traceAll", inPlace := ["internal/abi.NoEscape"], unfollowed := true, recurses := true, named := ["tarn/crc.nibbles"], apart := false, laid := [("tarn/crc.nibbles", laid_tarn_crc_nibbles)], narrowed := true }
def TraceAllUptoSaid : Prop := traceAllUptoRow.holds Tryd.pinned (OpenSpec.upto traceAllSpec)

end Rows
end Go.Proofs.YtpekpdceagdbeaaDoor
