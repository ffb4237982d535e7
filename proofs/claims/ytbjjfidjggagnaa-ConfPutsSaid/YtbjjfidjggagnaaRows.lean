/-
  No cell of these rows narrows 'for every input' (looked for: loops, veiled, ifaces, maps, wideKeys, modest, calm, conditions, laid).
  DERIVED. THE GIVEN ROWS OF THIS SEAT. 5 by the template 'for every input the law returns true; each argument reads behind the call as it read before'; 0 by the template 'total and deterministic' (their statements: YtbjjfidjggagnaaTotals.lean).
  GIVEN WITH THE SEED: the statements are not yours to turn. If you find one false, say at which input.
  Laid BY PROGRAM, IN A SANDBOX (cutbox-rows.mjs): the forced cells as the released guide's own fill.sh prints them over the translation 7d545f1b8db8918c… (all of the seat's roots in one cut). By AI agents, Wed Nov 11 2026. No macro, syntax, notation, axiom, sorry.
-/
import Derived.Test.YtbjjfidjggagnaaChecked
import GoSem.Claim
import GoSem.ClaimJoined
import GoSem.ClaimMapViews
import Derived.JoinedTies
import Derived.KernelRfl
namespace Go.Proofs.Ytbjjfidjggagnaa
/- THE CELL 'sum', in the pinned program and in every row, IS THE sha256 OF THE DUMP (.gsa) THAT YtbjjfidjggagnaaProg.lean LOADS. Nothing in Lean hashes anything: it is a label: what it is worth is what the hold of that sum in a sandbox is worth. -/
noncomputable def Try.pinned : Pinned := { name := "ytbjjfidjggagnaa", sum := "7d545f1b8db8918ccc4042f400aa43bd60fc11c4c4fbe9d2f096e7d9b7d15fae", checked := Try.checked }
namespace Rows
def none {H : Type} : Left H := { results := [], args := [] }

/-- 'tarnlaw11.ConfPuts': WHATEVER THE INPUT: true; the input reads as it did. -/
def confPutsSpec : ChangeSpec := { name := "confPuts", fn := fun _ => fun
  | [d1, d2] => { results := [.lit (.bool true)], args := [d1, d2] }
  | _ => none }
def confPutsRow : OpenClaim := { program := "ytbjjfidjggagnaa", sum := "7d545f1b8db8918ccc4042f400aa43bd60fc11c4c4fbe9d2f096e7d9b7d15fae", func := "tarn/tarnlaw11.ConfPuts", spec := "confPuts", recurses := true, apart := false }
def ConfPutsSaid : Prop := confPutsRow.holds Try.pinned (OpenSpec.ofChange confPutsSpec)

/-- ITS FALSE NEIGHBOUR: 'it returns false'. Refute it at one input. -/
def confPutsWrong : ChangeSpec := { name := "confPuts", fn := fun _ => fun
  | [d1, d2] => { results := [.lit (.bool false)], args := [d1, d2] }
  | _ => none }
def ConfPutsWrongFalsely : Prop := confPutsRow.holds Try.pinned (OpenSpec.ofChange confPutsWrong)

/-- 'tarnlaw12.DecideTakes': WHATEVER THE INPUT: true; the input reads as it did. -/
def decideTakesSpec : ChangeSpec := { name := "decideTakes", fn := fun _ => fun
  | [d1, d2, d3] => { results := [.lit (.bool true)], args := [d1, d2, d3] }
  | _ => none }
def decideTakesRow : OpenClaim := { program := "ytbjjfidjggagnaa", sum := "7d545f1b8db8918ccc4042f400aa43bd60fc11c4c4fbe9d2f096e7d9b7d15fae", func := "tarn/tarnlaw12.DecideTakes", spec := "decideTakes", recurses := true, apart := false }
def DecideTakesSaid : Prop := decideTakesRow.holds Try.pinned (OpenSpec.ofChange decideTakesSpec)

/-- ITS FALSE NEIGHBOUR: 'it returns false'. Refute it at one input. -/
def decideTakesWrong : ChangeSpec := { name := "decideTakes", fn := fun _ => fun
  | [d1, d2, d3] => { results := [.lit (.bool false)], args := [d1, d2, d3] }
  | _ => none }
def DecideTakesWrongFalsely : Prop := decideTakesRow.holds Try.pinned (OpenSpec.ofChange decideTakesWrong)

/-- 'tarnlaw13.EntryGets': WHATEVER THE INPUT: true; the input reads as it did. -/
def entryGetsSpec : ChangeSpec := { name := "entryGets", fn := fun _ => fun
  | [d1, d2, d3] => { results := [.lit (.bool true)], args := [d1, d2, d3] }
  | _ => none }
def entryGetsRow : OpenClaim := { program := "ytbjjfidjggagnaa", sum := "7d545f1b8db8918ccc4042f400aa43bd60fc11c4c4fbe9d2f096e7d9b7d15fae", func := "tarn/tarnlaw13.EntryGets", spec := "entryGets", recurses := true, apart := false }
def EntryGetsSaid : Prop := entryGetsRow.holds Try.pinned (OpenSpec.ofChange entryGetsSpec)

/-- ITS FALSE NEIGHBOUR: 'it returns false'. Refute it at one input. -/
def entryGetsWrong : ChangeSpec := { name := "entryGets", fn := fun _ => fun
  | [d1, d2, d3] => { results := [.lit (.bool false)], args := [d1, d2, d3] }
  | _ => none }
def EntryGetsWrongFalsely : Prop := entryGetsRow.holds Try.pinned (OpenSpec.ofChange entryGetsWrong)

/-- 'tarnlaw13.EntryEqual': WHATEVER THE INPUT: true; the input reads as it did. -/
def entryEqualSpec : ChangeSpec := { name := "entryEqual", fn := fun _ => fun
  | [d1, d2, d3] => { results := [.lit (.bool true)], args := [d1, d2, d3] }
  | _ => none }
def entryEqualRow : OpenClaim := { program := "ytbjjfidjggagnaa", sum := "7d545f1b8db8918ccc4042f400aa43bd60fc11c4c4fbe9d2f096e7d9b7d15fae", func := "tarn/tarnlaw13.EntryEqual", spec := "entryEqual", unfollowed := true, recurses := true, apart := false }
def EntryEqualSaid : Prop := entryEqualRow.holds Try.pinned (OpenSpec.ofChange entryEqualSpec)

/-- ITS FALSE NEIGHBOUR: 'it returns false'. Refute it at one input. -/
def entryEqualWrong : ChangeSpec := { name := "entryEqual", fn := fun _ => fun
  | [d1, d2, d3] => { results := [.lit (.bool false)], args := [d1, d2, d3] }
  | _ => none }
def EntryEqualWrongFalsely : Prop := entryEqualRow.holds Try.pinned (OpenSpec.ofChange entryEqualWrong)

/-- 'tarnlaw16.RlogPlays': WHATEVER THE INPUT: true; the input reads as it did. -/
def rlogPlaysSpec : ChangeSpec := { name := "rlogPlays", fn := fun _ => fun
  | [d] => { results := [.lit (.bool true)], args := [d] }
  | _ => none }
def rlogPlaysRow : OpenClaim := { program := "ytbjjfidjggagnaa", sum := "7d545f1b8db8918ccc4042f400aa43bd60fc11c4c4fbe9d2f096e7d9b7d15fae", func := "tarn/tarnlaw16.RlogPlays", spec := "rlogPlays", apart := false }
def RlogPlaysSaid : Prop := rlogPlaysRow.holds Try.pinned (OpenSpec.ofChange rlogPlaysSpec)

/-- ITS FALSE NEIGHBOUR: 'it returns false'. Refute it at one input. -/
def rlogPlaysWrong : ChangeSpec := { name := "rlogPlays", fn := fun _ => fun
  | [d] => { results := [.lit (.bool false)], args := [d] }
  | _ => none }
def RlogPlaysWrongFalsely : Prop := rlogPlaysRow.holds Try.pinned (OpenSpec.ofChange rlogPlaysWrong)

/- THE SECOND FORM. 'bulk': how many values and letters a reading holds, each counted each time it is reached (what is shared counts as often as it is met; a slice's spare places count too). A statement '..UptoSaid' is the law's where the arguments, and the package variables that the reading takes, are together of bulk at most 1048576: NARROWER than '..Said'. Prove '..Said' where nothing that the law and all that it calls make is longer than what came in: it says more and counts as full. Else prove '..UptoSaid'. A law counts once. -/
mutual
def uptoBulk {H : Type} : DataW H → Nat
  | .lit (.string bytes) => bytes.length + 1
  | .lit _ => 1
  | .nil => 1
  | .ptr d => uptoBulk d + 1
  | .slice elems spare => uptoBulkAll elems + uptoBulkAll spare + 1
  | .agg parts => uptoBulkAll parts + 1
  | .iface _ d => uptoBulk d + 1
  | .map entries => uptoBulkEntries entries + 1
  | .held _ => 1
def uptoBulkAll {H : Type} : List (DataW H) → Nat
  | [] => 0
  | d :: r => uptoBulk d + uptoBulkAll r
def uptoBulkEntries {H : Type} : List (Lit × DataW H) → Nat
  | [] => 0
  | x :: r => uptoBulkEntry x + uptoBulkEntries r
def uptoBulkEntry {H : Type} : Lit × DataW H → Nat
  | (.string bytes, d) => bytes.length + uptoBulk d + 1
  | (_, d) => uptoBulk d + 1
 end
def uptoSmall : (H : Type) → List (DataW H) → Bool := fun _ ds => decide (uptoBulkAll ds ≤ 1048576)
def OpenSpec.upto (s : _root_.Go.ChangeSpec) : _root_.Go.OpenSpec := { _root_.Go.OpenSpec.ofChange s with cond := some uptoSmall }

/-- 'tarnlaw11.ConfPuts', WHERE WHAT IT READS IS OF BULK AT MOST 1048576: true; the input reads as it did. -/
def confPutsUptoRow : OpenClaim := { program := "ytbjjfidjggagnaa", sum := "7d545f1b8db8918ccc4042f400aa43bd60fc11c4c4fbe9d2f096e7d9b7d15fae", func := "tarn/tarnlaw11.ConfPuts", spec := "confPuts", recurses := true, apart := false, narrowed := true }
def ConfPutsUptoSaid : Prop := confPutsUptoRow.holds Try.pinned (OpenSpec.upto confPutsSpec)

/-- 'tarnlaw12.DecideTakes', WHERE WHAT IT READS IS OF BULK AT MOST 1048576: true; the input reads as it did. -/
def decideTakesUptoRow : OpenClaim := { program := "ytbjjfidjggagnaa", sum := "7d545f1b8db8918ccc4042f400aa43bd60fc11c4c4fbe9d2f096e7d9b7d15fae", func := "tarn/tarnlaw12.DecideTakes", spec := "decideTakes", recurses := true, apart := false, narrowed := true }
def DecideTakesUptoSaid : Prop := decideTakesUptoRow.holds Try.pinned (OpenSpec.upto decideTakesSpec)

/-- 'tarnlaw13.EntryGets', WHERE WHAT IT READS IS OF BULK AT MOST 1048576: true; the input reads as it did. -/
def entryGetsUptoRow : OpenClaim := { program := "ytbjjfidjggagnaa", sum := "7d545f1b8db8918ccc4042f400aa43bd60fc11c4c4fbe9d2f096e7d9b7d15fae", func := "tarn/tarnlaw13.EntryGets", spec := "entryGets", recurses := true, apart := false, narrowed := true }
def EntryGetsUptoSaid : Prop := entryGetsUptoRow.holds Try.pinned (OpenSpec.upto entryGetsSpec)

/-- 'tarnlaw13.EntryEqual', WHERE WHAT IT READS IS OF BULK AT MOST 1048576: true; the input reads as it did. -/
def entryEqualUptoRow : OpenClaim := { program := "ytbjjfidjggagnaa", sum := "7d545f1b8db8918ccc4042f400aa43bd60fc11c4c4fbe9d2f096e7d9b7d15fae", func := "tarn/tarnlaw13.EntryEqual", spec := "entryEqual", unfollowed := true, recurses := true, apart := false, narrowed := true }
def EntryEqualUptoSaid : Prop := entryEqualUptoRow.holds Try.pinned (OpenSpec.upto entryEqualSpec)

/-- 'tarnlaw16.RlogPlays', WHERE WHAT IT READS IS OF BULK AT MOST 1048576: true; the input reads as it did. -/
def rlogPlaysUptoRow : OpenClaim := { program := "ytbjjfidjggagnaa", sum := "7d545f1b8db8918ccc4042f400aa43bd60fc11c4c4fbe9d2f096e7d9b7d15fae", func := "tarn/tarnlaw16.RlogPlays", spec := "rlogPlays", apart := false, narrowed := true }
def RlogPlaysUptoSaid : Prop := rlogPlaysUptoRow.holds Try.pinned (OpenSpec.upto rlogPlaysSpec)

end Rows
end Go.Proofs.Ytbjjfidjggagnaa
