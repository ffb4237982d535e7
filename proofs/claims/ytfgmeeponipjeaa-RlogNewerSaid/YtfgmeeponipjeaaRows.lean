/-
  No cell of these rows narrows 'for every input' (looked for: loops, veiled, ifaces, maps, wideKeys, modest, calm, conditions, laid).
  DERIVED. THE GIVEN ROWS OF THIS SEAT. 4 by the template 'for every input the law returns true; each argument reads behind the call as it read before'; 0 by the template 'total and deterministic' (their statements: YtfgmeeponipjeaaTotals.lean).
  GIVEN WITH THE SEED: the statements are not yours to turn. If you find one false, say at which input.
  Laid BY PROGRAM, IN A SANDBOX (cutbox-rows.mjs): the forced cells as the released guide's own fill.sh prints them over the translation 1784a93370d6dac9… (all of the seat's roots in one cut). By AI agents, Wed Nov 11 2026. No macro, syntax, notation, axiom, sorry.
-/
import Derived.Test.YtfgmeeponipjeaaChecked
import GoSem.Claim
import GoSem.ClaimJoined
import GoSem.ClaimMapViews
import Derived.JoinedTies
import Derived.KernelRfl
namespace Go.Proofs.Ytfgmeeponipjeaa
/- THE CELL 'sum', in the pinned program and in every row, IS THE sha256 OF THE DUMP (.gsa) THAT YtfgmeeponipjeaaProg.lean LOADS. Nothing in Lean hashes anything: it is a label: what it is worth is what the hold of that sum in a sandbox is worth. -/
noncomputable def Try.pinned : Pinned := { name := "ytfgmeeponipjeaa", sum := "1784a93370d6dac9888297aaa76e81c5820579b6a9cf6cc685e1ed343853236c", checked := Try.checked }
namespace Rows
def none {H : Type} : Left H := { results := [], args := [] }

/-- 'tarnlaw12.DecideOnce': WHATEVER THE INPUT: true; the input reads as it did. -/
def decideOnceSpec : ChangeSpec := { name := "decideOnce", fn := fun _ => fun
  | [d1, d2, d3] => { results := [.lit (.bool true)], args := [d1, d2, d3] }
  | _ => none }
def decideOnceRow : OpenClaim := { program := "ytfgmeeponipjeaa", sum := "1784a93370d6dac9888297aaa76e81c5820579b6a9cf6cc685e1ed343853236c", func := "tarn/tarnlaw12.DecideOnce", spec := "decideOnce", apart := false }
def DecideOnceSaid : Prop := decideOnceRow.holds Try.pinned (OpenSpec.ofChange decideOnceSpec)

/-- ITS FALSE NEIGHBOUR: 'it returns false'. Refute it at one input. -/
def decideOnceWrong : ChangeSpec := { name := "decideOnce", fn := fun _ => fun
  | [d1, d2, d3] => { results := [.lit (.bool false)], args := [d1, d2, d3] }
  | _ => none }
def DecideOnceWrongFalsely : Prop := decideOnceRow.holds Try.pinned (OpenSpec.ofChange decideOnceWrong)

/-- 'tarnlaw16.RlogNewer': WHATEVER THE INPUT: true; the input reads as it did. -/
def rlogNewerSpec : ChangeSpec := { name := "rlogNewer", fn := fun _ => fun
  | [d1, d2, d3] => { results := [.lit (.bool true)], args := [d1, d2, d3] }
  | _ => none }
def rlogNewerRow : OpenClaim := { program := "ytfgmeeponipjeaa", sum := "1784a93370d6dac9888297aaa76e81c5820579b6a9cf6cc685e1ed343853236c", func := "tarn/tarnlaw16.RlogNewer", spec := "rlogNewer", unfollowed := true, recurses := true, apart := false }
def RlogNewerSaid : Prop := rlogNewerRow.holds Try.pinned (OpenSpec.ofChange rlogNewerSpec)

/-- ITS FALSE NEIGHBOUR: 'it returns false'. Refute it at one input. -/
def rlogNewerWrong : ChangeSpec := { name := "rlogNewer", fn := fun _ => fun
  | [d1, d2, d3] => { results := [.lit (.bool false)], args := [d1, d2, d3] }
  | _ => none }
def RlogNewerWrongFalsely : Prop := rlogNewerRow.holds Try.pinned (OpenSpec.ofChange rlogNewerWrong)

/-- 'tarnlaw24.MirrorNewest': WHATEVER THE INPUT: true; the input reads as it did. -/
def mirrorNewestSpec : ChangeSpec := { name := "mirrorNewest", fn := fun _ => fun
  | [d] => { results := [.lit (.bool true)], args := [d] }
  | _ => none }
def mirrorNewestRow : OpenClaim := { program := "ytfgmeeponipjeaa", sum := "1784a93370d6dac9888297aaa76e81c5820579b6a9cf6cc685e1ed343853236c", func := "tarn/tarnlaw24.MirrorNewest", spec := "mirrorNewest", inPlace := ["internal/abi.NoEscape", "internal/bytealg.MakeNoZero", "slices.overlaps[tarn/api.Held]", "slices.overlaps[int]"], unfollowed := true, recurses := true, apart := false }
def MirrorNewestSaid : Prop := mirrorNewestRow.holds Try.pinned (OpenSpec.ofChange mirrorNewestSpec)

/-- ITS FALSE NEIGHBOUR: 'it returns false'. Refute it at one input. -/
def mirrorNewestWrong : ChangeSpec := { name := "mirrorNewest", fn := fun _ => fun
  | [d] => { results := [.lit (.bool false)], args := [d] }
  | _ => none }
def MirrorNewestWrongFalsely : Prop := mirrorNewestRow.holds Try.pinned (OpenSpec.ofChange mirrorNewestWrong)

/-- 'tarnlaw42.SchedActs': WHATEVER THE INPUT: true; the input reads as it did. -/
def schedActsSpec : ChangeSpec := { name := "schedActs", fn := fun _ => fun
  | [d1, d2, d3] => { results := [.lit (.bool true)], args := [d1, d2, d3] }
  | _ => none }
def schedActsRow : OpenClaim := { program := "ytfgmeeponipjeaa", sum := "1784a93370d6dac9888297aaa76e81c5820579b6a9cf6cc685e1ed343853236c", func := "tarn/tarnlaw42.SchedActs", spec := "schedActs", apart := false }
def SchedActsSaid : Prop := schedActsRow.holds Try.pinned (OpenSpec.ofChange schedActsSpec)

/-- ITS FALSE NEIGHBOUR: 'it returns false'. Refute it at one input. -/
def schedActsWrong : ChangeSpec := { name := "schedActs", fn := fun _ => fun
  | [d1, d2, d3] => { results := [.lit (.bool false)], args := [d1, d2, d3] }
  | _ => none }
def SchedActsWrongFalsely : Prop := schedActsRow.holds Try.pinned (OpenSpec.ofChange schedActsWrong)

/- THE SECOND FORM. 'bulk': how many values and letters a reading holds, each counted each time it is reached (what is shared counts as often as it is met; a slice's spare places count too). A statement '..UptoSaid' is the law's where the arguments, and the package variables that the reading takes, are together of bulk at most 1048576: NARROWER than '..Said'. Prove '..Said' where nothing that the law and all that it calls make is longer than what came in: it says more and counts as full. Else prove '..UptoSaid'. A law counts once. -/
mutual
def uptoBulk {H : Type} : DataW H → Nat
  | .lit (.string bytes) => bytes.length + 1
  | .lit _ => 1
  | .nil => 1
  | .ptr d => uptoBulk d + 1
  | .slice elems spare => uptoBulkAll elems + uptoBulkAll spare + 1
  | .agg parts => uptoBulkAll parts + 1
  | .iface _ d => uptoBulk d + 1
  | .map entries => uptoBulkEntries entries + 1
  | .held _ => 1
def uptoBulkAll {H : Type} : List (DataW H) → Nat
  | [] => 0
  | d :: r => uptoBulk d + uptoBulkAll r
def uptoBulkEntries {H : Type} : List (Lit × DataW H) → Nat
  | [] => 0
  | x :: r => uptoBulkEntry x + uptoBulkEntries r
def uptoBulkEntry {H : Type} : Lit × DataW H → Nat
  | (.string bytes, d) => bytes.length + uptoBulk d + 1
  | (_, d) => uptoBulk d + 1
 end
def uptoSmall : (H : Type) → List (DataW H) → Bool := fun _ ds => decide (uptoBulkAll ds ≤ 1048576)
def OpenSpec.upto (s : _root_.Go.ChangeSpec) : _root_.Go.OpenSpec := { _root_.Go.OpenSpec.ofChange s with cond := some uptoSmall }

/-- 'tarnlaw12.DecideOnce', WHERE WHAT IT READS IS OF BULK AT MOST 1048576: true; the input reads as it did. -/
def decideOnceUptoRow : OpenClaim := { program := "ytfgmeeponipjeaa", sum := "1784a93370d6dac9888297aaa76e81c5820579b6a9cf6cc685e1ed343853236c", func := "tarn/tarnlaw12.DecideOnce", spec := "decideOnce", apart := false, narrowed := true }
def DecideOnceUptoSaid : Prop := decideOnceUptoRow.holds Try.pinned (OpenSpec.upto decideOnceSpec)

/-- 'tarnlaw16.RlogNewer', WHERE WHAT IT READS IS OF BULK AT MOST 1048576: true; the input reads as it did. -/
def rlogNewerUptoRow : OpenClaim := { program := "ytfgmeeponipjeaa", sum := "1784a93370d6dac9888297aaa76e81c5820579b6a9cf6cc685e1ed343853236c", func := "tarn/tarnlaw16.RlogNewer", spec := "rlogNewer", unfollowed := true, recurses := true, apart := false, narrowed := true }
def RlogNewerUptoSaid : Prop := rlogNewerUptoRow.holds Try.pinned (OpenSpec.upto rlogNewerSpec)

/-- 'tarnlaw24.MirrorNewest', WHERE WHAT IT READS IS OF BULK AT MOST 1048576: true; the input reads as it did. -/
def mirrorNewestUptoRow : OpenClaim := { program := "ytfgmeeponipjeaa", sum := "1784a93370d6dac9888297aaa76e81c5820579b6a9cf6cc685e1ed343853236c", func := "tarn/tarnlaw24.MirrorNewest", spec := "mirrorNewest", inPlace := ["internal/abi.NoEscape", "internal/bytealg.MakeNoZero", "slices.overlaps[tarn/api.Held]", "slices.overlaps[int]"], unfollowed := true, recurses := true, apart := false, narrowed := true }
def MirrorNewestUptoSaid : Prop := mirrorNewestUptoRow.holds Try.pinned (OpenSpec.upto mirrorNewestSpec)

/-- 'tarnlaw42.SchedActs', WHERE WHAT IT READS IS OF BULK AT MOST 1048576: true; the input reads as it did. -/
def schedActsUptoRow : OpenClaim := { program := "ytfgmeeponipjeaa", sum := "1784a93370d6dac9888297aaa76e81c5820579b6a9cf6cc685e1ed343853236c", func := "tarn/tarnlaw42.SchedActs", spec := "schedActs", apart := false, narrowed := true }
def SchedActsUptoSaid : Prop := schedActsUptoRow.holds Try.pinned (OpenSpec.upto schedActsSpec)

end Rows
end Go.Proofs.Ytfgmeeponipjeaa
