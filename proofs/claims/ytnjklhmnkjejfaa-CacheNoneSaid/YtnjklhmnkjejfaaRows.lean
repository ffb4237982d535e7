/-
  No cell of these rows narrows 'for every input' (looked for: loops, veiled, ifaces, maps, wideKeys, modest, calm, conditions, laid).
  DERIVED. THE GIVEN ROWS OF THIS SEAT. 3 by the template 'for every input the law returns true; each argument reads behind the call as it read before'; 0 by the template 'total and deterministic' (their statements: YtnjklhmnkjejfaaTotals.lean).
  GIVEN WITH THE SEED: the statements are not yours to turn. If you find one false, say at which input.
  Laid BY PROGRAM, IN A SANDBOX (cutbox-rows.mjs): the forced cells as the released guide's own fill.sh prints them over the translation b7f1de93f121170f… (all of the seat's roots in one cut). By AI agents, Wed Nov 11 2026. No macro, syntax, notation, axiom, sorry.
-/
import Derived.Test.YtnjklhmnkjejfaaChecked
import GoSem.Claim
import GoSem.ClaimJoined
import GoSem.ClaimMapViews
import Derived.JoinedTies
import Derived.KernelRfl
namespace Go.Proofs.Ytnjklhmnkjejfaa
/- THE CELL 'sum', in the pinned program and in every row, IS THE sha256 OF THE DUMP (.gsa) THAT YtnjklhmnkjejfaaProg.lean LOADS. Nothing in Lean hashes anything: it is a label: what it is worth is what the hold of that sum in a sandbox is worth. -/
noncomputable def Try.pinned : Pinned := { name := "ytnjklhmnkjejfaa", sum := "b7f1de93f121170f7f62213873c0791f823da33c1aca62a54b11b9aa3872978d", checked := Try.checked }
namespace Rows
def none {H : Type} : Left H := { results := [], args := [] }

/-- 'tarnlaw23.CacheNone': WHATEVER THE INPUT: true; the input reads as it did. -/
def cacheNoneSpec : ChangeSpec := { name := "cacheNone", fn := fun _ => fun
  | [d1, d2] => { results := [.lit (.bool true)], args := [d1, d2] }
  | _ => none }
def cacheNoneRow : OpenClaim := { program := "ytnjklhmnkjejfaa", sum := "b7f1de93f121170f7f62213873c0791f823da33c1aca62a54b11b9aa3872978d", func := "tarn/tarnlaw23.CacheNone", spec := "cacheNone", inPlace := ["internal/abi.NoEscape", "internal/bytealg.MakeNoZero", "slices.overlaps[int]"], apart := false }
def CacheNoneSaid : Prop := cacheNoneRow.holds Try.pinned (OpenSpec.ofChange cacheNoneSpec)

/-- ITS FALSE NEIGHBOUR: 'it returns false'. Refute it at one input. -/
def cacheNoneWrong : ChangeSpec := { name := "cacheNone", fn := fun _ => fun
  | [d1, d2] => { results := [.lit (.bool false)], args := [d1, d2] }
  | _ => none }
def CacheNoneWrongFalsely : Prop := cacheNoneRow.holds Try.pinned (OpenSpec.ofChange cacheNoneWrong)

/-- 'tarnlaw24.MirrorNone': WHATEVER THE INPUT: true; the input reads as it did. -/
def mirrorNoneSpec : ChangeSpec := { name := "mirrorNone", fn := fun _ => fun
  | [d1, d2] => { results := [.lit (.bool true)], args := [d1, d2] }
  | _ => none }
def mirrorNoneRow : OpenClaim := { program := "ytnjklhmnkjejfaa", sum := "b7f1de93f121170f7f62213873c0791f823da33c1aca62a54b11b9aa3872978d", func := "tarn/tarnlaw24.MirrorNone", spec := "mirrorNone", inPlace := ["slices.overlaps[int]", "internal/abi.NoEscape", "internal/bytealg.MakeNoZero", "slices.overlaps[tarn/api.Held]"], unfollowed := true, recurses := true, apart := false }
def MirrorNoneSaid : Prop := mirrorNoneRow.holds Try.pinned (OpenSpec.ofChange mirrorNoneSpec)

/-- ITS FALSE NEIGHBOUR: 'it returns false'. Refute it at one input. -/
def mirrorNoneWrong : ChangeSpec := { name := "mirrorNone", fn := fun _ => fun
  | [d1, d2] => { results := [.lit (.bool false)], args := [d1, d2] }
  | _ => none }
def MirrorNoneWrongFalsely : Prop := mirrorNoneRow.holds Try.pinned (OpenSpec.ofChange mirrorNoneWrong)

/-- 'tarnlaw43.ScrubUsed': WHATEVER THE INPUT: true; the input reads as it did. -/
def scrubUsedSpec : ChangeSpec := { name := "scrubUsed", fn := fun _ => fun
  | [d1, d2] => { results := [.lit (.bool true)], args := [d1, d2] }
  | _ => none }
def scrubUsedRow : OpenClaim := { program := "ytnjklhmnkjejfaa", sum := "b7f1de93f121170f7f62213873c0791f823da33c1aca62a54b11b9aa3872978d", func := "tarn/tarnlaw43.ScrubUsed", spec := "scrubUsed", inPlace := ["internal/abi.NoEscape", "internal/bytealg.MakeNoZero", "slices.overlaps[tarn/api.Held]"], unfollowed := true, recurses := true, apart := false }
def ScrubUsedSaid : Prop := scrubUsedRow.holds Try.pinned (OpenSpec.ofChange scrubUsedSpec)

/-- ITS FALSE NEIGHBOUR: 'it returns false'. Refute it at one input. -/
def scrubUsedWrong : ChangeSpec := { name := "scrubUsed", fn := fun _ => fun
  | [d1, d2] => { results := [.lit (.bool false)], args := [d1, d2] }
  | _ => none }
def ScrubUsedWrongFalsely : Prop := scrubUsedRow.holds Try.pinned (OpenSpec.ofChange scrubUsedWrong)

/- THE SECOND FORM. 'bulk': how many values and letters a reading holds, each counted each time it is reached (what is shared counts as often as it is met; a slice's spare places count too). A statement '..UptoSaid' is the law's where the arguments, and the package variables that the reading takes, are together of bulk at most 1048576: NARROWER than '..Said'. Prove '..Said' where nothing that the law and all that it calls make is longer than what came in: it says more and counts as full. Else prove '..UptoSaid'. A law counts once. -/
mutual
def uptoBulk {H : Type} : DataW H → Nat
  | .lit (.string bytes) => bytes.length + 1
  | .lit _ => 1
  | .nil => 1
  | .ptr d => uptoBulk d + 1
  | .slice elems spare => uptoBulkAll elems + uptoBulkAll spare + 1
  | .agg parts => uptoBulkAll parts + 1
  | .iface _ d => uptoBulk d + 1
  | .map entries => uptoBulkEntries entries + 1
  | .held _ => 1
def uptoBulkAll {H : Type} : List (DataW H) → Nat
  | [] => 0
  | d :: r => uptoBulk d + uptoBulkAll r
def uptoBulkEntries {H : Type} : List (Lit × DataW H) → Nat
  | [] => 0
  | x :: r => uptoBulkEntry x + uptoBulkEntries r
def uptoBulkEntry {H : Type} : Lit × DataW H → Nat
  | (.string bytes, d) => bytes.length + uptoBulk d + 1
  | (_, d) => uptoBulk d + 1
 end
def uptoSmall : (H : Type) → List (DataW H) → Bool := fun _ ds => decide (uptoBulkAll ds ≤ 1048576)
def OpenSpec.upto (s : _root_.Go.ChangeSpec) : _root_.Go.OpenSpec := { _root_.Go.OpenSpec.ofChange s with cond := some uptoSmall }

/-- 'tarnlaw23.CacheNone', WHERE WHAT IT READS IS OF BULK AT MOST 1048576: true; the input reads as it did. -/
def cacheNoneUptoRow : OpenClaim := { program := "ytnjklhmnkjejfaa", sum := "b7f1de93f121170f7f62213873c0791f823da33c1aca62a54b11b9aa3872978d", func := "tarn/tarnlaw23.CacheNone", spec := "cacheNone", inPlace := ["internal/abi.NoEscape", "internal/bytealg.MakeNoZero", "slices.overlaps[int]"], apart := false, narrowed := true }
def CacheNoneUptoSaid : Prop := cacheNoneUptoRow.holds Try.pinned (OpenSpec.upto cacheNoneSpec)

/-- 'tarnlaw24.MirrorNone', WHERE WHAT IT READS IS OF BULK AT MOST 1048576: true; the input reads as it did. -/
def mirrorNoneUptoRow : OpenClaim := { program := "ytnjklhmnkjejfaa", sum := "b7f1de93f121170f7f62213873c0791f823da33c1aca62a54b11b9aa3872978d", func := "tarn/tarnlaw24.MirrorNone", spec := "mirrorNone", inPlace := ["slices.overlaps[int]", "internal/abi.NoEscape", "internal/bytealg.MakeNoZero", "slices.overlaps[tarn/api.Held]"], unfollowed := true, recurses := true, apart := false, narrowed := true }
def MirrorNoneUptoSaid : Prop := mirrorNoneUptoRow.holds Try.pinned (OpenSpec.upto mirrorNoneSpec)

/-- 'tarnlaw43.ScrubUsed', WHERE WHAT IT READS IS OF BULK AT MOST 1048576: true; the input reads as it did. -/
def scrubUsedUptoRow : OpenClaim := { program := "ytnjklhmnkjejfaa", sum := "b7f1de93f121170f7f62213873c0791f823da33c1aca62a54b11b9aa3872978d", func := "tarn/tarnlaw43.ScrubUsed", spec := "scrubUsed", inPlace := ["internal/abi.NoEscape", "internal/bytealg.MakeNoZero", "slices.overlaps[tarn/api.Held]"], unfollowed := true, recurses := true, apart := false, narrowed := true }
def ScrubUsedUptoSaid : Prop := scrubUsedUptoRow.holds Try.pinned (OpenSpec.upto scrubUsedSpec)

end Rows
end Go.Proofs.Ytnjklhmnkjejfaa
