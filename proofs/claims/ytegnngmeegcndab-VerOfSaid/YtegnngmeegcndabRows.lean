/-
  No cell of these rows narrows 'for every input' (looked for: loops, veiled, ifaces, maps, wideKeys, modest, calm, conditions, laid).
  DERIVED. THE GIVEN ROWS OF THIS SEAT. 9 by the template 'for every input the law returns true; each argument reads behind the call as it read before'; 0 by the template 'total and deterministic' (their statements: YtegnngmeegcndabTotals.lean).
  GIVEN WITH THE SEED: the statements are not yours to turn. If you find one false, say at which input.
  Laid BY PROGRAM, IN A SANDBOX (cutbox-rows.mjs): the forced cells as the released guide's own fill.sh prints them over the translation 3dd785b1739678b0… (all of the seat's roots in one cut). By AI agents, Wed Nov 11 2026. No macro, syntax, notation, axiom, sorry.
-/
import Derived.Test.YtegnngmeegcndabChecked
import GoSem.Claim
import GoSem.ClaimJoined
import GoSem.ClaimMapViews
import Derived.JoinedTies
import Derived.KernelRfl
namespace Go.Proofs.Ytegnngmeegcndab
/- THE CELL 'sum', in the pinned program and in every row, IS THE sha256 OF THE DUMP (.gsa) THAT YtegnngmeegcndabProg.lean LOADS. Nothing in Lean hashes anything: it is a label: what it is worth is what the hold of that sum in a sandbox is worth. -/
noncomputable def Try.pinned : Pinned := { name := "ytegnngmeegcndab", sum := "3dd785b1739678b0d5c6b81c532847b95ed1d8ff8e6d5238a49908be53f24924", checked := Try.checked }
namespace Rows
def none {H : Type} : Left H := { results := [], args := [] }

/-- 'tarnlaw08.ItemPuts': WHATEVER THE INPUT: true; the input reads as it did. -/
def itemPutsSpec : ChangeSpec := { name := "itemPuts", fn := fun _ => fun
  | [d1, d2] => { results := [.lit (.bool true)], args := [d1, d2] }
  | _ => none }
def itemPutsRow : OpenClaim := { program := "ytegnngmeegcndab", sum := "3dd785b1739678b0d5c6b81c532847b95ed1d8ff8e6d5238a49908be53f24924", func := "tarn/tarnlaw08.ItemPuts", spec := "itemPuts", inPlace := ["internal/abi.NoEscape", "internal/bytealg.MakeNoZero"], recurses := true, apart := false }
def ItemPutsSaid : Prop := itemPutsRow.holds Try.pinned (OpenSpec.ofChange itemPutsSpec)

/-- ITS FALSE NEIGHBOUR: 'it returns false'. Refute it at one input. -/
def itemPutsWrong : ChangeSpec := { name := "itemPuts", fn := fun _ => fun
  | [d1, d2] => { results := [.lit (.bool false)], args := [d1, d2] }
  | _ => none }
def ItemPutsWrongFalsely : Prop := itemPutsRow.holds Try.pinned (OpenSpec.ofChange itemPutsWrong)

/-- 'tarnlaw08.ItemOf': WHATEVER THE INPUT: true; the input reads as it did. -/
def itemOfSpec : ChangeSpec := { name := "itemOf", fn := fun _ => fun
  | [d1, d2, d3] => { results := [.lit (.bool true)], args := [d1, d2, d3] }
  | _ => none }
def itemOfRow : OpenClaim := { program := "ytegnngmeegcndab", sum := "3dd785b1739678b0d5c6b81c532847b95ed1d8ff8e6d5238a49908be53f24924", func := "tarn/tarnlaw08.ItemOf", spec := "itemOf", inPlace := ["internal/abi.NoEscape", "internal/bytealg.MakeNoZero"], apart := false }
def ItemOfSaid : Prop := itemOfRow.holds Try.pinned (OpenSpec.ofChange itemOfSpec)

/-- ITS FALSE NEIGHBOUR: 'it returns false'. Refute it at one input. -/
def itemOfWrong : ChangeSpec := { name := "itemOf", fn := fun _ => fun
  | [d1, d2, d3] => { results := [.lit (.bool false)], args := [d1, d2, d3] }
  | _ => none }
def ItemOfWrongFalsely : Prop := itemOfRow.holds Try.pinned (OpenSpec.ofChange itemOfWrong)

/-- 'tarnlaw09.ItemsPlay': WHATEVER THE INPUT: true; the input reads as it did. -/
def itemsPlaySpec : ChangeSpec := { name := "itemsPlay", fn := fun _ => fun
  | [d] => { results := [.lit (.bool true)], args := [d] }
  | _ => none }
def itemsPlayRow : OpenClaim := { program := "ytegnngmeegcndab", sum := "3dd785b1739678b0d5c6b81c532847b95ed1d8ff8e6d5238a49908be53f24924", func := "tarn/tarnlaw09.ItemsPlay", spec := "itemsPlay", inPlace := ["internal/abi.NoEscape", "internal/bytealg.MakeNoZero", "slices.overlaps[tarn/api.Held]"], unfollowed := true, recurses := true, apart := false }
def ItemsPlaySaid : Prop := itemsPlayRow.holds Try.pinned (OpenSpec.ofChange itemsPlaySpec)

/-- ITS FALSE NEIGHBOUR: 'it returns false'. Refute it at one input. -/
def itemsPlayWrong : ChangeSpec := { name := "itemsPlay", fn := fun _ => fun
  | [d] => { results := [.lit (.bool false)], args := [d] }
  | _ => none }
def ItemsPlayWrongFalsely : Prop := itemsPlayRow.holds Try.pinned (OpenSpec.ofChange itemsPlayWrong)

/-- 'tarnlaw09.ItemsMerge': WHATEVER THE INPUT: true; the input reads as it did. -/
def itemsMergeSpec : ChangeSpec := { name := "itemsMerge", fn := fun _ => fun
  | [d1, d2] => { results := [.lit (.bool true)], args := [d1, d2] }
  | _ => none }
def itemsMergeRow : OpenClaim := { program := "ytegnngmeegcndab", sum := "3dd785b1739678b0d5c6b81c532847b95ed1d8ff8e6d5238a49908be53f24924", func := "tarn/tarnlaw09.ItemsMerge", spec := "itemsMerge", inPlace := ["internal/abi.NoEscape", "internal/bytealg.MakeNoZero", "slices.overlaps[tarn/api.Held]"], unfollowed := true, recurses := true, apart := false }
def ItemsMergeSaid : Prop := itemsMergeRow.holds Try.pinned (OpenSpec.ofChange itemsMergeSpec)

/-- ITS FALSE NEIGHBOUR: 'it returns false'. Refute it at one input. -/
def itemsMergeWrong : ChangeSpec := { name := "itemsMerge", fn := fun _ => fun
  | [d1, d2] => { results := [.lit (.bool false)], args := [d1, d2] }
  | _ => none }
def ItemsMergeWrongFalsely : Prop := itemsMergeRow.holds Try.pinned (OpenSpec.ofChange itemsMergeWrong)

/-- 'tarnlaw09.ItemsPut': WHATEVER THE INPUT: true; the input reads as it did. -/
def itemsPutSpec : ChangeSpec := { name := "itemsPut", fn := fun _ => fun
  | [d] => { results := [.lit (.bool true)], args := [d] }
  | _ => none }
def itemsPutRow : OpenClaim := { program := "ytegnngmeegcndab", sum := "3dd785b1739678b0d5c6b81c532847b95ed1d8ff8e6d5238a49908be53f24924", func := "tarn/tarnlaw09.ItemsPut", spec := "itemsPut", inPlace := ["internal/abi.NoEscape", "internal/bytealg.MakeNoZero", "slices.overlaps[tarn/api.Held]"], unfollowed := true, recurses := true, apart := false }
def ItemsPutSaid : Prop := itemsPutRow.holds Try.pinned (OpenSpec.ofChange itemsPutSpec)

/-- ITS FALSE NEIGHBOUR: 'it returns false'. Refute it at one input. -/
def itemsPutWrong : ChangeSpec := { name := "itemsPut", fn := fun _ => fun
  | [d] => { results := [.lit (.bool false)], args := [d] }
  | _ => none }
def ItemsPutWrongFalsely : Prop := itemsPutRow.holds Try.pinned (OpenSpec.ofChange itemsPutWrong)

/-- 'tarnlaw09.ItemsNone': WHATEVER THE INPUT: true; the input reads as it did. -/
def itemsNoneSpec : ChangeSpec := { name := "itemsNone", fn := fun _ => fun
  | [d1, d2] => { results := [.lit (.bool true)], args := [d1, d2] }
  | _ => none }
def itemsNoneRow : OpenClaim := { program := "ytegnngmeegcndab", sum := "3dd785b1739678b0d5c6b81c532847b95ed1d8ff8e6d5238a49908be53f24924", func := "tarn/tarnlaw09.ItemsNone", spec := "itemsNone", inPlace := ["internal/abi.NoEscape", "internal/bytealg.MakeNoZero", "slices.overlaps[tarn/api.Held]"], unfollowed := true, recurses := true, apart := false }
def ItemsNoneSaid : Prop := itemsNoneRow.holds Try.pinned (OpenSpec.ofChange itemsNoneSpec)

/-- ITS FALSE NEIGHBOUR: 'it returns false'. Refute it at one input. -/
def itemsNoneWrong : ChangeSpec := { name := "itemsNone", fn := fun _ => fun
  | [d1, d2] => { results := [.lit (.bool false)], args := [d1, d2] }
  | _ => none }
def ItemsNoneWrongFalsely : Prop := itemsNoneRow.holds Try.pinned (OpenSpec.ofChange itemsNoneWrong)

/-- 'tarnlaw10.VerOf': WHATEVER THE INPUT: true; the input reads as it did. -/
def verOfSpec : ChangeSpec := { name := "verOf", fn := fun _ => fun
  | [d1, d2] => { results := [.lit (.bool true)], args := [d1, d2] }
  | _ => none }
def verOfRow : OpenClaim := { program := "ytegnngmeegcndab", sum := "3dd785b1739678b0d5c6b81c532847b95ed1d8ff8e6d5238a49908be53f24924", func := "tarn/tarnlaw10.VerOf", spec := "verOf", apart := false }
def VerOfSaid : Prop := verOfRow.holds Try.pinned (OpenSpec.ofChange verOfSpec)

/-- ITS FALSE NEIGHBOUR: 'it returns false'. Refute it at one input. -/
def verOfWrong : ChangeSpec := { name := "verOf", fn := fun _ => fun
  | [d1, d2] => { results := [.lit (.bool false)], args := [d1, d2] }
  | _ => none }
def VerOfWrongFalsely : Prop := verOfRow.holds Try.pinned (OpenSpec.ofChange verOfWrong)

/-- 'tarnlaw10.VerMay': WHATEVER THE INPUT: true; the input reads as it did. -/
def verMaySpec : ChangeSpec := { name := "verMay", fn := fun _ => fun
  | [d1, d2, d3] => { results := [.lit (.bool true)], args := [d1, d2, d3] }
  | _ => none }
def verMayRow : OpenClaim := { program := "ytegnngmeegcndab", sum := "3dd785b1739678b0d5c6b81c532847b95ed1d8ff8e6d5238a49908be53f24924", func := "tarn/tarnlaw10.VerMay", spec := "verMay", apart := false }
def VerMaySaid : Prop := verMayRow.holds Try.pinned (OpenSpec.ofChange verMaySpec)

/-- ITS FALSE NEIGHBOUR: 'it returns false'. Refute it at one input. -/
def verMayWrong : ChangeSpec := { name := "verMay", fn := fun _ => fun
  | [d1, d2, d3] => { results := [.lit (.bool false)], args := [d1, d2, d3] }
  | _ => none }
def VerMayWrongFalsely : Prop := verMayRow.holds Try.pinned (OpenSpec.ofChange verMayWrong)

/-- 'tarnlaw10.VerNext': WHATEVER THE INPUT: true; the input reads as it did. -/
def verNextSpec : ChangeSpec := { name := "verNext", fn := fun _ => fun
  | [d1, d2, d3] => { results := [.lit (.bool true)], args := [d1, d2, d3] }
  | _ => none }
def verNextRow : OpenClaim := { program := "ytegnngmeegcndab", sum := "3dd785b1739678b0d5c6b81c532847b95ed1d8ff8e6d5238a49908be53f24924", func := "tarn/tarnlaw10.VerNext", spec := "verNext", apart := false }
def VerNextSaid : Prop := verNextRow.holds Try.pinned (OpenSpec.ofChange verNextSpec)

/-- ITS FALSE NEIGHBOUR: 'it returns false'. Refute it at one input. -/
def verNextWrong : ChangeSpec := { name := "verNext", fn := fun _ => fun
  | [d1, d2, d3] => { results := [.lit (.bool false)], args := [d1, d2, d3] }
  | _ => none }
def VerNextWrongFalsely : Prop := verNextRow.holds Try.pinned (OpenSpec.ofChange verNextWrong)

/- THE SECOND FORM. 'bulk': how many values and letters a reading holds, each counted each time it is reached (what is shared counts as often as it is met; a slice's spare places count too). A statement '..UptoSaid' is the law's where the arguments, and the package variables that the reading takes, are together of bulk at most 1048576: NARROWER than '..Said'. Prove '..Said' where nothing that the law and all that it calls make is longer than what came in: it says more and counts as full. Else prove '..UptoSaid'. A law counts once. -/
mutual
def uptoBulk {H : Type} : DataW H → Nat
  | .lit (.string bytes) => bytes.length + 1
  | .lit _ => 1
  | .nil => 1
  | .ptr d => uptoBulk d + 1
  | .slice elems spare => uptoBulkAll elems + uptoBulkAll spare + 1
  | .agg parts => uptoBulkAll parts + 1
  | .iface _ d => uptoBulk d + 1
  | .map entries => uptoBulkEntries entries + 1
  | .held _ => 1
def uptoBulkAll {H : Type} : List (DataW H) → Nat
  | [] => 0
  | d :: r => uptoBulk d + uptoBulkAll r
def uptoBulkEntries {H : Type} : List (Lit × DataW H) → Nat
  | [] => 0
  | x :: r => uptoBulkEntry x + uptoBulkEntries r
def uptoBulkEntry {H : Type} : Lit × DataW H → Nat
  | (.string bytes, d) => bytes.length + uptoBulk d + 1
  | (_, d) => uptoBulk d + 1
 end
def uptoSmall : (H : Type) → List (DataW H) → Bool := fun _ ds => decide (uptoBulkAll ds ≤ 1048576)
def OpenSpec.upto (s : _root_.Go.ChangeSpec) : _root_.Go.OpenSpec := { _root_.Go.OpenSpec.ofChange s with cond := some uptoSmall }

/-- 'tarnlaw08.ItemPuts', WHERE WHAT IT READS IS OF BULK AT MOST 1048576: true; the input reads as it did. -/
def itemPutsUptoRow : OpenClaim := { program := "ytegnngmeegcndab", sum := "3dd785b1739678b0d5c6b81c532847b95ed1d8ff8e6d5238a49908be53f24924", func := "tarn/tarnlaw08.ItemPuts", spec := "itemPuts", inPlace := ["internal/abi.NoEscape", "internal/bytealg.MakeNoZero"], recurses := true, apart := false, narrowed := true }
def ItemPutsUptoSaid : Prop := itemPutsUptoRow.holds Try.pinned (OpenSpec.upto itemPutsSpec)

/-- 'tarnlaw08.ItemOf', WHERE WHAT IT READS IS OF BULK AT MOST 1048576: true; the input reads as it did. -/
def itemOfUptoRow : OpenClaim := { program := "ytegnngmeegcndab", sum := "3dd785b1739678b0d5c6b81c532847b95ed1d8ff8e6d5238a49908be53f24924", func := "tarn/tarnlaw08.ItemOf", spec := "itemOf", inPlace := ["internal/abi.NoEscape", "internal/bytealg.MakeNoZero"], apart := false, narrowed := true }
def ItemOfUptoSaid : Prop := itemOfUptoRow.holds Try.pinned (OpenSpec.upto itemOfSpec)

/-- 'tarnlaw09.ItemsPlay', WHERE WHAT IT READS IS OF BULK AT MOST 1048576: true; the input reads as it did. -/
def itemsPlayUptoRow : OpenClaim := { program := "ytegnngmeegcndab", sum := "3dd785b1739678b0d5c6b81c532847b95ed1d8ff8e6d5238a49908be53f24924", func := "tarn/tarnlaw09.ItemsPlay", spec := "itemsPlay", inPlace := ["internal/abi.NoEscape", "internal/bytealg.MakeNoZero", "slices.overlaps[tarn/api.Held]"], unfollowed := true, recurses := true, apart := false, narrowed := true }
def ItemsPlayUptoSaid : Prop := itemsPlayUptoRow.holds Try.pinned (OpenSpec.upto itemsPlaySpec)

/-- 'tarnlaw09.ItemsMerge', WHERE WHAT IT READS IS OF BULK AT MOST 1048576: true; the input reads as it did. -/
def itemsMergeUptoRow : OpenClaim := { program := "ytegnngmeegcndab", sum := "3dd785b1739678b0d5c6b81c532847b95ed1d8ff8e6d5238a49908be53f24924", func := "tarn/tarnlaw09.ItemsMerge", spec := "itemsMerge", inPlace := ["internal/abi.NoEscape", "internal/bytealg.MakeNoZero", "slices.overlaps[tarn/api.Held]"], unfollowed := true, recurses := true, apart := false, narrowed := true }
def ItemsMergeUptoSaid : Prop := itemsMergeUptoRow.holds Try.pinned (OpenSpec.upto itemsMergeSpec)

/-- 'tarnlaw09.ItemsPut', WHERE WHAT IT READS IS OF BULK AT MOST 1048576: true; the input reads as it did. -/
def itemsPutUptoRow : OpenClaim := { program := "ytegnngmeegcndab", sum := "3dd785b1739678b0d5c6b81c532847b95ed1d8ff8e6d5238a49908be53f24924", func := "tarn/tarnlaw09.ItemsPut", spec := "itemsPut", inPlace := ["internal/abi.NoEscape", "internal/bytealg.MakeNoZero", "slices.overlaps[tarn/api.Held]"], unfollowed := true, recurses := true, apart := false, narrowed := true }
def ItemsPutUptoSaid : Prop := itemsPutUptoRow.holds Try.pinned (OpenSpec.upto itemsPutSpec)

/-- 'tarnlaw09.ItemsNone', WHERE WHAT IT READS IS OF BULK AT MOST 1048576: true; the input reads as it did. -/
def itemsNoneUptoRow : OpenClaim := { program := "ytegnngmeegcndab", sum := "3dd785b1739678b0d5c6b81c532847b95ed1d8ff8e6d5238a49908be53f24924", func := "tarn/tarnlaw09.ItemsNone", spec := "itemsNone", inPlace := ["internal/abi.NoEscape", "internal/bytealg.MakeNoZero", "slices.overlaps[tarn/api.Held]"], unfollowed := true, recurses := true, apart := false, narrowed := true }
def ItemsNoneUptoSaid : Prop := itemsNoneUptoRow.holds Try.pinned (OpenSpec.upto itemsNoneSpec)

/-- 'tarnlaw10.VerOf', WHERE WHAT IT READS IS OF BULK AT MOST 1048576: true; the input reads as it did. -/
def verOfUptoRow : OpenClaim := { program := "ytegnngmeegcndab", sum := "3dd785b1739678b0d5c6b81c532847b95ed1d8ff8e6d5238a49908be53f24924", func := "tarn/tarnlaw10.VerOf", spec := "verOf", apart := false, narrowed := true }
def VerOfUptoSaid : Prop := verOfUptoRow.holds Try.pinned (OpenSpec.upto verOfSpec)

/-- 'tarnlaw10.VerMay', WHERE WHAT IT READS IS OF BULK AT MOST 1048576: true; the input reads as it did. -/
def verMayUptoRow : OpenClaim := { program := "ytegnngmeegcndab", sum := "3dd785b1739678b0d5c6b81c532847b95ed1d8ff8e6d5238a49908be53f24924", func := "tarn/tarnlaw10.VerMay", spec := "verMay", apart := false, narrowed := true }
def VerMayUptoSaid : Prop := verMayUptoRow.holds Try.pinned (OpenSpec.upto verMaySpec)

/-- 'tarnlaw10.VerNext', WHERE WHAT IT READS IS OF BULK AT MOST 1048576: true; the input reads as it did. -/
def verNextUptoRow : OpenClaim := { program := "ytegnngmeegcndab", sum := "3dd785b1739678b0d5c6b81c532847b95ed1d8ff8e6d5238a49908be53f24924", func := "tarn/tarnlaw10.VerNext", spec := "verNext", apart := false, narrowed := true }
def VerNextUptoSaid : Prop := verNextUptoRow.holds Try.pinned (OpenSpec.upto verNextSpec)

end Rows
end Go.Proofs.Ytegnngmeegcndab
