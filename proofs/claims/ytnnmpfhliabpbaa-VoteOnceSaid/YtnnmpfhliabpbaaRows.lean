/-
  No cell of these rows narrows 'for every input' (looked for: loops, veiled, ifaces, maps, wideKeys, modest, calm, conditions, laid).
  DERIVED. THE GIVEN ROWS OF THIS SEAT. 12 by the template 'for every input the law returns true; each argument reads behind the call as it read before'; 0 by the template 'total and deterministic' (their statements: YtnnmpfhliabpbaaTotals.lean).
  GIVEN WITH THE SEED: the statements are not yours to turn. If you find one false, say at which input.
  Laid BY PROGRAM, IN A SANDBOX (cutbox-rows.mjs): the forced cells as the released guide's own fill.sh prints them over the translation 8437580b44648029… (all of the seat's roots in one cut). By AI agents, Wed Nov 11 2026. No macro, syntax, notation, axiom, sorry.
-/
import Derived.Test.YtnnmpfhliabpbaaChecked
import GoSem.Claim
import GoSem.ClaimJoined
import GoSem.ClaimMapViews
import Derived.JoinedTies
import Derived.KernelRfl
namespace Go.Proofs.Ytnnmpfhliabpbaa
/- THE CELL 'sum', in the pinned program and in every row, IS THE sha256 OF THE DUMP (.gsa) THAT YtnnmpfhliabpbaaProg.lean LOADS. Nothing in Lean hashes anything: it is a label: what it is worth is what the hold of that sum in a sandbox is worth. -/
noncomputable def Try.pinned : Pinned := { name := "ytnnmpfhliabpbaa", sum := "8437580b4464802979715c624776700fa37da143f748b5c2d8f77b9a59e5b8bd", checked := Try.checked }
namespace Rows
def none {H : Type} : Left H := { results := [], args := [] }

/-- 'tarnlaw17.VoteCounts': WHATEVER THE INPUT: true; the input reads as it did. -/
def voteCountsSpec : ChangeSpec := { name := "voteCounts", fn := fun _ => fun
  | [d] => { results := [.lit (.bool true)], args := [d] }
  | _ => none }
def voteCountsRow : OpenClaim := { program := "ytnnmpfhliabpbaa", sum := "8437580b4464802979715c624776700fa37da143f748b5c2d8f77b9a59e5b8bd", func := "tarn/tarnlaw17.VoteCounts", spec := "voteCounts", apart := false }
def VoteCountsSaid : Prop := voteCountsRow.holds Try.pinned (OpenSpec.ofChange voteCountsSpec)

/-- ITS FALSE NEIGHBOUR: 'it returns false'. Refute it at one input. -/
def voteCountsWrong : ChangeSpec := { name := "voteCounts", fn := fun _ => fun
  | [d] => { results := [.lit (.bool false)], args := [d] }
  | _ => none }
def VoteCountsWrongFalsely : Prop := voteCountsRow.holds Try.pinned (OpenSpec.ofChange voteCountsWrong)

/-- 'tarnlaw17.VoteOnce': WHATEVER THE INPUT: true; the input reads as it did. -/
def voteOnceSpec : ChangeSpec := { name := "voteOnce", fn := fun _ => fun
  | [d1, d2, d3] => { results := [.lit (.bool true)], args := [d1, d2, d3] }
  | _ => none }
def voteOnceRow : OpenClaim := { program := "ytnnmpfhliabpbaa", sum := "8437580b4464802979715c624776700fa37da143f748b5c2d8f77b9a59e5b8bd", func := "tarn/tarnlaw17.VoteOnce", spec := "voteOnce", apart := false }
def VoteOnceSaid : Prop := voteOnceRow.holds Try.pinned (OpenSpec.ofChange voteOnceSpec)

/-- ITS FALSE NEIGHBOUR: 'it returns false'. Refute it at one input. -/
def voteOnceWrong : ChangeSpec := { name := "voteOnce", fn := fun _ => fun
  | [d1, d2, d3] => { results := [.lit (.bool false)], args := [d1, d2, d3] }
  | _ => none }
def VoteOnceWrongFalsely : Prop := voteOnceRow.holds Try.pinned (OpenSpec.ofChange voteOnceWrong)

/-- 'tarnlaw18.LeadPlays': WHATEVER THE INPUT: true; the input reads as it did. -/
def leadPlaysSpec : ChangeSpec := { name := "leadPlays", fn := fun _ => fun
  | [d1, d2] => { results := [.lit (.bool true)], args := [d1, d2] }
  | _ => none }
def leadPlaysRow : OpenClaim := { program := "ytnnmpfhliabpbaa", sum := "8437580b4464802979715c624776700fa37da143f748b5c2d8f77b9a59e5b8bd", func := "tarn/tarnlaw18.LeadPlays", spec := "leadPlays", recurses := true, apart := false }
def LeadPlaysSaid : Prop := leadPlaysRow.holds Try.pinned (OpenSpec.ofChange leadPlaysSpec)

/-- ITS FALSE NEIGHBOUR: 'it returns false'. Refute it at one input. -/
def leadPlaysWrong : ChangeSpec := { name := "leadPlays", fn := fun _ => fun
  | [d1, d2] => { results := [.lit (.bool false)], args := [d1, d2] }
  | _ => none }
def LeadPlaysWrongFalsely : Prop := leadPlaysRow.holds Try.pinned (OpenSpec.ofChange leadPlaysWrong)

/-- 'tarnlaw18.LeadDecides': WHATEVER THE INPUT: true; the input reads as it did. -/
def leadDecidesSpec : ChangeSpec := { name := "leadDecides", fn := fun _ => fun
  | [d1, d2, d3] => { results := [.lit (.bool true)], args := [d1, d2, d3] }
  | _ => none }
def leadDecidesRow : OpenClaim := { program := "ytnnmpfhliabpbaa", sum := "8437580b4464802979715c624776700fa37da143f748b5c2d8f77b9a59e5b8bd", func := "tarn/tarnlaw18.LeadDecides", spec := "leadDecides", recurses := true, apart := false }
def LeadDecidesSaid : Prop := leadDecidesRow.holds Try.pinned (OpenSpec.ofChange leadDecidesSpec)

/-- ITS FALSE NEIGHBOUR: 'it returns false'. Refute it at one input. -/
def leadDecidesWrong : ChangeSpec := { name := "leadDecides", fn := fun _ => fun
  | [d1, d2, d3] => { results := [.lit (.bool false)], args := [d1, d2, d3] }
  | _ => none }
def LeadDecidesWrongFalsely : Prop := leadDecidesRow.holds Try.pinned (OpenSpec.ofChange leadDecidesWrong)

/-- 'tarnlaw21.OrderPlays': WHATEVER THE INPUT: true; the input reads as it did. -/
def orderPlaysSpec : ChangeSpec := { name := "orderPlays", fn := fun _ => fun
  | [d] => { results := [.lit (.bool true)], args := [d] }
  | _ => none }
def orderPlaysRow : OpenClaim := { program := "ytnnmpfhliabpbaa", sum := "8437580b4464802979715c624776700fa37da143f748b5c2d8f77b9a59e5b8bd", func := "tarn/tarnlaw21.OrderPlays", spec := "orderPlays", inPlace := ["slices.overlaps[int]"], apart := false }
def OrderPlaysSaid : Prop := orderPlaysRow.holds Try.pinned (OpenSpec.ofChange orderPlaysSpec)

/-- ITS FALSE NEIGHBOUR: 'it returns false'. Refute it at one input. -/
def orderPlaysWrong : ChangeSpec := { name := "orderPlays", fn := fun _ => fun
  | [d] => { results := [.lit (.bool false)], args := [d] }
  | _ => none }
def OrderPlaysWrongFalsely : Prop := orderPlaysRow.holds Try.pinned (OpenSpec.ofChange orderPlaysWrong)

/-- 'tarnlaw21.OrderNone': WHATEVER THE INPUT: true; the input reads as it did. -/
def orderNoneSpec : ChangeSpec := { name := "orderNone", fn := fun _ => fun
  | [d] => { results := [.lit (.bool true)], args := [d] }
  | _ => none }
def orderNoneRow : OpenClaim := { program := "ytnnmpfhliabpbaa", sum := "8437580b4464802979715c624776700fa37da143f748b5c2d8f77b9a59e5b8bd", func := "tarn/tarnlaw21.OrderNone", spec := "orderNone", inPlace := ["slices.overlaps[int]"], apart := false }
def OrderNoneSaid : Prop := orderNoneRow.holds Try.pinned (OpenSpec.ofChange orderNoneSpec)

/-- ITS FALSE NEIGHBOUR: 'it returns false'. Refute it at one input. -/
def orderNoneWrong : ChangeSpec := { name := "orderNone", fn := fun _ => fun
  | [d] => { results := [.lit (.bool false)], args := [d] }
  | _ => none }
def OrderNoneWrongFalsely : Prop := orderNoneRow.holds Try.pinned (OpenSpec.ofChange orderNoneWrong)

/-- 'tarnlaw22.ArcRoom': WHATEVER THE INPUT: true; the input reads as it did. -/
def arcRoomSpec : ChangeSpec := { name := "arcRoom", fn := fun _ => fun
  | [d1, d2] => { results := [.lit (.bool true)], args := [d1, d2] }
  | _ => none }
def arcRoomRow : OpenClaim := { program := "ytnnmpfhliabpbaa", sum := "8437580b4464802979715c624776700fa37da143f748b5c2d8f77b9a59e5b8bd", func := "tarn/tarnlaw22.ArcRoom", spec := "arcRoom", inPlace := ["slices.overlaps[int]"], apart := false }
def ArcRoomSaid : Prop := arcRoomRow.holds Try.pinned (OpenSpec.ofChange arcRoomSpec)

/-- ITS FALSE NEIGHBOUR: 'it returns false'. Refute it at one input. -/
def arcRoomWrong : ChangeSpec := { name := "arcRoom", fn := fun _ => fun
  | [d1, d2] => { results := [.lit (.bool false)], args := [d1, d2] }
  | _ => none }
def ArcRoomWrongFalsely : Prop := arcRoomRow.holds Try.pinned (OpenSpec.ofChange arcRoomWrong)

/-- 'tarnlaw28.NeedMay': WHATEVER THE INPUT: true; the input reads as it did. -/
def needMaySpec : ChangeSpec := { name := "needMay", fn := fun _ => fun
  | [d1, d2, d3] => { results := [.lit (.bool true)], args := [d1, d2, d3] }
  | _ => none }
def needMayRow : OpenClaim := { program := "ytnnmpfhliabpbaa", sum := "8437580b4464802979715c624776700fa37da143f748b5c2d8f77b9a59e5b8bd", func := "tarn/tarnlaw28.NeedMay", spec := "needMay", inPlace := ["internal/abi.NoEscape", "internal/bytealg.MakeNoZero"], apart := false }
def NeedMaySaid : Prop := needMayRow.holds Try.pinned (OpenSpec.ofChange needMaySpec)

/-- ITS FALSE NEIGHBOUR: 'it returns false'. Refute it at one input. -/
def needMayWrong : ChangeSpec := { name := "needMay", fn := fun _ => fun
  | [d1, d2, d3] => { results := [.lit (.bool false)], args := [d1, d2, d3] }
  | _ => none }
def NeedMayWrongFalsely : Prop := needMayRow.holds Try.pinned (OpenSpec.ofChange needMayWrong)

/-- 'tarnlaw28.NeedParts': WHATEVER THE INPUT: true; the input reads as it did. -/
def needPartsSpec : ChangeSpec := { name := "needParts", fn := fun _ => fun
  | [d1, d2, d3] => { results := [.lit (.bool true)], args := [d1, d2, d3] }
  | _ => none }
def needPartsRow : OpenClaim := { program := "ytnnmpfhliabpbaa", sum := "8437580b4464802979715c624776700fa37da143f748b5c2d8f77b9a59e5b8bd", func := "tarn/tarnlaw28.NeedParts", spec := "needParts", inPlace := ["internal/abi.NoEscape", "internal/bytealg.MakeNoZero"], apart := false }
def NeedPartsSaid : Prop := needPartsRow.holds Try.pinned (OpenSpec.ofChange needPartsSpec)

/-- ITS FALSE NEIGHBOUR: 'it returns false'. Refute it at one input. -/
def needPartsWrong : ChangeSpec := { name := "needParts", fn := fun _ => fun
  | [d1, d2, d3] => { results := [.lit (.bool false)], args := [d1, d2, d3] }
  | _ => none }
def NeedPartsWrongFalsely : Prop := needPartsRow.holds Try.pinned (OpenSpec.ofChange needPartsWrong)

/-- 'tarnlaw29.PendPlays': WHATEVER THE INPUT: true; the input reads as it did. -/
def pendPlaysSpec : ChangeSpec := { name := "pendPlays", fn := fun _ => fun
  | [d1, d2] => { results := [.lit (.bool true)], args := [d1, d2] }
  | _ => none }
def pendPlaysRow : OpenClaim := { program := "ytnnmpfhliabpbaa", sum := "8437580b4464802979715c624776700fa37da143f748b5c2d8f77b9a59e5b8bd", func := "tarn/tarnlaw29.PendPlays", spec := "pendPlays", apart := false }
def PendPlaysSaid : Prop := pendPlaysRow.holds Try.pinned (OpenSpec.ofChange pendPlaysSpec)

/-- ITS FALSE NEIGHBOUR: 'it returns false'. Refute it at one input. -/
def pendPlaysWrong : ChangeSpec := { name := "pendPlays", fn := fun _ => fun
  | [d1, d2] => { results := [.lit (.bool false)], args := [d1, d2] }
  | _ => none }
def PendPlaysWrongFalsely : Prop := pendPlaysRow.holds Try.pinned (OpenSpec.ofChange pendPlaysWrong)

/-- 'tarnlaw29.PendOnce': WHATEVER THE INPUT: true; the input reads as it did. -/
def pendOnceSpec : ChangeSpec := { name := "pendOnce", fn := fun _ => fun
  | [d1, d2] => { results := [.lit (.bool true)], args := [d1, d2] }
  | _ => none }
def pendOnceRow : OpenClaim := { program := "ytnnmpfhliabpbaa", sum := "8437580b4464802979715c624776700fa37da143f748b5c2d8f77b9a59e5b8bd", func := "tarn/tarnlaw29.PendOnce", spec := "pendOnce", apart := false }
def PendOnceSaid : Prop := pendOnceRow.holds Try.pinned (OpenSpec.ofChange pendOnceSpec)

/-- ITS FALSE NEIGHBOUR: 'it returns false'. Refute it at one input. -/
def pendOnceWrong : ChangeSpec := { name := "pendOnce", fn := fun _ => fun
  | [d1, d2] => { results := [.lit (.bool false)], args := [d1, d2] }
  | _ => none }
def PendOnceWrongFalsely : Prop := pendOnceRow.holds Try.pinned (OpenSpec.ofChange pendOnceWrong)

/-- 'tarnlaw37.PlanRounds': WHATEVER THE INPUT: true; the input reads as it did. -/
def planRoundsSpec : ChangeSpec := { name := "planRounds", fn := fun _ => fun
  | [d1, d2] => { results := [.lit (.bool true)], args := [d1, d2] }
  | _ => none }
def planRoundsRow : OpenClaim := { program := "ytnnmpfhliabpbaa", sum := "8437580b4464802979715c624776700fa37da143f748b5c2d8f77b9a59e5b8bd", func := "tarn/tarnlaw37.PlanRounds", spec := "planRounds", apart := false }
def PlanRoundsSaid : Prop := planRoundsRow.holds Try.pinned (OpenSpec.ofChange planRoundsSpec)

/-- ITS FALSE NEIGHBOUR: 'it returns false'. Refute it at one input. -/
def planRoundsWrong : ChangeSpec := { name := "planRounds", fn := fun _ => fun
  | [d1, d2] => { results := [.lit (.bool false)], args := [d1, d2] }
  | _ => none }
def PlanRoundsWrongFalsely : Prop := planRoundsRow.holds Try.pinned (OpenSpec.ofChange planRoundsWrong)

/- THE SECOND FORM. 'bulk': how many values and letters a reading holds, each counted each time it is reached (what is shared counts as often as it is met; a slice's spare places count too). A statement '..UptoSaid' is the law's where the arguments, and the package variables that the reading takes, are together of bulk at most 1048576: NARROWER than '..Said'. Prove '..Said' where nothing that the law and all that it calls make is longer than what came in: it says more and counts as full. Else prove '..UptoSaid'. A law counts once. -/
mutual
def uptoBulk {H : Type} : DataW H → Nat
  | .lit (.string bytes) => bytes.length + 1
  | .lit _ => 1
  | .nil => 1
  | .ptr d => uptoBulk d + 1
  | .slice elems spare => uptoBulkAll elems + uptoBulkAll spare + 1
  | .agg parts => uptoBulkAll parts + 1
  | .iface _ d => uptoBulk d + 1
  | .map entries => uptoBulkEntries entries + 1
  | .held _ => 1
def uptoBulkAll {H : Type} : List (DataW H) → Nat
  | [] => 0
  | d :: r => uptoBulk d + uptoBulkAll r
def uptoBulkEntries {H : Type} : List (Lit × DataW H) → Nat
  | [] => 0
  | x :: r => uptoBulkEntry x + uptoBulkEntries r
def uptoBulkEntry {H : Type} : Lit × DataW H → Nat
  | (.string bytes, d) => bytes.length + uptoBulk d + 1
  | (_, d) => uptoBulk d + 1
 end
def uptoSmall : (H : Type) → List (DataW H) → Bool := fun _ ds => decide (uptoBulkAll ds ≤ 1048576)
def OpenSpec.upto (s : _root_.Go.ChangeSpec) : _root_.Go.OpenSpec := { _root_.Go.OpenSpec.ofChange s with cond := some uptoSmall }

/-- 'tarnlaw17.VoteCounts', WHERE WHAT IT READS IS OF BULK AT MOST 1048576: true; the input reads as it did. -/
def voteCountsUptoRow : OpenClaim := { program := "ytnnmpfhliabpbaa", sum := "8437580b4464802979715c624776700fa37da143f748b5c2d8f77b9a59e5b8bd", func := "tarn/tarnlaw17.VoteCounts", spec := "voteCounts", apart := false, narrowed := true }
def VoteCountsUptoSaid : Prop := voteCountsUptoRow.holds Try.pinned (OpenSpec.upto voteCountsSpec)

/-- 'tarnlaw17.VoteOnce', WHERE WHAT IT READS IS OF BULK AT MOST 1048576: true; the input reads as it did. -/
def voteOnceUptoRow : OpenClaim := { program := "ytnnmpfhliabpbaa", sum := "8437580b4464802979715c624776700fa37da143f748b5c2d8f77b9a59e5b8bd", func := "tarn/tarnlaw17.VoteOnce", spec := "voteOnce", apart := false, narrowed := true }
def VoteOnceUptoSaid : Prop := voteOnceUptoRow.holds Try.pinned (OpenSpec.upto voteOnceSpec)

/-- 'tarnlaw18.LeadPlays', WHERE WHAT IT READS IS OF BULK AT MOST 1048576: true; the input reads as it did. -/
def leadPlaysUptoRow : OpenClaim := { program := "ytnnmpfhliabpbaa", sum := "8437580b4464802979715c624776700fa37da143f748b5c2d8f77b9a59e5b8bd", func := "tarn/tarnlaw18.LeadPlays", spec := "leadPlays", recurses := true, apart := false, narrowed := true }
def LeadPlaysUptoSaid : Prop := leadPlaysUptoRow.holds Try.pinned (OpenSpec.upto leadPlaysSpec)

/-- 'tarnlaw18.LeadDecides', WHERE WHAT IT READS IS OF BULK AT MOST 1048576: true; the input reads as it did. -/
def leadDecidesUptoRow : OpenClaim := { program := "ytnnmpfhliabpbaa", sum := "8437580b4464802979715c624776700fa37da143f748b5c2d8f77b9a59e5b8bd", func := "tarn/tarnlaw18.LeadDecides", spec := "leadDecides", recurses := true, apart := false, narrowed := true }
def LeadDecidesUptoSaid : Prop := leadDecidesUptoRow.holds Try.pinned (OpenSpec.upto leadDecidesSpec)

/-- 'tarnlaw21.OrderPlays', WHERE WHAT IT READS IS OF BULK AT MOST 1048576: true; the input reads as it did. -/
def orderPlaysUptoRow : OpenClaim := { program := "ytnnmpfhliabpbaa", sum := "8437580b4464802979715c624776700fa37da143f748b5c2d8f77b9a59e5b8bd", func := "tarn/tarnlaw21.OrderPlays", spec := "orderPlays", inPlace := ["slices.overlaps[int]"], apart := false, narrowed := true }
def OrderPlaysUptoSaid : Prop := orderPlaysUptoRow.holds Try.pinned (OpenSpec.upto orderPlaysSpec)

/-- 'tarnlaw21.OrderNone', WHERE WHAT IT READS IS OF BULK AT MOST 1048576: true; the input reads as it did. -/
def orderNoneUptoRow : OpenClaim := { program := "ytnnmpfhliabpbaa", sum := "8437580b4464802979715c624776700fa37da143f748b5c2d8f77b9a59e5b8bd", func := "tarn/tarnlaw21.OrderNone", spec := "orderNone", inPlace := ["slices.overlaps[int]"], apart := false, narrowed := true }
def OrderNoneUptoSaid : Prop := orderNoneUptoRow.holds Try.pinned (OpenSpec.upto orderNoneSpec)

/-- 'tarnlaw22.ArcRoom', WHERE WHAT IT READS IS OF BULK AT MOST 1048576: true; the input reads as it did. -/
def arcRoomUptoRow : OpenClaim := { program := "ytnnmpfhliabpbaa", sum := "8437580b4464802979715c624776700fa37da143f748b5c2d8f77b9a59e5b8bd", func := "tarn/tarnlaw22.ArcRoom", spec := "arcRoom", inPlace := ["slices.overlaps[int]"], apart := false, narrowed := true }
def ArcRoomUptoSaid : Prop := arcRoomUptoRow.holds Try.pinned (OpenSpec.upto arcRoomSpec)

/-- 'tarnlaw28.NeedMay', WHERE WHAT IT READS IS OF BULK AT MOST 1048576: true; the input reads as it did. -/
def needMayUptoRow : OpenClaim := { program := "ytnnmpfhliabpbaa", sum := "8437580b4464802979715c624776700fa37da143f748b5c2d8f77b9a59e5b8bd", func := "tarn/tarnlaw28.NeedMay", spec := "needMay", inPlace := ["internal/abi.NoEscape", "internal/bytealg.MakeNoZero"], apart := false, narrowed := true }
def NeedMayUptoSaid : Prop := needMayUptoRow.holds Try.pinned (OpenSpec.upto needMaySpec)

/-- 'tarnlaw28.NeedParts', WHERE WHAT IT READS IS OF BULK AT MOST 1048576: true; the input reads as it did. -/
def needPartsUptoRow : OpenClaim := { program := "ytnnmpfhliabpbaa", sum := "8437580b4464802979715c624776700fa37da143f748b5c2d8f77b9a59e5b8bd", func := "tarn/tarnlaw28.NeedParts", spec := "needParts", inPlace := ["internal/abi.NoEscape", "internal/bytealg.MakeNoZero"], apart := false, narrowed := true }
def NeedPartsUptoSaid : Prop := needPartsUptoRow.holds Try.pinned (OpenSpec.upto needPartsSpec)

/-- 'tarnlaw29.PendPlays', WHERE WHAT IT READS IS OF BULK AT MOST 1048576: true; the input reads as it did. -/
def pendPlaysUptoRow : OpenClaim := { program := "ytnnmpfhliabpbaa", sum := "8437580b4464802979715c624776700fa37da143f748b5c2d8f77b9a59e5b8bd", func := "tarn/tarnlaw29.PendPlays", spec := "pendPlays", apart := false, narrowed := true }
def PendPlaysUptoSaid : Prop := pendPlaysUptoRow.holds Try.pinned (OpenSpec.upto pendPlaysSpec)

/-- 'tarnlaw29.PendOnce', WHERE WHAT IT READS IS OF BULK AT MOST 1048576: true; the input reads as it did. -/
def pendOnceUptoRow : OpenClaim := { program := "ytnnmpfhliabpbaa", sum := "8437580b4464802979715c624776700fa37da143f748b5c2d8f77b9a59e5b8bd", func := "tarn/tarnlaw29.PendOnce", spec := "pendOnce", apart := false, narrowed := true }
def PendOnceUptoSaid : Prop := pendOnceUptoRow.holds Try.pinned (OpenSpec.upto pendOnceSpec)

/-- 'tarnlaw37.PlanRounds', WHERE WHAT IT READS IS OF BULK AT MOST 1048576: true; the input reads as it did. -/
def planRoundsUptoRow : OpenClaim := { program := "ytnnmpfhliabpbaa", sum := "8437580b4464802979715c624776700fa37da143f748b5c2d8f77b9a59e5b8bd", func := "tarn/tarnlaw37.PlanRounds", spec := "planRounds", apart := false, narrowed := true }
def PlanRoundsUptoSaid : Prop := planRoundsUptoRow.holds Try.pinned (OpenSpec.upto planRoundsSpec)

end Rows
end Go.Proofs.Ytnnmpfhliabpbaa
