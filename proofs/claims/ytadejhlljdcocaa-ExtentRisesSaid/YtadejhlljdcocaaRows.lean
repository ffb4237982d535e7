/-
  No cell of these rows narrows 'for every input' (looked for: loops, veiled, ifaces, maps, wideKeys, modest, calm, conditions, laid).
  DERIVED. THE GIVEN ROWS OF THIS SEAT. 12 by the template 'for every input the law returns true; each argument reads behind the call as it read before'; 0 by the template 'total and deterministic' (their statements: YtadejhlljdcocaaTotals.lean).
  GIVEN WITH THE SEED: the statements are not yours to turn. If you find one false, say at which input.
  Laid BY PROGRAM, IN A SANDBOX (cutbox-rows.mjs): the forced cells as the released guide's own fill.sh prints them over the translation b385b7b702643280… (all of the seat's roots in one cut). By AI agents, Wed Nov 11 2026. No macro, syntax, notation, axiom, sorry.
-/
import Derived.Test.YtadejhlljdcocaaChecked
import GoSem.Claim
import GoSem.ClaimJoined
import GoSem.ClaimMapViews
import Derived.JoinedTies
import Derived.KernelRfl
namespace Go.Proofs.Ytadejhlljdcocaa
/- THE CELL 'sum', in the pinned program and in every row, IS THE sha256 OF THE DUMP (.gsa) THAT YtadejhlljdcocaaProg.lean LOADS. Nothing in Lean hashes anything: it is a label: what it is worth is what the hold of that sum in a sandbox is worth. -/
noncomputable def Try.pinned : Pinned := { name := "ytadejhlljdcocaa", sum := "b385b7b702643280f4df60f80c0a779fb36e7347403b4c8d6e7005b3d0ea1bf6", checked := Try.checked }
namespace Rows
def none {H : Type} : Left H := { results := [], args := [] }

/-- 'tarnlaw16.RlogNewer': WHATEVER THE INPUT: true; the input reads as it did. -/
def rlogNewerSpec : ChangeSpec := { name := "rlogNewer", fn := fun _ => fun
  | [d1, d2, d3] => { results := [.lit (.bool true)], args := [d1, d2, d3] }
  | _ => none }
def rlogNewerRow : OpenClaim := { program := "ytadejhlljdcocaa", sum := "b385b7b702643280f4df60f80c0a779fb36e7347403b4c8d6e7005b3d0ea1bf6", func := "tarn/tarnlaw16.RlogNewer", spec := "rlogNewer", unfollowed := true, recurses := true, apart := false }
def RlogNewerSaid : Prop := rlogNewerRow.holds Try.pinned (OpenSpec.ofChange rlogNewerSpec)

/-- ITS FALSE NEIGHBOUR: 'it returns false'. Refute it at one input. -/
def rlogNewerWrong : ChangeSpec := { name := "rlogNewer", fn := fun _ => fun
  | [d1, d2, d3] => { results := [.lit (.bool false)], args := [d1, d2, d3] }
  | _ => none }
def RlogNewerWrongFalsely : Prop := rlogNewerRow.holds Try.pinned (OpenSpec.ofChange rlogNewerWrong)

/-- 'tarnlaw18.LeadPlays': WHATEVER THE INPUT: true; the input reads as it did. -/
def leadPlaysSpec : ChangeSpec := { name := "leadPlays", fn := fun _ => fun
  | [d1, d2] => { results := [.lit (.bool true)], args := [d1, d2] }
  | _ => none }
def leadPlaysRow : OpenClaim := { program := "ytadejhlljdcocaa", sum := "b385b7b702643280f4df60f80c0a779fb36e7347403b4c8d6e7005b3d0ea1bf6", func := "tarn/tarnlaw18.LeadPlays", spec := "leadPlays", recurses := true, apart := false }
def LeadPlaysSaid : Prop := leadPlaysRow.holds Try.pinned (OpenSpec.ofChange leadPlaysSpec)

/-- ITS FALSE NEIGHBOUR: 'it returns false'. Refute it at one input. -/
def leadPlaysWrong : ChangeSpec := { name := "leadPlays", fn := fun _ => fun
  | [d1, d2] => { results := [.lit (.bool false)], args := [d1, d2] }
  | _ => none }
def LeadPlaysWrongFalsely : Prop := leadPlaysRow.holds Try.pinned (OpenSpec.ofChange leadPlaysWrong)

/-- 'tarnlaw18.LeadDecides': WHATEVER THE INPUT: true; the input reads as it did. -/
def leadDecidesSpec : ChangeSpec := { name := "leadDecides", fn := fun _ => fun
  | [d1, d2, d3] => { results := [.lit (.bool true)], args := [d1, d2, d3] }
  | _ => none }
def leadDecidesRow : OpenClaim := { program := "ytadejhlljdcocaa", sum := "b385b7b702643280f4df60f80c0a779fb36e7347403b4c8d6e7005b3d0ea1bf6", func := "tarn/tarnlaw18.LeadDecides", spec := "leadDecides", recurses := true, apart := false }
def LeadDecidesSaid : Prop := leadDecidesRow.holds Try.pinned (OpenSpec.ofChange leadDecidesSpec)

/-- ITS FALSE NEIGHBOUR: 'it returns false'. Refute it at one input. -/
def leadDecidesWrong : ChangeSpec := { name := "leadDecides", fn := fun _ => fun
  | [d1, d2, d3] => { results := [.lit (.bool false)], args := [d1, d2, d3] }
  | _ => none }
def LeadDecidesWrongFalsely : Prop := leadDecidesRow.holds Try.pinned (OpenSpec.ofChange leadDecidesWrong)

/-- 'tarnlaw22.ArcRoom': WHATEVER THE INPUT: true; the input reads as it did. -/
def arcRoomSpec : ChangeSpec := { name := "arcRoom", fn := fun _ => fun
  | [d1, d2] => { results := [.lit (.bool true)], args := [d1, d2] }
  | _ => none }
def arcRoomRow : OpenClaim := { program := "ytadejhlljdcocaa", sum := "b385b7b702643280f4df60f80c0a779fb36e7347403b4c8d6e7005b3d0ea1bf6", func := "tarn/tarnlaw22.ArcRoom", spec := "arcRoom", inPlace := ["slices.overlaps[int]"], apart := false }
def ArcRoomSaid : Prop := arcRoomRow.holds Try.pinned (OpenSpec.ofChange arcRoomSpec)

/-- ITS FALSE NEIGHBOUR: 'it returns false'. Refute it at one input. -/
def arcRoomWrong : ChangeSpec := { name := "arcRoom", fn := fun _ => fun
  | [d1, d2] => { results := [.lit (.bool false)], args := [d1, d2] }
  | _ => none }
def ArcRoomWrongFalsely : Prop := arcRoomRow.holds Try.pinned (OpenSpec.ofChange arcRoomWrong)

/-- 'tarnlaw24.MirrorNewest': WHATEVER THE INPUT: true; the input reads as it did. -/
def mirrorNewestSpec : ChangeSpec := { name := "mirrorNewest", fn := fun _ => fun
  | [d] => { results := [.lit (.bool true)], args := [d] }
  | _ => none }
def mirrorNewestRow : OpenClaim := { program := "ytadejhlljdcocaa", sum := "b385b7b702643280f4df60f80c0a779fb36e7347403b4c8d6e7005b3d0ea1bf6", func := "tarn/tarnlaw24.MirrorNewest", spec := "mirrorNewest", inPlace := ["internal/abi.NoEscape", "internal/bytealg.MakeNoZero", "slices.overlaps[tarn/api.Held]", "slices.overlaps[int]"], unfollowed := true, recurses := true, apart := false }
def MirrorNewestSaid : Prop := mirrorNewestRow.holds Try.pinned (OpenSpec.ofChange mirrorNewestSpec)

/-- ITS FALSE NEIGHBOUR: 'it returns false'. Refute it at one input. -/
def mirrorNewestWrong : ChangeSpec := { name := "mirrorNewest", fn := fun _ => fun
  | [d] => { results := [.lit (.bool false)], args := [d] }
  | _ => none }
def MirrorNewestWrongFalsely : Prop := mirrorNewestRow.holds Try.pinned (OpenSpec.ofChange mirrorNewestWrong)

/-- 'tarnlaw30.SourcePicks': WHATEVER THE INPUT: true; the input reads as it did. -/
def sourcePicksSpec : ChangeSpec := { name := "sourcePicks", fn := fun _ => fun
  | [d1, d2, d3] => { results := [.lit (.bool true)], args := [d1, d2, d3] }
  | _ => none }
def sourcePicksRow : OpenClaim := { program := "ytadejhlljdcocaa", sum := "b385b7b702643280f4df60f80c0a779fb36e7347403b4c8d6e7005b3d0ea1bf6", func := "tarn/tarnlaw30.SourcePicks", spec := "sourcePicks", inPlace := ["internal/abi.NoEscape", "internal/bytealg.MakeNoZero", "slices.overlaps[tarn/api.Held]"], unfollowed := true, recurses := true, apart := false }
def SourcePicksSaid : Prop := sourcePicksRow.holds Try.pinned (OpenSpec.ofChange sourcePicksSpec)

/-- ITS FALSE NEIGHBOUR: 'it returns false'. Refute it at one input. -/
def sourcePicksWrong : ChangeSpec := { name := "sourcePicks", fn := fun _ => fun
  | [d1, d2, d3] => { results := [.lit (.bool false)], args := [d1, d2, d3] }
  | _ => none }
def SourcePicksWrongFalsely : Prop := sourcePicksRow.holds Try.pinned (OpenSpec.ofChange sourcePicksWrong)

/-- 'tarnlaw30.SourceMore': WHATEVER THE INPUT: true; the input reads as it did. -/
def sourceMoreSpec : ChangeSpec := { name := "sourceMore", fn := fun _ => fun
  | [d1, d2, d3] => { results := [.lit (.bool true)], args := [d1, d2, d3] }
  | _ => none }
def sourceMoreRow : OpenClaim := { program := "ytadejhlljdcocaa", sum := "b385b7b702643280f4df60f80c0a779fb36e7347403b4c8d6e7005b3d0ea1bf6", func := "tarn/tarnlaw30.SourceMore", spec := "sourceMore", inPlace := ["internal/abi.NoEscape", "internal/bytealg.MakeNoZero", "slices.overlaps[tarn/api.Held]"], unfollowed := true, recurses := true, apart := false }
def SourceMoreSaid : Prop := sourceMoreRow.holds Try.pinned (OpenSpec.ofChange sourceMoreSpec)

/-- ITS FALSE NEIGHBOUR: 'it returns false'. Refute it at one input. -/
def sourceMoreWrong : ChangeSpec := { name := "sourceMore", fn := fun _ => fun
  | [d1, d2, d3] => { results := [.lit (.bool false)], args := [d1, d2, d3] }
  | _ => none }
def SourceMoreWrongFalsely : Prop := sourceMoreRow.holds Try.pinned (OpenSpec.ofChange sourceMoreWrong)

/-- 'tarnlaw34.ClientPlays': WHATEVER THE INPUT: true; the input reads as it did. -/
def clientPlaysSpec : ChangeSpec := { name := "clientPlays", fn := fun _ => fun
  | [d] => { results := [.lit (.bool true)], args := [d] }
  | _ => none }
def clientPlaysRow : OpenClaim := { program := "ytadejhlljdcocaa", sum := "b385b7b702643280f4df60f80c0a779fb36e7347403b4c8d6e7005b3d0ea1bf6", func := "tarn/tarnlaw34.ClientPlays", spec := "clientPlays", unfollowed := true, recurses := true, apart := false }
def ClientPlaysSaid : Prop := clientPlaysRow.holds Try.pinned (OpenSpec.ofChange clientPlaysSpec)

/-- ITS FALSE NEIGHBOUR: 'it returns false'. Refute it at one input. -/
def clientPlaysWrong : ChangeSpec := { name := "clientPlays", fn := fun _ => fun
  | [d] => { results := [.lit (.bool false)], args := [d] }
  | _ => none }
def ClientPlaysWrongFalsely : Prop := clientPlaysRow.holds Try.pinned (OpenSpec.ofChange clientPlaysWrong)

/-- 'tarnlaw34.ClientMost': WHATEVER THE INPUT: true; the input reads as it did. -/
def clientMostSpec : ChangeSpec := { name := "clientMost", fn := fun _ => fun
  | [d] => { results := [.lit (.bool true)], args := [d] }
  | _ => none }
def clientMostRow : OpenClaim := { program := "ytadejhlljdcocaa", sum := "b385b7b702643280f4df60f80c0a779fb36e7347403b4c8d6e7005b3d0ea1bf6", func := "tarn/tarnlaw34.ClientMost", spec := "clientMost", unfollowed := true, recurses := true, apart := false }
def ClientMostSaid : Prop := clientMostRow.holds Try.pinned (OpenSpec.ofChange clientMostSpec)

/-- ITS FALSE NEIGHBOUR: 'it returns false'. Refute it at one input. -/
def clientMostWrong : ChangeSpec := { name := "clientMost", fn := fun _ => fun
  | [d] => { results := [.lit (.bool false)], args := [d] }
  | _ => none }
def ClientMostWrongFalsely : Prop := clientMostRow.holds Try.pinned (OpenSpec.ofChange clientMostWrong)

/-- 'tarnlaw41.PlaceMends': WHATEVER THE INPUT: true; the input reads as it did. -/
def placeMendsSpec : ChangeSpec := { name := "placeMends", fn := fun _ => fun
  | [d1, d2] => { results := [.lit (.bool true)], args := [d1, d2] }
  | _ => none }
def placeMendsRow : OpenClaim := { program := "ytadejhlljdcocaa", sum := "b385b7b702643280f4df60f80c0a779fb36e7347403b4c8d6e7005b3d0ea1bf6", func := "tarn/tarnlaw41.PlaceMends", spec := "placeMends", unfollowed := true, recurses := true, apart := false }
def PlaceMendsSaid : Prop := placeMendsRow.holds Try.pinned (OpenSpec.ofChange placeMendsSpec)

/-- ITS FALSE NEIGHBOUR: 'it returns false'. Refute it at one input. -/
def placeMendsWrong : ChangeSpec := { name := "placeMends", fn := fun _ => fun
  | [d1, d2] => { results := [.lit (.bool false)], args := [d1, d2] }
  | _ => none }
def PlaceMendsWrongFalsely : Prop := placeMendsRow.holds Try.pinned (OpenSpec.ofChange placeMendsWrong)

/-- 'tarnlaw41.PlaceLoad': WHATEVER THE INPUT: true; the input reads as it did. -/
def placeLoadSpec : ChangeSpec := { name := "placeLoad", fn := fun _ => fun
  | [d] => { results := [.lit (.bool true)], args := [d] }
  | _ => none }
def placeLoadRow : OpenClaim := { program := "ytadejhlljdcocaa", sum := "b385b7b702643280f4df60f80c0a779fb36e7347403b4c8d6e7005b3d0ea1bf6", func := "tarn/tarnlaw41.PlaceLoad", spec := "placeLoad", unfollowed := true, recurses := true, apart := false }
def PlaceLoadSaid : Prop := placeLoadRow.holds Try.pinned (OpenSpec.ofChange placeLoadSpec)

/-- ITS FALSE NEIGHBOUR: 'it returns false'. Refute it at one input. -/
def placeLoadWrong : ChangeSpec := { name := "placeLoad", fn := fun _ => fun
  | [d] => { results := [.lit (.bool false)], args := [d] }
  | _ => none }
def PlaceLoadWrongFalsely : Prop := placeLoadRow.holds Try.pinned (OpenSpec.ofChange placeLoadWrong)

/-- 'tarnlaw48.ExtentRises': WHATEVER THE INPUT: true; the input reads as it did. -/
def extentRisesSpec : ChangeSpec := { name := "extentRises", fn := fun _ => fun
  | [d1, d2] => { results := [.lit (.bool true)], args := [d1, d2] }
  | _ => none }
def extentRisesRow : OpenClaim := { program := "ytadejhlljdcocaa", sum := "b385b7b702643280f4df60f80c0a779fb36e7347403b4c8d6e7005b3d0ea1bf6", func := "tarn/tarnlaw48.ExtentRises", spec := "extentRises", inPlace := ["internal/abi.NoEscape", "internal/bytealg.MakeNoZero", "slices.overlaps[tarn/api.Held]"], unfollowed := true, recurses := true, apart := false }
def ExtentRisesSaid : Prop := extentRisesRow.holds Try.pinned (OpenSpec.ofChange extentRisesSpec)

/-- ITS FALSE NEIGHBOUR: 'it returns false'. Refute it at one input. -/
def extentRisesWrong : ChangeSpec := { name := "extentRises", fn := fun _ => fun
  | [d1, d2] => { results := [.lit (.bool false)], args := [d1, d2] }
  | _ => none }
def ExtentRisesWrongFalsely : Prop := extentRisesRow.holds Try.pinned (OpenSpec.ofChange extentRisesWrong)

/- THE SECOND FORM. 'bulk': how many values and letters a reading holds, each counted each time it is reached (what is shared counts as often as it is met; a slice's spare places count too). A statement '..UptoSaid' is the law's where the arguments, and the package variables that the reading takes, are together of bulk at most 1048576: NARROWER than '..Said'. Prove '..Said' where nothing that the law and all that it calls make is longer than what came in: it says more and counts as full. Else prove '..UptoSaid'. A law counts once. -/
mutual
def uptoBulk {H : Type} : DataW H → Nat
  | .lit (.string bytes) => bytes.length + 1
  | .lit _ => 1
  | .nil => 1
  | .ptr d => uptoBulk d + 1
  | .slice elems spare => uptoBulkAll elems + uptoBulkAll spare + 1
  | .agg parts => uptoBulkAll parts + 1
  | .iface _ d => uptoBulk d + 1
  | .map entries => uptoBulkEntries entries + 1
  | .held _ => 1
def uptoBulkAll {H : Type} : List (DataW H) → Nat
  | [] => 0
  | d :: r => uptoBulk d + uptoBulkAll r
def uptoBulkEntries {H : Type} : List (Lit × DataW H) → Nat
  | [] => 0
  | x :: r => uptoBulkEntry x + uptoBulkEntries r
def uptoBulkEntry {H : Type} : Lit × DataW H → Nat
  | (.string bytes, d) => bytes.length + uptoBulk d + 1
  | (_, d) => uptoBulk d + 1
 end
def uptoSmall : (H : Type) → List (DataW H) → Bool := fun _ ds => decide (uptoBulkAll ds ≤ 1048576)
def OpenSpec.upto (s : _root_.Go.ChangeSpec) : _root_.Go.OpenSpec := { _root_.Go.OpenSpec.ofChange s with cond := some uptoSmall }

/-- 'tarnlaw16.RlogNewer', WHERE WHAT IT READS IS OF BULK AT MOST 1048576: true; the input reads as it did. -/
def rlogNewerUptoRow : OpenClaim := { program := "ytadejhlljdcocaa", sum := "b385b7b702643280f4df60f80c0a779fb36e7347403b4c8d6e7005b3d0ea1bf6", func := "tarn/tarnlaw16.RlogNewer", spec := "rlogNewer", unfollowed := true, recurses := true, apart := false, narrowed := true }
def RlogNewerUptoSaid : Prop := rlogNewerUptoRow.holds Try.pinned (OpenSpec.upto rlogNewerSpec)

/-- 'tarnlaw18.LeadPlays', WHERE WHAT IT READS IS OF BULK AT MOST 1048576: true; the input reads as it did. -/
def leadPlaysUptoRow : OpenClaim := { program := "ytadejhlljdcocaa", sum := "b385b7b702643280f4df60f80c0a779fb36e7347403b4c8d6e7005b3d0ea1bf6", func := "tarn/tarnlaw18.LeadPlays", spec := "leadPlays", recurses := true, apart := false, narrowed := true }
def LeadPlaysUptoSaid : Prop := leadPlaysUptoRow.holds Try.pinned (OpenSpec.upto leadPlaysSpec)

/-- 'tarnlaw18.LeadDecides', WHERE WHAT IT READS IS OF BULK AT MOST 1048576: true; the input reads as it did. -/
def leadDecidesUptoRow : OpenClaim := { program := "ytadejhlljdcocaa", sum := "b385b7b702643280f4df60f80c0a779fb36e7347403b4c8d6e7005b3d0ea1bf6", func := "tarn/tarnlaw18.LeadDecides", spec := "leadDecides", recurses := true, apart := false, narrowed := true }
def LeadDecidesUptoSaid : Prop := leadDecidesUptoRow.holds Try.pinned (OpenSpec.upto leadDecidesSpec)

/-- 'tarnlaw22.ArcRoom', WHERE WHAT IT READS IS OF BULK AT MOST 1048576: true; the input reads as it did. -/
def arcRoomUptoRow : OpenClaim := { program := "ytadejhlljdcocaa", sum := "b385b7b702643280f4df60f80c0a779fb36e7347403b4c8d6e7005b3d0ea1bf6", func := "tarn/tarnlaw22.ArcRoom", spec := "arcRoom", inPlace := ["slices.overlaps[int]"], apart := false, narrowed := true }
def ArcRoomUptoSaid : Prop := arcRoomUptoRow.holds Try.pinned (OpenSpec.upto arcRoomSpec)

/-- 'tarnlaw24.MirrorNewest', WHERE WHAT IT READS IS OF BULK AT MOST 1048576: true; the input reads as it did. -/
def mirrorNewestUptoRow : OpenClaim := { program := "ytadejhlljdcocaa", sum := "b385b7b702643280f4df60f80c0a779fb36e7347403b4c8d6e7005b3d0ea1bf6", func := "tarn/tarnlaw24.MirrorNewest", spec := "mirrorNewest", inPlace := ["internal/abi.NoEscape", "internal/bytealg.MakeNoZero", "slices.overlaps[tarn/api.Held]", "slices.overlaps[int]"], unfollowed := true, recurses := true, apart := false, narrowed := true }
def MirrorNewestUptoSaid : Prop := mirrorNewestUptoRow.holds Try.pinned (OpenSpec.upto mirrorNewestSpec)

/-- 'tarnlaw30.SourcePicks', WHERE WHAT IT READS IS OF BULK AT MOST 1048576: true; the input reads as it did. -/
def sourcePicksUptoRow : OpenClaim := { program := "ytadejhlljdcocaa", sum := "b385b7b702643280f4df60f80c0a779fb36e7347403b4c8d6e7005b3d0ea1bf6", func := "tarn/tarnlaw30.SourcePicks", spec := "sourcePicks", inPlace := ["internal/abi.NoEscape", "internal/bytealg.MakeNoZero", "slices.overlaps[tarn/api.Held]"], unfollowed := true, recurses := true, apart := false, narrowed := true }
def SourcePicksUptoSaid : Prop := sourcePicksUptoRow.holds Try.pinned (OpenSpec.upto sourcePicksSpec)

/-- 'tarnlaw30.SourceMore', WHERE WHAT IT READS IS OF BULK AT MOST 1048576: true; the input reads as it did. -/
def sourceMoreUptoRow : OpenClaim := { program := "ytadejhlljdcocaa", sum := "b385b7b702643280f4df60f80c0a779fb36e7347403b4c8d6e7005b3d0ea1bf6", func := "tarn/tarnlaw30.SourceMore", spec := "sourceMore", inPlace := ["internal/abi.NoEscape", "internal/bytealg.MakeNoZero", "slices.overlaps[tarn/api.Held]"], unfollowed := true, recurses := true, apart := false, narrowed := true }
def SourceMoreUptoSaid : Prop := sourceMoreUptoRow.holds Try.pinned (OpenSpec.upto sourceMoreSpec)

/-- 'tarnlaw34.ClientPlays', WHERE WHAT IT READS IS OF BULK AT MOST 1048576: true; the input reads as it did. -/
def clientPlaysUptoRow : OpenClaim := { program := "ytadejhlljdcocaa", sum := "b385b7b702643280f4df60f80c0a779fb36e7347403b4c8d6e7005b3d0ea1bf6", func := "tarn/tarnlaw34.ClientPlays", spec := "clientPlays", unfollowed := true, recurses := true, apart := false, narrowed := true }
def ClientPlaysUptoSaid : Prop := clientPlaysUptoRow.holds Try.pinned (OpenSpec.upto clientPlaysSpec)

/-- 'tarnlaw34.ClientMost', WHERE WHAT IT READS IS OF BULK AT MOST 1048576: true; the input reads as it did. -/
def clientMostUptoRow : OpenClaim := { program := "ytadejhlljdcocaa", sum := "b385b7b702643280f4df60f80c0a779fb36e7347403b4c8d6e7005b3d0ea1bf6", func := "tarn/tarnlaw34.ClientMost", spec := "clientMost", unfollowed := true, recurses := true, apart := false, narrowed := true }
def ClientMostUptoSaid : Prop := clientMostUptoRow.holds Try.pinned (OpenSpec.upto clientMostSpec)

/-- 'tarnlaw41.PlaceMends', WHERE WHAT IT READS IS OF BULK AT MOST 1048576: true; the input reads as it did. -/
def placeMendsUptoRow : OpenClaim := { program := "ytadejhlljdcocaa", sum := "b385b7b702643280f4df60f80c0a779fb36e7347403b4c8d6e7005b3d0ea1bf6", func := "tarn/tarnlaw41.PlaceMends", spec := "placeMends", unfollowed := true, recurses := true, apart := false, narrowed := true }
def PlaceMendsUptoSaid : Prop := placeMendsUptoRow.holds Try.pinned (OpenSpec.upto placeMendsSpec)

/-- 'tarnlaw41.PlaceLoad', WHERE WHAT IT READS IS OF BULK AT MOST 1048576: true; the input reads as it did. -/
def placeLoadUptoRow : OpenClaim := { program := "ytadejhlljdcocaa", sum := "b385b7b702643280f4df60f80c0a779fb36e7347403b4c8d6e7005b3d0ea1bf6", func := "tarn/tarnlaw41.PlaceLoad", spec := "placeLoad", unfollowed := true, recurses := true, apart := false, narrowed := true }
def PlaceLoadUptoSaid : Prop := placeLoadUptoRow.holds Try.pinned (OpenSpec.upto placeLoadSpec)

/-- 'tarnlaw48.ExtentRises', WHERE WHAT IT READS IS OF BULK AT MOST 1048576: true; the input reads as it did. -/
def extentRisesUptoRow : OpenClaim := { program := "ytadejhlljdcocaa", sum := "b385b7b702643280f4df60f80c0a779fb36e7347403b4c8d6e7005b3d0ea1bf6", func := "tarn/tarnlaw48.ExtentRises", spec := "extentRises", inPlace := ["internal/abi.NoEscape", "internal/bytealg.MakeNoZero", "slices.overlaps[tarn/api.Held]"], unfollowed := true, recurses := true, apart := false, narrowed := true }
def ExtentRisesUptoSaid : Prop := extentRisesUptoRow.holds Try.pinned (OpenSpec.upto extentRisesSpec)

end Rows
end Go.Proofs.Ytadejhlljdcocaa
