/-
  No cell of these rows narrows 'for every input' (looked for: loops, veiled, ifaces, maps, wideKeys, modest, calm, conditions, laid).
  DERIVED. THE GIVEN ROWS OF THIS SEAT. 8 by the template 'for every input the law returns true; each argument reads behind the call as it read before'; 0 by the template 'total and deterministic' (their statements: YtjpnbicnaeaacaaTotals.lean).
  GIVEN WITH THE SEED: the statements are not yours to turn. If you find one false, say at which input.
  Laid BY PROGRAM, IN A SANDBOX (cutbox-rows.mjs): the forced cells as the released guide's own fill.sh prints them over the translation 47689d0dc8246d58… (all of the seat's roots in one cut). By AI agents, Wed Nov 11 2026. No macro, syntax, notation, axiom, sorry.
-/
import Derived.Test.YtjpnbicnaeaacaaChecked
import GoSem.Claim
import GoSem.ClaimJoined
import GoSem.ClaimMapViews
import Derived.JoinedTies
import Derived.KernelRfl
namespace Go.Proofs.Ytjpnbicnaeaacaa
/- THE CELL 'sum', in the pinned program and in every row, IS THE sha256 OF THE DUMP (.gsa) THAT YtjpnbicnaeaacaaProg.lean LOADS. Nothing in Lean hashes anything: it is a label: what it is worth is what the hold of that sum in a sandbox is worth. -/
noncomputable def Try.pinned : Pinned := { name := "ytjpnbicnaeaacaa", sum := "47689d0dc8246d58442aae76a8367e08a70554fe08880925d66599299df131e0", checked := Try.checked }
namespace Rows
def none {H : Type} : Left H := { results := [], args := [] }

/-- 'tarnlaw12.DecideOnce': WHATEVER THE INPUT: true; the input reads as it did. -/
def decideOnceSpec : ChangeSpec := { name := "decideOnce", fn := fun _ => fun
  | [d1, d2, d3] => { results := [.lit (.bool true)], args := [d1, d2, d3] }
  | _ => none }
def decideOnceRow : OpenClaim := { program := "ytjpnbicnaeaacaa", sum := "47689d0dc8246d58442aae76a8367e08a70554fe08880925d66599299df131e0", func := "tarn/tarnlaw12.DecideOnce", spec := "decideOnce", plainKeys := false, apart := false }
def DecideOnceSaid : Prop := decideOnceRow.holds Try.pinned (OpenSpec.ofChange decideOnceSpec)

/-- ITS FALSE NEIGHBOUR: 'it returns false'. Refute it at one input. -/
def decideOnceWrong : ChangeSpec := { name := "decideOnce", fn := fun _ => fun
  | [d1, d2, d3] => { results := [.lit (.bool false)], args := [d1, d2, d3] }
  | _ => none }
def DecideOnceWrongFalsely : Prop := decideOnceRow.holds Try.pinned (OpenSpec.ofChange decideOnceWrong)

/-- 'tarnlaw28.NeedMay': WHATEVER THE INPUT: true; the input reads as it did. -/
def needMaySpec : ChangeSpec := { name := "needMay", fn := fun _ => fun
  | [d1, d2, d3] => { results := [.lit (.bool true)], args := [d1, d2, d3] }
  | _ => none }
def needMayRow : OpenClaim := { program := "ytjpnbicnaeaacaa", sum := "47689d0dc8246d58442aae76a8367e08a70554fe08880925d66599299df131e0", func := "tarn/tarnlaw28.NeedMay", spec := "needMay", inPlace := ["internal/abi.NoEscape", "internal/bytealg.MakeNoZero"], plainKeys := false, apart := false }
def NeedMaySaid : Prop := needMayRow.holds Try.pinned (OpenSpec.ofChange needMaySpec)

/-- ITS FALSE NEIGHBOUR: 'it returns false'. Refute it at one input. -/
def needMayWrong : ChangeSpec := { name := "needMay", fn := fun _ => fun
  | [d1, d2, d3] => { results := [.lit (.bool false)], args := [d1, d2, d3] }
  | _ => none }
def NeedMayWrongFalsely : Prop := needMayRow.holds Try.pinned (OpenSpec.ofChange needMayWrong)

/-- 'tarnlaw28.NeedParts': WHATEVER THE INPUT: true; the input reads as it did. -/
def needPartsSpec : ChangeSpec := { name := "needParts", fn := fun _ => fun
  | [d1, d2, d3] => { results := [.lit (.bool true)], args := [d1, d2, d3] }
  | _ => none }
def needPartsRow : OpenClaim := { program := "ytjpnbicnaeaacaa", sum := "47689d0dc8246d58442aae76a8367e08a70554fe08880925d66599299df131e0", func := "tarn/tarnlaw28.NeedParts", spec := "needParts", inPlace := ["internal/abi.NoEscape", "internal/bytealg.MakeNoZero"], plainKeys := false, apart := false }
def NeedPartsSaid : Prop := needPartsRow.holds Try.pinned (OpenSpec.ofChange needPartsSpec)

/-- ITS FALSE NEIGHBOUR: 'it returns false'. Refute it at one input. -/
def needPartsWrong : ChangeSpec := { name := "needParts", fn := fun _ => fun
  | [d1, d2, d3] => { results := [.lit (.bool false)], args := [d1, d2, d3] }
  | _ => none }
def NeedPartsWrongFalsely : Prop := needPartsRow.holds Try.pinned (OpenSpec.ofChange needPartsWrong)

/-- 'tarnlaw37.PlanParts': WHATEVER THE INPUT: true; the input reads as it did. -/
def planPartsSpec : ChangeSpec := { name := "planParts", fn := fun _ => fun
  | [d1, d2, d3] => { results := [.lit (.bool true)], args := [d1, d2, d3] }
  | _ => none }
def planPartsRow : OpenClaim := { program := "ytjpnbicnaeaacaa", sum := "47689d0dc8246d58442aae76a8367e08a70554fe08880925d66599299df131e0", func := "tarn/tarnlaw37.PlanParts", spec := "planParts", inPlace := ["internal/abi.NoEscape", "internal/bytealg.MakeNoZero"], plainKeys := false, apart := false }
def PlanPartsSaid : Prop := planPartsRow.holds Try.pinned (OpenSpec.ofChange planPartsSpec)

/-- ITS FALSE NEIGHBOUR: 'it returns false'. Refute it at one input. -/
def planPartsWrong : ChangeSpec := { name := "planParts", fn := fun _ => fun
  | [d1, d2, d3] => { results := [.lit (.bool false)], args := [d1, d2, d3] }
  | _ => none }
def PlanPartsWrongFalsely : Prop := planPartsRow.holds Try.pinned (OpenSpec.ofChange planPartsWrong)

/-- 'tarnlaw40.SearchOrders': WHATEVER THE INPUT: true; the input reads as it did. -/
def searchOrdersSpec : ChangeSpec := { name := "searchOrders", fn := fun _ => fun
  | [d1, d2, d3] => { results := [.lit (.bool true)], args := [d1, d2, d3] }
  | _ => none }
def searchOrdersRow : OpenClaim := { program := "ytjpnbicnaeaacaa", sum := "47689d0dc8246d58442aae76a8367e08a70554fe08880925d66599299df131e0", func := "tarn/tarnlaw40.SearchOrders", spec := "searchOrders", recurses := true, plainKeys := false, apart := false }
def SearchOrdersSaid : Prop := searchOrdersRow.holds Try.pinned (OpenSpec.ofChange searchOrdersSpec)

/-- ITS FALSE NEIGHBOUR: 'it returns false'. Refute it at one input. -/
def searchOrdersWrong : ChangeSpec := { name := "searchOrders", fn := fun _ => fun
  | [d1, d2, d3] => { results := [.lit (.bool false)], args := [d1, d2, d3] }
  | _ => none }
def SearchOrdersWrongFalsely : Prop := searchOrdersRow.holds Try.pinned (OpenSpec.ofChange searchOrdersWrong)

/-- 'tarnlaw40.SearchMore': WHATEVER THE INPUT: true; the input reads as it did. -/
def searchMoreSpec : ChangeSpec := { name := "searchMore", fn := fun _ => fun
  | [d1, d2, d3] => { results := [.lit (.bool true)], args := [d1, d2, d3] }
  | _ => none }
def searchMoreRow : OpenClaim := { program := "ytjpnbicnaeaacaa", sum := "47689d0dc8246d58442aae76a8367e08a70554fe08880925d66599299df131e0", func := "tarn/tarnlaw40.SearchMore", spec := "searchMore", recurses := true, plainKeys := false, apart := false }
def SearchMoreSaid : Prop := searchMoreRow.holds Try.pinned (OpenSpec.ofChange searchMoreSpec)

/-- ITS FALSE NEIGHBOUR: 'it returns false'. Refute it at one input. -/
def searchMoreWrong : ChangeSpec := { name := "searchMore", fn := fun _ => fun
  | [d1, d2, d3] => { results := [.lit (.bool false)], args := [d1, d2, d3] }
  | _ => none }
def SearchMoreWrongFalsely : Prop := searchMoreRow.holds Try.pinned (OpenSpec.ofChange searchMoreWrong)

/-- 'tarnlaw41.PlaceMends': WHATEVER THE INPUT: true; the input reads as it did. -/
def placeMendsSpec : ChangeSpec := { name := "placeMends", fn := fun _ => fun
  | [d1, d2] => { results := [.lit (.bool true)], args := [d1, d2] }
  | _ => none }
def placeMendsRow : OpenClaim := { program := "ytjpnbicnaeaacaa", sum := "47689d0dc8246d58442aae76a8367e08a70554fe08880925d66599299df131e0", func := "tarn/tarnlaw41.PlaceMends", spec := "placeMends", unfollowed := true, recurses := true, plainKeys := false, apart := false }
def PlaceMendsSaid : Prop := placeMendsRow.holds Try.pinned (OpenSpec.ofChange placeMendsSpec)

/-- ITS FALSE NEIGHBOUR: 'it returns false'. Refute it at one input. -/
def placeMendsWrong : ChangeSpec := { name := "placeMends", fn := fun _ => fun
  | [d1, d2] => { results := [.lit (.bool false)], args := [d1, d2] }
  | _ => none }
def PlaceMendsWrongFalsely : Prop := placeMendsRow.holds Try.pinned (OpenSpec.ofChange placeMendsWrong)

/-- 'tarnlaw41.PlaceLoad': WHATEVER THE INPUT: true; the input reads as it did. -/
def placeLoadSpec : ChangeSpec := { name := "placeLoad", fn := fun _ => fun
  | [d] => { results := [.lit (.bool true)], args := [d] }
  | _ => none }
def placeLoadRow : OpenClaim := { program := "ytjpnbicnaeaacaa", sum := "47689d0dc8246d58442aae76a8367e08a70554fe08880925d66599299df131e0", func := "tarn/tarnlaw41.PlaceLoad", spec := "placeLoad", unfollowed := true, recurses := true, plainKeys := false, apart := false }
def PlaceLoadSaid : Prop := placeLoadRow.holds Try.pinned (OpenSpec.ofChange placeLoadSpec)

/-- ITS FALSE NEIGHBOUR: 'it returns false'. Refute it at one input. -/
def placeLoadWrong : ChangeSpec := { name := "placeLoad", fn := fun _ => fun
  | [d] => { results := [.lit (.bool false)], args := [d] }
  | _ => none }
def PlaceLoadWrongFalsely : Prop := placeLoadRow.holds Try.pinned (OpenSpec.ofChange placeLoadWrong)

/- THE SECOND FORM. 'bulk': how many values and letters a reading holds, each counted each time it is reached (what is shared counts as often as it is met; a slice's spare places count too). A statement '..UptoSaid' is the law's where the arguments, and the package variables that the reading takes, are together of bulk at most 1048576: NARROWER than '..Said'. Prove '..Said' where nothing that the law and all that it calls make is longer than what came in: it says more and counts as full. Else prove '..UptoSaid'. A law counts once. -/
mutual
def uptoBulk {H : Type} : DataW H → Nat
  | .lit (.string bytes) => bytes.length + 1
  | .lit _ => 1
  | .nil => 1
  | .ptr d => uptoBulk d + 1
  | .slice elems spare => uptoBulkAll elems + uptoBulkAll spare + 1
  | .agg parts => uptoBulkAll parts + 1
  | .iface _ d => uptoBulk d + 1
  | .map entries => uptoBulkEntries entries + 1
  | .held _ => 1
def uptoBulkAll {H : Type} : List (DataW H) → Nat
  | [] => 0
  | d :: r => uptoBulk d + uptoBulkAll r
def uptoBulkEntries {H : Type} : List (Lit × DataW H) → Nat
  | [] => 0
  | x :: r => uptoBulkEntry x + uptoBulkEntries r
def uptoBulkEntry {H : Type} : Lit × DataW H → Nat
  | (.string bytes, d) => bytes.length + uptoBulk d + 1
  | (_, d) => uptoBulk d + 1
 end
def uptoSmall : (H : Type) → List (DataW H) → Bool := fun _ ds => decide (uptoBulkAll ds ≤ 1048576)
def OpenSpec.upto (s : _root_.Go.ChangeSpec) : _root_.Go.OpenSpec := { _root_.Go.OpenSpec.ofChange s with cond := some uptoSmall }

/-- 'tarnlaw12.DecideOnce', WHERE WHAT IT READS IS OF BULK AT MOST 1048576: true; the input reads as it did. -/
def decideOnceUptoRow : OpenClaim := { program := "ytjpnbicnaeaacaa", sum := "47689d0dc8246d58442aae76a8367e08a70554fe08880925d66599299df131e0", func := "tarn/tarnlaw12.DecideOnce", spec := "decideOnce", plainKeys := false, apart := false, narrowed := true }
def DecideOnceUptoSaid : Prop := decideOnceUptoRow.holds Try.pinned (OpenSpec.upto decideOnceSpec)

/-- 'tarnlaw28.NeedMay', WHERE WHAT IT READS IS OF BULK AT MOST 1048576: true; the input reads as it did. -/
def needMayUptoRow : OpenClaim := { program := "ytjpnbicnaeaacaa", sum := "47689d0dc8246d58442aae76a8367e08a70554fe08880925d66599299df131e0", func := "tarn/tarnlaw28.NeedMay", spec := "needMay", inPlace := ["internal/abi.NoEscape", "internal/bytealg.MakeNoZero"], plainKeys := false, apart := false, narrowed := true }
def NeedMayUptoSaid : Prop := needMayUptoRow.holds Try.pinned (OpenSpec.upto needMaySpec)

/-- 'tarnlaw28.NeedParts', WHERE WHAT IT READS IS OF BULK AT MOST 1048576: true; the input reads as it did. -/
def needPartsUptoRow : OpenClaim := { program := "ytjpnbicnaeaacaa", sum := "47689d0dc8246d58442aae76a8367e08a70554fe08880925d66599299df131e0", func := "tarn/tarnlaw28.NeedParts", spec := "needParts", inPlace := ["internal/abi.NoEscape", "internal/bytealg.MakeNoZero"], plainKeys := false, apart := false, narrowed := true }
def NeedPartsUptoSaid : Prop := needPartsUptoRow.holds Try.pinned (OpenSpec.upto needPartsSpec)

/-- 'tarnlaw37.PlanParts', WHERE WHAT IT READS IS OF BULK AT MOST 1048576: true; the input reads as it did. -/
def planPartsUptoRow : OpenClaim := { program := "ytjpnbicnaeaacaa", sum := "47689d0dc8246d58442aae76a8367e08a70554fe08880925d66599299df131e0", func := "tarn/tarnlaw37.PlanParts", spec := "planParts", inPlace := ["internal/abi.NoEscape", "internal/bytealg.MakeNoZero"], plainKeys := false, apart := false, narrowed := true }
def PlanPartsUptoSaid : Prop := planPartsUptoRow.holds Try.pinned (OpenSpec.upto planPartsSpec)

/-- 'tarnlaw40.SearchOrders', WHERE WHAT IT READS IS OF BULK AT MOST 1048576: true; the input reads as it did. -/
def searchOrdersUptoRow : OpenClaim := { program := "ytjpnbicnaeaacaa", sum := "47689d0dc8246d58442aae76a8367e08a70554fe08880925d66599299df131e0", func := "tarn/tarnlaw40.SearchOrders", spec := "searchOrders", recurses := true, plainKeys := false, apart := false, narrowed := true }
def SearchOrdersUptoSaid : Prop := searchOrdersUptoRow.holds Try.pinned (OpenSpec.upto searchOrdersSpec)

/-- 'tarnlaw40.SearchMore', WHERE WHAT IT READS IS OF BULK AT MOST 1048576: true; the input reads as it did. -/
def searchMoreUptoRow : OpenClaim := { program := "ytjpnbicnaeaacaa", sum := "47689d0dc8246d58442aae76a8367e08a70554fe08880925d66599299df131e0", func := "tarn/tarnlaw40.SearchMore", spec := "searchMore", recurses := true, plainKeys := false, apart := false, narrowed := true }
def SearchMoreUptoSaid : Prop := searchMoreUptoRow.holds Try.pinned (OpenSpec.upto searchMoreSpec)

/-- 'tarnlaw41.PlaceMends', WHERE WHAT IT READS IS OF BULK AT MOST 1048576: true; the input reads as it did. -/
def placeMendsUptoRow : OpenClaim := { program := "ytjpnbicnaeaacaa", sum := "47689d0dc8246d58442aae76a8367e08a70554fe08880925d66599299df131e0", func := "tarn/tarnlaw41.PlaceMends", spec := "placeMends", unfollowed := true, recurses := true, plainKeys := false, apart := false, narrowed := true }
def PlaceMendsUptoSaid : Prop := placeMendsUptoRow.holds Try.pinned (OpenSpec.upto placeMendsSpec)

/-- 'tarnlaw41.PlaceLoad', WHERE WHAT IT READS IS OF BULK AT MOST 1048576: true; the input reads as it did. -/
def placeLoadUptoRow : OpenClaim := { program := "ytjpnbicnaeaacaa", sum := "47689d0dc8246d58442aae76a8367e08a70554fe08880925d66599299df131e0", func := "tarn/tarnlaw41.PlaceLoad", spec := "placeLoad", unfollowed := true, recurses := true, plainKeys := false, apart := false, narrowed := true }
def PlaceLoadUptoSaid : Prop := placeLoadUptoRow.holds Try.pinned (OpenSpec.upto placeLoadSpec)

end Rows
end Go.Proofs.Ytjpnbicnaeaacaa
