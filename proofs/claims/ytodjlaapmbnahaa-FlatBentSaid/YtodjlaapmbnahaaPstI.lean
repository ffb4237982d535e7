/-
  pledge: is something begun behind an end; may a value be there.
-/
import Derived.Test.YtodjlaapmbnahaaPstH
import Derived.Maps.RangeWalk
namespace Go.Proofs.Ytodjlaapmbnahaa
open Go.RowKit
open Go.Maps (Keyed)
set_option linter.unusedVariables false
set_option linter.unusedSimpArgs false

noncomputable abbrev plP : Value → Option (DataW Unit × List MemPlace) := plainElem Try.prog 3
def POverP (L : List Int) (til : Int) (w : World) (e : Ending) (w' : World) : Prop := e = .returned (.bool (L.any (fun x => decide (til < x)))) ∧ Below w.heap.size w w'
def PKeepsP (s v : ByteArray) (w : World) (e : Ending) (w' : World) : Prop := e = .returned (.bool (decide (v = s))) ∧ Below w.heap.size w w'
end Go.Proofs.Ytodjlaapmbnahaa
