/-
  Several texts, laid together.
-/
import Derived.Test.YtjaaddjbmimjoaaMh23
/-
  An entry laid just behind all; entries laid one behind the other: rlog.lay, Append.
-/

namespace Go.Proofs.Ytjaaddjbmimjoaa
open Go.RowKit
set_option linter.unusedVariables false
set_option linter.unusedSimpArgs false

/-- an entry's lists do not lie in this block -/
def EN.far (e : EN) (g : Nat) : Prop := (∀ k, (Value.slice e.a1 e.c.M.length e.q1).ownBlock = some k → k ≠ g) ∧ ∀ k, (Value.slice e.a2 e.c.C.length e.q2).ownBlock = some k → k ≠ g
end Go.Proofs.Ytjaaddjbmimjoaa
