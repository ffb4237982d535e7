/-
  The contracts of a source's small calls: Err, Wrong, Left, Take. Condition: the source is a block of its own (two cells), or nil.
-/
import Derived.Test.YtnjklhmnkjejfaaBase
import Derived.WalkSpells
import Derived.WalkLawsBesides
import Derived.BigQuiet
import Derived.Deep.QuietTactic
namespace Go.Proofs.Ytnjklhmnkjejfaa
open Go.RowKit
set_option linter.unusedVariables false

/-- bytes that are left, and the first error -/
structure RS where
  s : List UInt8
  e : Int
def RS.fail (r : RS) (n : Int) : RS := if r.e = 0 ∧ n ≠ 0 then ⟨[], n⟩ else r
def RS.takeS (r : RS) (n : Int) : RS := if r.e ≠ 0 then r else if n < 0 ∨ (r.s.length : Int) < n then r.fail 2 else ⟨r.s.drop n.toNat, r.e⟩
def RS.takeB (r : RS) (n : Int) : List UInt8 := if r.e ≠ 0 then [] else if n < 0 ∨ (r.s.length : Int) < n then [] else r.s.take n.toNat

end Go.Proofs.Ytnjklhmnkjejfaa
