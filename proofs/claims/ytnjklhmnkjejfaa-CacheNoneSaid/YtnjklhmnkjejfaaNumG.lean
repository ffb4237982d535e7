/-
  The contracts of a source's Int, Text, Word, Bool, End, also of no source.
-/
import Derived.Test.YtnjklhmnkjejfaaNumF
namespace Go.Proofs.Ytnjklhmnkjejfaa
open Go.RowKit
set_option linter.unusedVariables false

/-- Text(limit) -/
def RS.textS (r : RS) (limit : Int) : RS := (r.numS (min limit 65536).toNat).takeS (r.numV (min limit 65536).toNat)
def RS.textB (r : RS) (limit : Int) : List UInt8 := (r.numS (min limit 65536).toNat).takeB (r.numV (min limit 65536).toNat)
def RS.endS (r : RS) : RS := if r.s = [] then r else r.fail 3
/-- Word() -/
def RS.wordV (r : RS) : Nat := valN (r.takeB 4)
end Go.Proofs.Ytnjklhmnkjejfaa
