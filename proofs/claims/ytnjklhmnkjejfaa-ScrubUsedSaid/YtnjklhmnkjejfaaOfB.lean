/-
  tarnref09.Merge.
-/
import Derived.Test.YtnjklhmnkjejfaaOf
namespace Go.Proofs.Ytnjklhmnkjejfaa
open Go.RowKit
set_option linter.unusedVariables false
set_option linter.unusedSimpArgs false
end Go.Proofs.Ytnjklhmnkjejfaa
