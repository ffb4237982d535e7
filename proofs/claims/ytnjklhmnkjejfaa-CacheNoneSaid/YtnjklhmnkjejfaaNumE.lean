/-
  The contract of the document's own List.
-/
import Derived.Test.YtnjklhmnkjejfaaNumD
namespace Go.Proofs.Ytnjklhmnkjejfaa
open Go.RowKit
set_option linter.unusedVariables false

end Go.Proofs.Ytnjklhmnkjejfaa
