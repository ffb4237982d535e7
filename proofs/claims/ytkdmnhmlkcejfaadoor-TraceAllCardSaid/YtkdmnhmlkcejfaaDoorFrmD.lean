/-
  tarnref03.Take; frames behind one another, as data.
-/
import Derived.Test.YtkdmnhmlkcejfaaDoorRefE
import Derived.Test.YtkdmnhmlkcejfaaDoorFrmB
namespace Go.Proofs.YtkdmnhmlkcejfaaDoor
open Go.RowKit
set_option linter.unusedVariables false
set_option linter.unusedSimpArgs false

end Go.Proofs.YtkdmnhmlkcejfaaDoor
