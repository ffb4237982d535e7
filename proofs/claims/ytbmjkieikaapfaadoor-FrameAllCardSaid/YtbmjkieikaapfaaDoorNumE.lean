/-
  The contract of the document's own List.
-/
import Derived.Test.YtbmjkieikaapfaaDoorNumD
namespace Go.Proofs.YtbmjkieikaapfaaDoor
open Go.RowKit
set_option linter.unusedVariables false

end Go.Proofs.YtbmjkieikaapfaaDoor
