/-
  The contract of the document's own List.
-/
import Derived.Test.YtoonlhjldkkanaaNumD
namespace Go.Proofs.Ytoonlhjldkkanaa
open Go.RowKit
set_option linter.unusedVariables false

end Go.Proofs.Ytoonlhjldkkanaa
