/-
  need: Odd; the waking call of layer 28; NeedMay.
-/
import Derived.Test.YtodjlaapmbnahaaNeedC
namespace Go.Proofs.Ytodjlaapmbnahaa
open Go.RowKit
set_option linter.unusedVariables false
set_option linter.unusedSimpArgs false

theorem wrap_wf (z : Int) : (Lit.int .i64 (wrap64 z)).wf = true := wf_of (by unfold wrap64; omega)
theorem wrap_wf' (z : Int) : (Lit.int .i64 (IntKind.i64.wrap z)).wf = true := wf_of (by rw [IntKind.wrap_i64]; omega)
end Go.Proofs.Ytodjlaapmbnahaa
