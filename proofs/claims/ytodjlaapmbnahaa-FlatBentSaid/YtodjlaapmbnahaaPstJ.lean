/-
  pledge: what a block may hold (Of), where each writing but the last is over before the next began.
-/
import Derived.Test.YtodjlaapmbnahaaPstI
namespace Go.Proofs.Ytodjlaapmbnahaa
open Go.RowKit
open Go.Maps (Keyed)
set_option linter.unusedVariables false
set_option linter.unusedSimpArgs false

/-- the value of what was written last -/
def sureU (W : List Us) : ByteArray := (W.map (fun u => u.val)).getLastD (zeroL 32)
theorem sure_next {W : List Us} {j : Nat} {x : Us} (h : W[j]? = some x) : sureU (W.take (j + 1)) = x.val := by
  unfold sureU
  rw [take_next h, List.map_append]
  simp
end Go.Proofs.Ytodjlaapmbnahaa
