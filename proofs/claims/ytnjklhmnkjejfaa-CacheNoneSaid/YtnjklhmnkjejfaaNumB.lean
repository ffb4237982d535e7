/-
  The contracts of num's Put, Word, Text, Bool: the bytes that they make.
-/
import Derived.Test.YtnjklhmnkjejfaaNumA
import Derived.Test.YtnjklhmnkjejfaaShelf
namespace Go.Proofs.Ytnjklhmnkjejfaa
open Go.RowKit
set_option linter.unusedVariables false

def U64 (n : Int) : Prop := 0 ≤ n ∧ n ≤ 18446744073709551615
theorem info_u8 : (Try.prog.info? 5).map (fun i => (i.zero, i.size, i.bytes)) = some (some (.int .u8 0), 1, 1) := by kernel_rfl

end Go.Proofs.Ytnjklhmnkjejfaa
