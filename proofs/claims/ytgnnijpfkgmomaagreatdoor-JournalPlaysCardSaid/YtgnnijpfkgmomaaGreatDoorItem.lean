/-
  item: Of, Bytes, May, Newer.
-/
import Derived.Test.YtgnnijpfkgmomaaGreatDoorMh4
import Derived.Test.YtgnnijpfkgmomaaGreatDoorEq
import Derived.Lib.SlicesS
namespace Go.Proofs.YtgnnijpfkgmomaaGreatDoor
open Go.RowKit
set_option linter.unusedVariables false
set_option linter.unusedSimpArgs false

theorem ba_ne {a b : ByteArray} (h : a ≠ b) : (a.toList == b.toList) = false := by
  rw [beq_eq_false_iff_ne]
  intro e
  rw [ByteArray.toList_eq, ByteArray.toList_eq] at e
  exact h (str_ext e)
theorem ba_empty {a : ByteArray} (h : a ≠ ⟨#[]⟩) : ¬ a.toList = [] := by
  intro e
  rw [ByteArray.toList_eq] at e
  exact h (str_ext e)
def itemA (v : Int) (D : ByteArray) : Array Value := #[.int .u64 v, .string D]
end Go.Proofs.YtgnnijpfkgmomaaGreatDoor
