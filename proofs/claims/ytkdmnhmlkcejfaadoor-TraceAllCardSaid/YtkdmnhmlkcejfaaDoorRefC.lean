/-
  tarnref01: value; R.Word, Num.
-/
import Derived.Test.YtkdmnhmlkcejfaaDoorRefB
namespace Go.Proofs.YtkdmnhmlkcejfaaDoor
open Go.RowKit
set_option linter.unusedVariables false
set_option linter.unusedSimpArgs false

theorem valN_tk (l : List UInt8) (k : Nat) (h : k ≤ 8) : valN (l.take k) < 18446744073709551616 := by
  have h1 := valN_lt (l.take k)
  have h2 : (l.take k).length ≤ 8 := Nat.le_trans (List.length_take_le _ _) h
  exact Nat.lt_of_lt_of_le h1 (Nat.le_trans (Nat.pow_le_pow_right (by omega) h2) (by decide))
end Go.Proofs.YtkdmnhmlkcejfaaDoor
