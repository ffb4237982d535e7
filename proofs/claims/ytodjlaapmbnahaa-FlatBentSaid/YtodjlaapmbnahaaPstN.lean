/-
  pledge: may bytes of a whole volume be there (All), behind a history in which each thing is told ahead of the next one.
-/
import Derived.Test.YtodjlaapmbnahaaPstM
namespace Go.Proofs.Ytodjlaapmbnahaa
open Go.RowKit
set_option linter.unusedVariables false
set_option linter.unusedSimpArgs false

/-- the block i may not be there -/
def notB (L : List ByteArray) (s : ByteArray) (i : Nat) : Prop := s.size < 32 * i + 32 ∨ L[i]? ≠ some (s.extract (32 * i) (32 * i + 32))
theorem ksN_two {N : Nat} {w w' : World} {X : Prop} (h : N ≤ w'.heap.size ∧ Below N w w' ∧ X) : N ≤ w'.heap.size ∧ Below N w w' := ⟨h.1, h.2.1⟩
def PAllP (L : List ByteArray) (s : ByteArray) (w : World) (e : Ending) (w' : World) : Prop :=
  ((∃ i : Nat, i < 4 ∧ e = .returned (.int .i64 i) ∧ notB L s i ∧ ∀ j, j < i → ¬ notB L s j) ∨ (e = .returned (.int .i64 (-1)) ∧ ∀ j, j < 4 → ¬ notB L s j)) ∧ Below w.heap.size w w'
theorem meas_4 (j : Nat) (h : j < 4) : 4 - (intOf (.int .i64 ((j : Int) + 1))).toNat < 4 - (intOf (.int .i64 (j : Int))).toNat := by
  show 4 - ((j : Int) + 1).toNat < 4 - ((j : Int)).toNat
  omega
end Go.Proofs.Ytodjlaapmbnahaa
