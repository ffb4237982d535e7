/-
  The waking call of layer 1's statements: a number there and back.
-/
import Derived.Test.YtkdmnhmlkcejfaaDoorNumH
namespace Go.Proofs.YtkdmnhmlkcejfaaDoor
open Go.RowKit
set_option linter.unusedVariables false

theorem put300 : putN 300 = [2, 1, 44] := by decide +kernel
theorem put2 : putN 2 = [1, 2] := by decide +kernel
theorem aw_v : (⟨[2, 1, 44, 1, 2, 97, 98], 0⟩ : RS).numV 300 = 300 := by decide +kernel
theorem aw_s : (⟨[2, 1, 44, 1, 2, 97, 98], 0⟩ : RS).numS 300 = ⟨[1, 2, 97, 98], 0⟩ := by rfl
theorem aw_t : (⟨[1, 2, 97, 98], 0⟩ : RS).textB 2 = [97, 98] := by decide +kernel
theorem aw_u : (⟨[1, 2, 97, 98], 0⟩ : RS).textS 2 = ⟨[], 0⟩ := by rfl
theorem aw_e : (⟨[], 0⟩ : RS).endS = ⟨[], 0⟩ := by rfl
end Go.Proofs.YtkdmnhmlkcejfaaDoor
