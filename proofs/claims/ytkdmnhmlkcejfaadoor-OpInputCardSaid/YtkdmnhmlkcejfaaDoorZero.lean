/-
  Noughts: strings.Repeat of one byte of 0. Of any program that has it on its shelf.
-/
import Derived.Test.YtkdmnhmlkcejfaaDoorHeld
import Derived.Test.YtkdmnhmlkcejfaaDoorShelf
namespace Go.Proofs.YtkdmnhmlkcejfaaDoor
open Go.RowKit
set_option linter.unusedVariables false

def zeroL (n : Nat) : ByteArray := ⟨(List.replicate n 0).toArray⟩
theorem repeat0 (n : Nat) (w : World) (hn : n ≤ 140737488355328) : Calls Tryd.prog 81 #[.string ⟨#[0]⟩, .int .i64 n] w fun e w' => e = .returned (.string (zeroL n)) ∧ Below w.heap.size w w' := by
  have h := Tryd.strings_Repeat ⟨#[0]⟩ n w (by omega) (by show 1 * n ≤ _; omega)
  have e : Lib.repeatL [0] n = List.replicate n 0 := by
    have := Lib.repeatL_replicate 0 1 n
    simpa using this
  refine h.mono fun e' w' hw => ⟨?_, hw.2⟩
  rw [hw.1]
  show Ending.returned (.string ⟨(Lib.repeatL [0] n).toArray⟩) = _
  rw [e]; rfl
theorem zeroL_size (n : Nat) : (zeroL n).size = n := by simp [zeroL, ByteArray.size]
end Go.Proofs.YtkdmnhmlkcejfaaDoor
