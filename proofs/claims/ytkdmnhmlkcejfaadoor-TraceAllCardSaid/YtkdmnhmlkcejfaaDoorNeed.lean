/-
  need: how much is asked for, whether it may be, and what becomes of each block.
-/
import Derived.Test.YtkdmnhmlkcejfaaDoorHeld
namespace Go.Proofs.YtkdmnhmlkcejfaaDoor
open Go.RowKit
set_option linter.unusedVariables false
set_option linter.unusedSimpArgs false

/-- what is asked for -/
def askA (W A L : Int) (D : ByteArray) (S : Bool) : Array Value := #[.int .i64 W, .int .i64 A, .int .i64 L, .string D, .bool S]
def askSz (W L : Int) (D : ByteArray) : Int := if W = 1 then (D.size : Int) else L

def Inside (at' size blocks : Int) : Prop := at' % 32 = 0 ∧ size % 32 = 0 ∧ 0 ≤ at' ∧ 32 ≤ size ∧ size ≤ 128 ∧ size ≤ min (max blocks 0) 64 * 32 - at'
instance (a s b : Int) : Decidable (Inside a s b) := by unfold Inside; infer_instance

theorem tmod32 (a : Int) : a.tmod 32 = 0 ↔ a % 32 = 0 := by rw [← Int.dvd_iff_tmod_eq_zero, Int.dvd_iff_emod_eq_zero]
/-- it may be asked for -/
def AskMay (W A L : Int) (D : ByteArray) (B : Int) : Prop := W = 3 ∨ 0 ≤ W ∧ W ≤ 2 ∧ Inside A (askSz W L D) B
instance (W A L : Int) (D : ByteArray) (B : Int) : Decidable (AskMay W A L D B) := by unfold AskMay; infer_instance
theorem asksz_wf {W L : Int} {D : ByteArray} (hL : (Lit.int .i64 L).wf = true) (hD : D.size ≤ maxLen) : (Lit.int .i64 (askSz W L D)).wf = true := by
  unfold askSz
  split
  · unfold maxLen at hD
    exact wf_of (by omega)
  · exact hL

end Go.Proofs.YtkdmnhmlkcejfaaDoor
