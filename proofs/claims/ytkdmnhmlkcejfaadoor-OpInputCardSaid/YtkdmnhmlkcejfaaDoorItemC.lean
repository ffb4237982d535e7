/-
  The waking call of layer 8; ItemOf.
-/
import Derived.Test.YtkdmnhmlkcejfaaDoorItemB
namespace Go.Proofs.YtkdmnhmlkcejfaaDoor
open Go.RowKit
set_option linter.unusedVariables false
set_option linter.unusedSimpArgs false

theorem itemkey : Tryd.prog.keyTypeAt 4 28 = true := by kernel_rfl
theorem itemguard : Tryd.prog.eqGuardType Tryd.prog.depth 28 = false := by kernel_rfl
theorem item_formed (x : Int) (s : ByteArray) : (Value.agg #[.int .u64 x, .string s]).formed Tryd.prog 28 = true := by kernel_rfl
theorem item_lits (x : Int) (s : ByteArray) (hx : (Lit.int .u64 x).wf = true) (hs : s.size ≤ maxLen) : Tryd.prog.keyLits 4 28 [.int .u64 x, .string s] = some [.int .u64 x, .string s.data.toList] := by
  have c1 : Tryd.prog.cellsOf 28 = 2 := by kernel_rfl
  have c2 : Tryd.prog.cellsOf 26 = 1 := by kernel_rfl
  have c4 : Tryd.prog.cellsOf 9 = 1 := by kernel_rfl
  simp [Program.keyLits, Tryd.underlying28, Tryd.underlying26, Tryd.underlying9, c1, c2, c4, hx, hs]
theorem item_same (x : Int) (s : ByteArray) (w : World) (hx : (Lit.int .u64 x).wf = true) (hs : s.size ≤ maxLen) :
    (binOp .eql 28 (.agg #[.int .u64 x, .string s]) (.agg #[.int .u64 x, .string s])).run Tryd.prog w = .ok (.bool true) w :=
  (eq_deep (m := 4) (D := 4) (D' := 4) itemkey (by decide) (item_formed x s) (item_formed x s) (item_lits x s hx hs) (item_lits x s hx hs) true (by simp) w).1
end Go.Proofs.YtkdmnhmlkcejfaaDoor
