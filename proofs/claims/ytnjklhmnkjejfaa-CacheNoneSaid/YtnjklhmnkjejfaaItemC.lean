/-
  The waking call of layer 8; ItemOf.
-/
import Derived.Test.YtnjklhmnkjejfaaItemB
namespace Go.Proofs.Ytnjklhmnkjejfaa
open Go.RowKit
set_option linter.unusedVariables false
set_option linter.unusedSimpArgs false

theorem itemkey : Try.prog.keyTypeAt 4 24 = true := by kernel_rfl
theorem itemguard : Try.prog.eqGuardType Try.prog.depth 24 = false := by kernel_rfl
theorem item_formed (x : Int) (s : ByteArray) : (Value.agg #[.int .u64 x, .string s]).formed Try.prog 24 = true := by kernel_rfl
theorem item_lits (x : Int) (s : ByteArray) (hx : (Lit.int .u64 x).wf = true) (hs : s.size ≤ maxLen) : Try.prog.keyLits 4 24 [.int .u64 x, .string s] = some [.int .u64 x, .string s.data.toList] := by
  have c1 : Try.prog.cellsOf 24 = 2 := by kernel_rfl
  have c2 : Try.prog.cellsOf 22 = 1 := by kernel_rfl
  have c4 : Try.prog.cellsOf 9 = 1 := by kernel_rfl
  simp [Program.keyLits, Try.underlying24, Try.underlying22, Try.underlying9, c1, c2, c4, hx, hs]
theorem item_same (x : Int) (s : ByteArray) (w : World) (hx : (Lit.int .u64 x).wf = true) (hs : s.size ≤ maxLen) :
    (binOp .eql 24 (.agg #[.int .u64 x, .string s]) (.agg #[.int .u64 x, .string s])).run Try.prog w = .ok (.bool true) w :=
  (eq_deep (m := 4) (D := 4) (D' := 4) itemkey (by decide) (item_formed x s) (item_formed x s) (item_lits x s hx hs) (item_lits x s hx hs) true (by simp) w).1
theorem block_empty (w : World) : Calls Try.prog 57 #[.string ⟨#[]⟩] w fun e w' => e = .returned (.string (zeroL 32)) ∧ Below w.heap.size w w' :=
  (block_any ⟨#[]⟩ w (by decide)).mono fun e w' h => by
    obtain ⟨T, he, _, hT, hb⟩ := h
    rw [hT rfl] at he
    exact ⟨he, hb⟩
end Go.Proofs.Ytnjklhmnkjejfaa
