/-
  FlatDoes' law.
-/
import Derived.Test.YtodjlaapmbnahaaFltJ
namespace Go.Proofs.Ytodjlaapmbnahaa
open Go.RowKit
set_option linter.unusedVariables false
set_option linter.unusedSimpArgs false

structure AskF where
  W : Int
  A : Int
  L : Int
  D : ByteArray
  S : Bool
def AskF.cells (a : AskF) : List Value := [.int .i64 a.W, .int .i64 a.A, .int .i64 a.L, .string a.D, .bool a.S]
def AskF.ok (a : AskF) : Prop := (Lit.int .i64 a.W).wf = true ∧ (Lit.int .i64 a.A).wf = true ∧ (Lit.int .i64 a.L).wf = true ∧ a.D.size ≤ maxLen
theorem fits_askF {w : World} (ys : List Value) (h : Fits w (.two (.int .i64) (.two (.int .i64) (.two (.int .i64) (.two .str (.two .bool .unit))))) ys) : ∃ x : AskF, ys = x.cells ∧ x.ok := by
  obtain ⟨x0, y0, e0, ⟨W, rfl, hW⟩, x1, y1, rfl, ⟨A, rfl, hA⟩, x2, y2, rfl, ⟨L, rfl, hL⟩, x3, y3, rfl, ⟨D, rfl, hD⟩, x4, y4, rfl, ⟨S, rfl⟩, rfl⟩ := h
  exact ⟨⟨W, A, L, D, S⟩, e0, hW, hA, hL, hD⟩
structure LRel (b g Y n : Nat) (w wr : World) : Prop where
  ex : ∃ L p cap, Blks L ∧ L.length = n ∧ FlatAt b g L wr ∧ VAt p cap L wr ∧ wr.heap[Y]? = some (.cells #[.slice (some ⟨p, 0, none⟩) n cap] 47) ∧ p ≠ g ∧ p ≠ Y
  below : Below w.heap.size w wr
theorem meas_40 {j : Nat} (h : (j : Int) < 40) : 40 - (intOf (.int .i64 ((j : Int) + 1))).toNat < 40 - (intOf (.int .i64 (j : Int))).toNat := by
  show 40 - ((j : Int) + 1).toNat < 40 - ((j : Int)).toNat
  omega
end Go.Proofs.Ytodjlaapmbnahaa
