/-
  '==' and '!=' of structs and arrays of integers, bools and texts, out of the lists of what their cells hold. Of no program.
-/
import Derived.Test.YtgnnijpfkgmomaaGreatDoorBase
import Derived.DeepKeys
import Derived.Laws.StructEq
namespace Go.Proofs.YtgnnijpfkgmomaaGreatDoor
open Go.RowKit
set_option linter.unusedVariables false
theorem eq_deep {P : Program} {t : TypeId} {m : Nat} (hk : P.keyTypeAt m t = true) (hm : m ≤ 10000) {xs ys : Array Value} {D D' : Nat} {lx ly : List Lit} (fx : (Value.agg xs).formed P t = true) (fy : (Value.agg ys).formed P t = true)
    (hx : P.keyLits D t xs.toList = some lx) (hy : P.keyLits D' t ys.toList = some ly) (b : Bool) (hb : b = true ↔ lx = ly) (w : World) :
    (binOp .eql t (.agg xs) (.agg ys)).run P w = .ok (.bool b) w ∧ (binOp .neq t (.agg xs) (.agg ys)).run P w = .ok (.bool (!b)) w := by
  obtain ⟨r, hr, hiff⟩ := run_equalIn_deep (P := P) (10000 - m) m t hk w D D' (.agg xs) (.agg ys) lx ly fx fy (by simpa [Value.cells] using hx) (by simpa [Value.cells] using hy)
  rw [Nat.sub_add_cancel hm] at hr
  have e : r = b := by rw [Bool.eq_iff_iff, hiff, hb]
  subst e
  rw [run_eql_struct, run_neq_struct, hr]
  exact ⟨rfl, rfl⟩
end Go.Proofs.YtgnnijpfkgmomaaGreatDoor
