/-
  Several texts, laid together.
-/
import Derived.Test.YtfgmeeponipjeaaMg13
/-
  Items there and back: what is put (layer 8).
-/

namespace Go.Proofs.Ytfgmeeponipjeaa
open Go.RowKit
set_option linter.unusedVariables false
set_option linter.unusedSimpArgs false

def MayT (b : Bool) (v : Int) (D : ByteArray) : Prop := (∀ w, Calls Try.prog 50 #[.agg (itemA v D)] w fun e w' => e = .returned (.bool b) ∧ Below w.heap.size w w') ∧ True
def putI (v : Int) (l : List UInt8) : List UInt8 := putN v.toNat ++ (putN l.length ++ l)
end Go.Proofs.Ytfgmeeponipjeaa
/-
  Items there and back: what was put is taken again (layer 8).
-/

namespace Go.Proofs.Ytfgmeeponipjeaa
open Go.RowKit
set_option linter.unusedVariables false
set_option linter.unusedSimpArgs false

theorem Only.setOwn {b R : Nat} {w x : World} (h : Only b w x) (hR : w.heap.size ≤ R) (o : Nat) (u : Value) : Only b w (x.setCell ⟨R, o, none⟩ u) :=
  ⟨h.os, h.tape, h.output, by simpa using h.size, fun k hk hn => (Below.heap_setCell _ _ _ _ (by show k ≠ R; omega)).trans (h.block k hk hn)⟩
/-- an item's block, written anew -/
theorem item_set {w4 : World} {R : Nat} (y : w4.heap[R]? = some (.cells #[.int .u64 0, .string ⟨#[]⟩] 54)) (v : Int) (D : ByteArray) :
    ((w4.setCell ⟨R, 0, none⟩ (.int .u64 v)).setCell ⟨R, 1, none⟩ (.string D)).cell? ⟨R, 0, none⟩ = some (.int .u64 v) ∧ ((w4.setCell ⟨R, 0, none⟩ (.int .u64 v)).setCell ⟨R, 1, none⟩ (.string D)).cell? ⟨R, 1, none⟩ = some (.string D) := by
  have k2 := heap_set_self (heap_set_self y 0 (.int .u64 v)) 1 (.string D)
  exact ⟨by simp [World.cell?, k2], by simp [World.cell?, k2]⟩
end Go.Proofs.Ytfgmeeponipjeaa
/-
  Items there and back: an item near another one (layer 8).
-/

namespace Go.Proofs.Ytfgmeeponipjeaa
open Go.RowKit
set_option linter.unusedVariables false
set_option linter.unusedSimpArgs false

theorem item_over {w4 : World} {R : Nat} {u : Int} {E : ByteArray} (y : w4.heap[R]? = some (.cells #[.int .u64 u, .string E] 54)) (v : Int) (D : ByteArray) :
    ((w4.setCell ⟨R, 0, none⟩ (.int .u64 v)).setCell ⟨R, 1, none⟩ (.string D)).cell? ⟨R, 0, none⟩ = some (.int .u64 v) ∧ ((w4.setCell ⟨R, 0, none⟩ (.int .u64 v)).setCell ⟨R, 1, none⟩ (.string D)).cell? ⟨R, 1, none⟩ = some (.string D) := by
  have k2 := heap_set_self (heap_set_self y 0 (.int .u64 v)) 1 (.string D)
  exact ⟨by simp [World.cell?, k2], by simp [World.cell?, k2]⟩
end Go.Proofs.Ytfgmeeponipjeaa
