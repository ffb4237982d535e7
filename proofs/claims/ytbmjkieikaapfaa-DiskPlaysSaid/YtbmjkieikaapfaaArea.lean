/-
  area: May, Bytes, within, piece.
-/
import Derived.Test.YtbmjkieikaapfaaDiskI
namespace Go.Proofs.Ytbmjkieikaapfaa
open Go.RowKit
set_option linter.unusedVariables false
set_option linter.unusedSimpArgs false

/-- which areas may be -/
def mayA (f l : Int) : Bool := decide (0 ≤ f) && decide (f ≤ 4096) && decide (1 ≤ l) && decide (l ≤ 4096)
def areaV (f l : Int) : Value := .agg #[.int .i64 f, .int .i64 l]
theorem mayA_iff (f l : Int) : mayA f l = true ↔ 0 ≤ f ∧ f ≤ 4096 ∧ 1 ≤ l ∧ l ≤ 4096 := by
  simp [mayA, Bool.and_eq_true]
  omega
/-- how many bytes an area has -/
def bytesA (f l : Int) : Int := if mayA f l = true then 64 * l else 0
theorem two_cells {w w' : World} {x y : Value} {t : TypeId} (hb : Below (w.alloc (.cells #[x, y] t)).heap.size (w.alloc (.cells #[x, y] t)) w') : w'.cell? ⟨w.heap.size, 0, none⟩ = some x ∧ w'.cell? ⟨w.heap.size, 1, none⟩ = some y := by
  have h : w'.heap[w.heap.size]? = some (.cells #[x, y] t) := (hb.block w.heap.size (by simp)).trans (heap_alloc_self w _)
  exact ⟨by simp [World.cell?, h], by simp [World.cell?, h]⟩
theorem alloc_below {w w' : World} {o : Obj} (hb : Below (w.alloc o).heap.size (w.alloc o) w') : Below w.heap.size w w' := ((Below.refl _ _).alloc (Nat.le_refl _) o).trans (hb.mono (by simp))
/-- whether so many bytes from one on are in the area -/
def withinA (f l at' n : Int) : Bool := mayA f l && decide (0 ≤ at') && decide (0 ≤ n) && decide (at' ≤ bytesA f l) && decide (n ≤ bytesA f l - at')
end Go.Proofs.Ytbmjkieikaapfaa
