/-
  What the document says of bytes that are taken (tarnref01.R): Fail, Take, value.
-/
import Derived.Test.YtkdmnhmlkcejfaaDoorFrm
import Derived.Test.YtkdmnhmlkcejfaaDoorHeld
namespace Go.Proofs.YtkdmnhmlkcejfaaDoor
open Go.RowKit
set_option linter.unusedVariables false
set_option linter.unusedSimpArgs false

def rC (r : RS) : Value := .agg #[.string ⟨r.s.toArray⟩, .int .i64 r.e]
/-- behind an error nothing is left -/
def ROk (r : RS) : Prop := r.e = 0 ∨ r.s = []
theorem ROk.fail {r : RS} (h : ROk r) (n : Int) : ROk (r.fail n) := by
  unfold RS.fail
  split
  · exact .inr rfl
  · exact h
theorem ROk.take {r : RS} (h : ROk r) (n : Int) : ROk (r.takeS n) := by
  unfold RS.takeS
  split
  · exact h
  · split
    · exact h.fail 2
    · next h1 _ => exact .inl (by simpa using h1)
theorem cell_at {w : World} {b : Nat} {A : Array Value} {t : TypeId} (h : w.heap[b]? = some (.cells A t)) (i : Nat) {v : Value} (hv : A[i]? = some v) : w.cell? ⟨b, i, none⟩ = some v := by
  simp [World.cell?, h, hv]
theorem two_alloc (w : World) (A B : Array Value) (t : TypeId) : ((w.alloc (.cells A t)).alloc (.cells B t)).heap[w.heap.size]? = some (.cells A t) ∧ ((w.alloc (.cells A t)).alloc (.cells B t)).heap[w.heap.size + 1]? = some (.cells B t) ∧ Below w.heap.size w ((w.alloc (.cells A t)).alloc (.cells B t)) := by
  have h1 := heap_alloc_self w (.cells A t)
  have h2 := heap_alloc_self (w.alloc (.cells A t)) (.cells B t)
  rw [show (w.alloc (.cells A t)).heap.size = w.heap.size + 1 by simp] at h2
  exact ⟨(Below.heap_alloc _ _ _ (lt_heap h1)).trans h1, h2, ((Below.refl _ w).alloc (Nat.le_refl _) _).alloc (by simp) _⟩
theorem set_two {w : World} {b : Nat} {x y u v : Value} {t : TypeId} (h : w.heap[b]? = some (.cells #[x, y] t)) : ((w.setCell ⟨b, 0, none⟩ u).setCell ⟨b, 1, none⟩ v).heap[b]? = some (.cells #[u, v] t) := by
  have h1 := heap_set_self h 0 u
  have h2 := heap_set_self h1 1 v
  simpa using h2
end Go.Proofs.YtkdmnhmlkcejfaaDoor
