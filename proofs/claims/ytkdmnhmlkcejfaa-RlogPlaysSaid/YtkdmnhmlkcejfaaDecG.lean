/-
  The state behind a wish: decide.prepare.
-/
import Derived.Test.YtkdmnhmlkcejfaaDecF
namespace Go.Proofs.Ytkdmnhmlkcejfaa
open Go.RowKit
set_option linter.unusedVariables false
set_option linter.unusedSimpArgs false

theorem four_blocks (w : World) (a b c d : Obj) : ((((w.alloc a).alloc b).alloc c).alloc d).heap[w.heap.size]? = some a ∧ ((((w.alloc a).alloc b).alloc c).alloc d).heap[w.heap.size + 1]? = some b ∧ ((((w.alloc a).alloc b).alloc c).alloc d).heap[w.heap.size + 1 + 1]? = some c ∧ ((((w.alloc a).alloc b).alloc c).alloc d).heap[w.heap.size + 1 + 1 + 1]? = some d ∧ Below w.heap.size w ((((w.alloc a).alloc b).alloc c).alloc d) ∧ ((((w.alloc a).alloc b).alloc c).alloc d).heap.size = w.heap.size + 4 := by
  refine ⟨alloc_far (alloc_far (alloc_far (heap_alloc_self w a))), alloc_far (alloc_far ?_), alloc_far ?_, ?_, ((((Below.refl _ _).alloc (Nat.le_refl _) _).alloc (by simp) _).alloc (by simp; omega) _).alloc (by simp; omega) _, by simp⟩
  · simpa using heap_alloc_self (w.alloc a) b
  · simpa using heap_alloc_self ((w.alloc a).alloc b) c
  · simpa using heap_alloc_self (((w.alloc a).alloc b).alloc c) d
def prepS (s : DS) (c : CF) : DS :=
  if c.b = 5 then (if c.k ≤ s.s0 ∨ s.ep ≥ 1048576 then s else ⟨s.ep + 1, c.k, s.s1, s.a, ⟨s.ep + 1, c.b, c.k, c.M, c.C⟩⟩)
  else (if c.k ≤ s.s1 ∨ s.ep ≥ 1048576 then s else ⟨s.ep + 1, s.s0, c.k, s.a, ⟨s.ep + 1, c.b, c.k, c.M, c.C⟩⟩)
theorem prep5_new (s : DS) (e n : Int) (M C : List Int) (h1 : s.s0 < n) (h2 : s.ep < 1048576) : prepS s ⟨e, 5, n, M, C⟩ = ⟨s.ep + 1, n, s.s1, s.a, ⟨s.ep + 1, 5, n, M, C⟩⟩ := by
  simp only [prepS, if_true]
  rw [if_neg (by omega)]
theorem prep6_new (s : DS) (e n : Int) (M C : List Int) (h1 : s.s1 < n) (h2 : s.ep < 1048576) : prepS s ⟨e, 6, n, M, C⟩ = ⟨s.ep + 1, s.s0, n, s.a, ⟨s.ep + 1, 6, n, M, C⟩⟩ := by
  simp only [prepS, if_neg (show ¬ ((6 : Int) = 5) by decide)]
  rw [if_neg (by omega)]
theorem prep5_same (s : DS) (e n : Int) (M C : List Int) (h : n ≤ s.s0 ∨ 1048576 ≤ s.ep) : prepS s ⟨e, 5, n, M, C⟩ = s := by
  simp only [prepS, if_true]
  rw [if_pos (by omega)]
theorem prep6_same (s : DS) (e n : Int) (M C : List Int) (h : n ≤ s.s1 ∨ 1048576 ≤ s.ep) : prepS s ⟨e, 6, n, M, C⟩ = s := by
  simp only [prepS, if_neg (show ¬ ((6 : Int) = 5) by decide)]
  rw [if_pos (by omega)]
end Go.Proofs.Ytkdmnhmlkcejfaa
