/-
  Several texts, laid together.
-/
import Derived.Test.YtjaaddjbmimjoaaMh12
/-
  A configuration out of bytes: conf.Take.
-/

namespace Go.Proofs.Ytjaaddjbmimjoaa
open Go.RowKit
set_option linter.unusedVariables false
set_option linter.unusedSimpArgs false

theorem ok_in (l : List Int) : ∀ k, k ≤ l.length → okK l k = true → ∀ j, j < k → 0 ≤ l.getD j 0 ∧ l.getD j 0 ≤ 4
  | 0, _, _, j, hj => absurd hj (by omega)
  | k + 1, hk, h, j, hj => by
    rw [show okK l (k + 1) = (okK l k && decide (0 ≤ l.getD k 0 ∧ l.getD k 0 ≤ 4) && !decide (l.getD k 0 ∈ l.take k)) from rfl] at h
    simp only [Bool.and_eq_true, decide_eq_true_eq] at h
    by_cases hjk : j = k
    · subst hjk; exact h.1.2
    · exact ok_in l k (by omega) h.1.1 j (by omega)
theorem nodes_in {l : List Int} {least : Nat} (h : nodesB l least = true) : l.length ≤ 3 ∧ ∀ x ∈ l, 0 ≤ x ∧ x ≤ 4 := by
  simp only [nodesB, Bool.and_eq_true, decide_eq_true_eq] at h
  refine ⟨h.2, fun x hx => ?_⟩
  obtain ⟨j, hj, rfl⟩ := List.mem_iff_getElem.1 hx
  have := ok_in l l.length (Nat.le_refl _) h.1.1 j hj
  simpa [List.getD_eq_getElem?_getD, List.getElem?_eq_getElem hj] using this
/-- what a configuration that may be holds -/
theorem may_in {c : CF} (h : mayC c = true) : (∀ x ∈ [c.e, c.b, c.k], 0 ≤ x ∧ x ≤ 1048576) ∧ (c.M.length ≤ 3 ∧ ∀ x ∈ c.M, 0 ≤ x ∧ x ≤ 5) ∧ (c.C.length ≤ 3 ∧ ∀ x ∈ c.C, 0 ≤ x ∧ x ≤ 5) := by
  by_cases hn : noneC c = true
  · simp only [noneC, Bool.and_eq_true, beq_iff_eq] at hn
    obtain ⟨h1, h2, h3, h4, h5⟩ := hn
    have e1 := List.eq_nil_of_length_eq_zero h4
    have e2 := List.eq_nil_of_length_eq_zero h5
    rw [h1, h2, h3, e1, e2]
    simp
  · simp only [mayC, Bool.or_eq_true, Bool.and_eq_true, decide_eq_true_eq, listsC] at h
    obtain ⟨h1, h2, h3, h4, h5, h6, h7, h8⟩ := h.resolve_left hn
    obtain ⟨m1, m2⟩ := nodes_in h6
    obtain ⟨n1, n2⟩ := nodes_in h7
    refine ⟨?_, ⟨m1, fun x hx => by have := m2 x hx; omega⟩, ⟨n1, fun x hx => by have := n2 x hx; omega⟩⟩
    intro x hx
    simp only [List.mem_cons, List.not_mem_nil, or_false] at hx
    omega
theorem onlyBe {y : Nat} {w w' : World} (h : Below w.heap.size w w') : Only y w w' := ⟨h.os, h.tape, h.output, h.size, fun k hk _ => h.block k hk⟩
end Go.Proofs.Ytjaaddjbmimjoaa
