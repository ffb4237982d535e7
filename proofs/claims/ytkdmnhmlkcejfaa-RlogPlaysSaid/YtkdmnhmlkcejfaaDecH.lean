/-
  The state behind a command: decide.Do.
-/
import Derived.Test.YtkdmnhmlkcejfaaDecG
namespace Go.Proofs.Ytkdmnhmlkcejfaa
open Go.RowKit
set_option linter.unusedVariables false
set_option linter.unusedSimpArgs false

/-- the state behind a command -/
def doS (s : DS) (x : Int) (c : CF) : DS :=
  if mayK x c = true then (if x = 1 then prepS s c else if x = 2 then (if s.n.e = c.e then ⟨s.ep, s.s0, s.s1, s.n, s.n⟩ else s) else s) else s
/-- a wish that may be is a gateway's, and its lists are short -/
theorem may_wish {c : CF} (h : mayK 1 c = true) : (c.b = 5 ∨ c.b = 6) ∧ short c ∧ 1 ≤ c.k ∧ c.e = 0 := by
  simp only [mayK, if_neg (show ¬ ((1 : Int) = 0) by decide), if_true, Bool.and_eq_true, beq_iff_eq, Bool.not_eq_true'] at h
  obtain ⟨he, hn, hm⟩ := h
  simp only [mayC, hn, Bool.false_or, Bool.and_eq_true, decide_eq_true_eq, listsC, nodesB] at hm
  obtain ⟨-, -, hb, hk, -, ⟨⟨-, -⟩, h3⟩, ⟨⟨-, -⟩, h4⟩, -⟩ := hm
  exact ⟨by omega, ⟨by omega, by omega⟩, hk, he⟩
theorem prep_ep (s : DS) (c : CF) (h : 0 ≤ s.ep) : 0 ≤ (prepS s c).ep := by
  unfold prepS
  split <;> split <;> first
    | exact h
    | (show 0 ≤ s.ep + 1; omega)
theorem do_ep (s : DS) (x : Int) (c : CF) (h : 0 ≤ s.ep) : 0 ≤ (doS s x c).ep := by
  unfold doS
  split
  · split
    · exact prep_ep s c h
    · split
      · split <;> exact h
      · exact h
  · exact h
end Go.Proofs.Ytkdmnhmlkcejfaa
