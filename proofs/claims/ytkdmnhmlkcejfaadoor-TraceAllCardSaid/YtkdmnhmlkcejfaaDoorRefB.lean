/-
  tarnref01.R: Take, value, Word.
-/
import Derived.Test.YtkdmnhmlkcejfaaDoorRef
namespace Go.Proofs.YtkdmnhmlkcejfaaDoor
open Go.RowKit
set_option linter.unusedVariables false
set_option linter.unusedSimpArgs false

theorem rt_ok {s : List UInt8} {e n : Int} (h : ROk ⟨s, e⟩) (h0 : 0 ≤ n) (h1 : n ≤ s.length) : (⟨s, e⟩ : RS).takeS n = ⟨s.drop n.toNat, e⟩ ∧ (⟨s, e⟩ : RS).takeB n = s.take n.toNat := by
  have hb : ¬ (n < 0 ∨ (s.length : Int) < n) := by omega
  unfold RS.takeS RS.takeB
  simp only
  rcases h with h | h
  · have h : e = 0 := h
    subst h
    rw [if_neg (by simp), if_neg hb, if_neg (by simp), if_neg hb]
    exact ⟨rfl, rfl⟩
  · have h : s = [] := h
    subst h
    by_cases he : e = 0
    · subst he
      rw [if_neg (by simp), if_neg hb, if_neg (by simp), if_neg hb]
      exact ⟨rfl, rfl⟩
    · rw [if_pos he, if_pos he]
      exact ⟨by simp, by simp⟩
theorem rt_bad {s : List UInt8} {e n : Int} (h : n < 0 ∨ (s.length : Int) < n) : (⟨s, e⟩ : RS).takeS n = (⟨s, e⟩ : RS).fail 2 ∧ (⟨s, e⟩ : RS).takeB n = [] := by
  unfold RS.takeS RS.takeB
  simp only
  by_cases he : e = 0
  · subst he
    rw [if_neg (by simp), if_pos h, if_neg (by simp), if_pos h]
    exact ⟨rfl, rfl⟩
  · rw [if_pos he, if_pos he]
    refine ⟨?_, rfl⟩
    unfold RS.fail
    rw [if_neg (fun q => he q.1)]
end Go.Proofs.YtkdmnhmlkcejfaaDoor
