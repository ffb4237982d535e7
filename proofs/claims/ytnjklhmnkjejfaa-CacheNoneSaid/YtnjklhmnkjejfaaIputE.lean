/-
  ItemPuts (layer 8).
-/
import Derived.Test.YtnjklhmnkjejfaaIputD
namespace Go.Proofs.Ytnjklhmnkjejfaa
open Go.RowKit
set_option linter.unusedVariables false
set_option linter.unusedSimpArgs false

theorem fits_item {w : World} {c : Array Value} (h : Fits w (.two (.int .u64) (.two .str .unit)) c.toList) : ∃ v s, c = itemA v s ∧ (Lit.int .u64 v).wf = true ∧ s.size ≤ maxLen := by
  obtain ⟨x0, y0, e0, ⟨v, rfl, hv⟩, x1, y1, rfl, ⟨s, rfl, hs⟩, rfl⟩ := h
  refine ⟨v, s, ?_, hv, hs⟩
  apply Array.toList_inj.1
  rw [e0]; rfl
theorem putN_some (n : Nat) : putN n ≠ [] := by intro h; simp [putN] at h
end Go.Proofs.Ytnjklhmnkjejfaa
