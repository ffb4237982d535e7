/-
  tarnref01.R: Int, Text; tarnref03.Take.
-/
import Derived.Test.YtkdmnhmlkcejfaaDoorRefD
namespace Go.Proofs.YtkdmnhmlkcejfaaDoor
open Go.RowKit
set_option linter.unusedVariables false
set_option linter.unusedSimpArgs false

theorem ROk.num {r : RS} (h : ROk r) (L : Nat) : ROk (r.numS L) := by
  unfold RS.numS numS1
  split
  · exact h.take 1
  · split
    · exact (h.take 1).fail 3
    · unfold numS2
      split
      · exact (h.take 1).take _
      · split
        · exact ((h.take 1).take _).fail 3
        · exact (h.take 1).take _
theorem fail_len (r : RS) (n : Int) : (r.fail n).s.length ≤ r.s.length := by
  unfold RS.fail
  split
  · simp
  · exact Nat.le_refl _
theorem numS_len (r : RS) (L : Nat) : (r.numS L).s.length ≤ r.s.length := by
  unfold RS.numS numS1
  split
  · exact takeS_len r 1
  · split
    · exact Nat.le_trans (fail_len _ _) (takeS_len r 1)
    · unfold numS2
      split
      · exact Nat.le_trans (takeS_len _ _) (takeS_len r 1)
      · split
        · exact Nat.le_trans (fail_len _ _) (Nat.le_trans (takeS_len _ _) (takeS_len r 1))
        · exact Nat.le_trans (takeS_len _ _) (takeS_len r 1)
theorem ROk.text {r : RS} (h : ROk r) : ROk (r.textS 16384) := (h.num _).take _
theorem textS_len (r : RS) : (r.textS 16384).s.length ≤ r.s.length := Nat.le_trans (takeS_len _ _) (numS_len _ _)
end Go.Proofs.YtkdmnhmlkcejfaaDoor
