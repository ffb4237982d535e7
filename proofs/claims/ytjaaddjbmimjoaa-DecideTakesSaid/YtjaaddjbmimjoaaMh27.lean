/-
  Several texts, laid together.
-/
import Derived.Test.YtjaaddjbmimjoaaMh26
/-
  The state behind a command: decide.Do.
-/

namespace Go.Proofs.Ytjaaddjbmimjoaa
open Go.RowKit
set_option linter.unusedVariables false
set_option linter.unusedSimpArgs false

/-- the state behind a command -/
def doS (s : DS) (x : Int) (c : CF) : DS :=
  if mayK x c = true then (if x = 1 then prepS s c else if x = 2 then (if s.n.e = c.e then ⟨s.ep, s.s0, s.s1, s.n, s.n⟩ else s) else s) else s
/-- a wish that may be is a gateway's, and its lists are short -/
theorem may_wish {c : CF} (h : mayK 1 c = true) : (c.b = 5 ∨ c.b = 6) ∧ short c ∧ 1 ≤ c.k ∧ c.e = 0 := by
  simp only [mayK, if_neg (show ¬ ((1 : Int) = 0) by decide), if_true, Bool.and_eq_true, beq_iff_eq, Bool.not_eq_true'] at h
  obtain ⟨he, hn, hm⟩ := h
  simp only [mayC, hn, Bool.false_or, Bool.and_eq_true, decide_eq_true_eq, listsC, nodesB] at hm
  obtain ⟨-, -, hb, hk, -, ⟨⟨-, -⟩, h3⟩, ⟨⟨-, -⟩, h4⟩, -⟩ := hm
  exact ⟨by omega, ⟨by omega, by omega⟩, hk, he⟩
theorem dprep (s : DS) (c : CF) (a1 a2 a3 a4 a5 a6 : Option Addr) (q1 q2 q3 q4 q5 q6 : Nat) (w : World) (base : Nat) (hbase : base ≤ w.heap.size) (h1 : CFO s.a base w (.slice a1 s.a.M.length q1) (.slice a2 s.a.C.length q2)) (h2 : CFO s.n base w (.slice a3 s.n.M.length q3) (.slice a4 s.n.C.length q4)) (h3 : short s.a) (h4 : short s.n) (h5 : CFat c w (.slice a5 c.M.length q5) (.slice a6 c.C.length q6)) (h6 : short c) (h0 : 0 ≤ s.ep) (hb : c.b = 5 ∨ c.b = 6) :
    Calls Try.prog 110 #[.agg (stA s.ep s.a (.slice a1 s.a.M.length q1) (.slice a2 s.a.C.length q2) s.n (.slice a3 s.n.M.length q3) (.slice a4 s.n.C.length q4) s.s0 s.s1), .agg #[.int .i64 c.e, .int .i64 c.b, .int .i64 c.k, .slice a5 c.M.length q5, .slice a6 c.C.length q6]] w fun ev w' => ∃ v', ev = .returned v' ∧ SVB (prepS s c) base w' v' ∧ Below w.heap.size w w' := by
  obtain ⟨e, b, n, M, C⟩ := c
  simp only at *
  rcases hb with rfl | rfl
  · exact dprep5 s e n M C a1 a2 a3 a4 a5 a6 q1 q2 q3 q4 q5 q6 w base hbase h1 h2 h3 h4 h5 h6 h0
  · exact dprep6 s e n M C a1 a2 a3 a4 a5 a6 q1 q2 q3 q4 q5 q6 w base hbase h1 h2 h3 h4 h5 h6 h0
end Go.Proofs.Ytjaaddjbmimjoaa
