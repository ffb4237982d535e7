/-
  May, over whatever configuration.
-/
import Derived.Test.YtkdmnhmlkcejfaaDecC
namespace Go.Proofs.Ytkdmnhmlkcejfaa
open Go.RowKit
set_option linter.unusedVariables false
set_option linter.unusedSimpArgs false

def listsC (M C : List Int) : Bool := nodesB M 0 && (nodesB C 0 && decide (0 < C.length))
def mayC (c : CF) : Bool := noneC c || (decide (0 ≤ c.e) && (decide (c.e ≤ 1048576) && (decide (5 ≤ c.b ∧ c.b ≤ 6) && (decide (1 ≤ c.k) && (decide (c.k ≤ 1048576) && listsC c.M c.C)))))
set_option maxHeartbeats 1600000 in
theorem cmayD (c : CF) (a1 a2 : Option Addr) (q1 q2 : Nat) (w : World) (h : CFat c w (.slice a1 c.M.length q1) (.slice a2 c.C.length q2)) :
    Calls Try.prog 61 #[.agg #[.int .i64 c.e, .int .i64 c.b, .int .i64 c.k, .slice a1 c.M.length q1, .slice a2 c.C.length q2]] w fun ev w' => ev = .returned (.bool (mayC c)) ∧ Below w.heap.size w w' := by
  have cn := cnoneD c a1 a2 q1 q2
  have hr : ∀ t, mayC c = t → mayC c = t := fun _ h => h
  obtain ⟨e, b, k, M, C⟩ := c
  have cg := fun w => cgate_any b w
  have HR := Lib.hid hr
  have HH := Lib.hid h
  clear hr
  simp only at *
  clear h
  rcases hn : noneC ⟨e, b, k, M, C⟩
  · rw [hn] at cn
    go_enter Try.func61, Try.ntmps61
    go_wp2_with fail
    refine Calls.mono (cn _) ?_
    rintro ev w1 ⟨rfl, hb1⟩
    have x1 := below_at hb1 (by simp) (heap_alloc_self w _)
    have e1 : Below w.heap.size w w1 := ((Below.refl _ _).alloc (Nat.le_refl _) _).trans (hb1.mono (by simp))
    have l1 := CFat.below HH.out e1
    have cl := clistsD _ _ M C w1 l1.1 l1.2
    have c0 := cell_atD x1 0 (v := .int .i64 e) rfl
    have c1 := cell_atD x1 1 (v := .int .i64 b) rfl
    have c2 := cell_atD x1 2 (v := .int .i64 k) rfl
    have c3 := cell_atD x1 3 (v := .slice a1 M.length q1) rfl
    have c4 := cell_atD x1 4 (v := .slice a2 C.length q2) rfl
    have E1 := Lib.hid e1
    clear hb1 x1 e1 l1 cn
    rcases d1 : decide (0 ≤ e)
    · have g1 : ¬ (0 ≤ e) := by simpa using d1
      go_wp2_with fail
      go_ret
      exact ⟨ret_bool (by unfold mayC; simp only [hn, d1, Bool.false_or, Bool.false_and, Bool.true_and]), E1.out⟩
    have g1 : 0 ≤ e := by simpa using d1
    rcases d2 : decide (e ≤ 1048576)
    · have g2 : ¬ (e ≤ 1048576) := by simpa using d2
      go_wp2_with fail
      go_ret
      exact ⟨ret_bool (by unfold mayC; simp only [hn, d1, d2, Bool.false_or, Bool.false_and, Bool.true_and]), E1.out⟩
    have g2 : e ≤ 1048576 := by simpa using d2
    rcases d3 : decide (5 ≤ b ∧ b ≤ 6)
    · have g3 : ¬ (5 ≤ b ∧ b ≤ 6) := by simpa using d3
      rw [d3] at cg
      go_wp2_with fail
      refine Calls.mono (cg _) ?_
      rintro ev w2 ⟨rfl, rfl⟩
      go_wp2_with fail
      go_ret
      exact ⟨ret_bool (by unfold mayC; simp only [hn, d1, d2, d3, Bool.false_or, Bool.false_and, Bool.true_and]), E1.out⟩
    have g3 : 5 ≤ b ∧ b ≤ 6 := by simpa using d3
    rw [d3] at cg
    rcases d4 : decide (1 ≤ k)
    · have g4 : ¬ (1 ≤ k) := by simpa using d4
      go_wp2_with fail
      refine Calls.mono (cg _) ?_
      rintro ev w2 ⟨rfl, rfl⟩
      go_wp2_with fail
      go_ret
      exact ⟨ret_bool (by unfold mayC; simp only [hn, d1, d2, d3, d4, Bool.false_or, Bool.false_and, Bool.true_and]), E1.out⟩
    have g4 : 1 ≤ k := by simpa using d4
    rcases d5 : decide (k ≤ 1048576)
    · have g5 : ¬ (k ≤ 1048576) := by simpa using d5
      go_wp2_with fail
      refine Calls.mono (cg _) ?_
      rintro ev w2 ⟨rfl, rfl⟩
      go_wp2_with fail
      go_ret
      exact ⟨ret_bool (by unfold mayC; simp only [hn, d1, d2, d3, d4, d5, Bool.false_or, Bool.false_and, Bool.true_and]), E1.out⟩
    have g5 : k ≤ 1048576 := by simpa using d5
    go_wp2_with fail
    refine Calls.mono (cg _) ?_
    rintro ev w2 ⟨rfl, rfl⟩
    go_wp2_with fail
    refine Calls.mono cl ?_
    rintro ev w2 ⟨rfl, rfl⟩
    go_wp2_with fail
    go_ret
    exact ⟨ret_bool (by unfold mayC listsC; simp only [hn, d1, d2, d3, d4, d5, Bool.false_or, Bool.false_and, Bool.true_and]), E1.out⟩
  · rw [hn] at cn
    go_enter Try.func61, Try.ntmps61
    go_wp2_with fail
    refine Calls.mono (cn _) ?_
    rintro ev w1 ⟨rfl, hb1⟩
    have e1 : Below w.heap.size w w1 := ((Below.refl _ _).alloc (Nat.le_refl _) _).trans (hb1.mono (by simp))
    have E1 := Lib.hid e1
    clear hb1 e1
    go_wp2_with fail
    go_ret
    exact ⟨ret_bool (by simp [mayC, hn]), E1.out⟩
end Go.Proofs.Ytkdmnhmlkcejfaa
