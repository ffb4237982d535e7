/-
  Which configurations may be: None, Lists, May, over whatever configuration.
-/
import Derived.Test.YtkdmnhmlkcejfaaDecB
import Derived.Test.YtkdmnhmlkcejfaaConfD
namespace Go.Proofs.Ytkdmnhmlkcejfaa
open Go.RowKit
set_option linter.unusedVariables false
set_option linter.unusedSimpArgs false

def noneC (c : CF) : Bool := c.e == 0 && (c.b == 0 && (c.k == 0 && (c.M.length == 0 && c.C.length == 0)))
theorem cnoneD (c : CF) (a1 a2 : Option Addr) (q1 q2 : Nat) (w : World) :
    Calls Try.prog 60 #[.agg #[.int .i64 c.e, .int .i64 c.b, .int .i64 c.k, .slice a1 c.M.length q1, .slice a2 c.C.length q2]] w fun ev w' => ev = .returned (.bool (noneC c)) ∧ Below w.heap.size w w' := by
  obtain ⟨e, b, k, M, C⟩ := c
  show Calls Try.prog 60 #[.agg #[.int .i64 e, .int .i64 b, .int .i64 k, .slice a1 M.length q1, .slice a2 C.length q2]] w fun ev w' => ev = .returned (.bool (e == 0 && (b == 0 && (k == 0 && (M.length == 0 && C.length == 0))))) ∧ Below w.heap.size w w'
  generalize M.length = m
  generalize C.length = n
  have hm : ((m : Int) == 0) = (m == 0) := by rw [Bool.eq_iff_iff]; simp
  have hn : ((n : Int) == 0) = (n == 0) := by rw [Bool.eq_iff_iff]; simp
  rcases he : e == 0
  · go_enter Try.func60, Try.ntmps60
    go_wp2_with fail
    go_ret
    exact ⟨rfl, by go_grown⟩
  rcases hb : b == 0
  · go_enter Try.func60, Try.ntmps60
    go_wp2_with fail
    go_ret
    exact ⟨rfl, by go_grown⟩
  rcases hk : k == 0
  · go_enter Try.func60, Try.ntmps60
    go_wp2_with fail
    go_ret
    exact ⟨rfl, by go_grown⟩
  rcases h1 : m == 0
  · rw [h1] at hm
    go_enter Try.func60, Try.ntmps60
    go_wp2_with fail
    go_ret
    exact ⟨rfl, by go_grown⟩
  rcases h2 : n == 0
  · rw [h2] at hn; rw [h1] at hm
    go_enter Try.func60, Try.ntmps60
    go_wp2_with fail
    go_ret
    exact ⟨rfl, by go_grown⟩
  · rw [h2] at hn; rw [h1] at hm
    go_enter Try.func60, Try.ntmps60
    go_wp2_with fail
    go_ret
    exact ⟨rfl, by go_grown⟩
theorem clistsD (u v : Value) (l m : List Int) (w : World) (hu : SR w u 1 l.length (nCells l)) (hv : SR w v 1 m.length (nCells m)) :
    Calls Try.prog 68 #[u, v] w fun e w' => e = .returned (.bool (nodesB l 0 && (nodesB m 0 && decide (0 < m.length)))) ∧ w = w' := by
  have c1 := clist_any u l w hu
  have c2 := clist_any v m w hv
  obtain ⟨a, p, rfl, -, -⟩ := hu.form
  obtain ⟨a', p', rfl, -, -⟩ := hv.form
  clear hu hv
  generalize m.length = n at *
  rcases h1 : nodesB l 0
  · rw [h1] at c1
    go_enter Try.func68, Try.ntmps68
    go_wp2_with fail
    refine Calls.mono c1 ?_
    rintro e w1 ⟨rfl, rfl⟩
    go_wp2_with fail
    go_ret
    exact ⟨rfl, rfl⟩
  rcases h2 : nodesB m 0
  · rw [h1] at c1; rw [h2] at c2
    go_enter Try.func68, Try.ntmps68
    go_wp2_with fail
    refine Calls.mono c1 ?_
    rintro e w1 ⟨rfl, rfl⟩
    go_wp2_with fail
    refine Calls.mono c2 ?_
    rintro e w1 ⟨rfl, rfl⟩
    go_wp2_with fail
    go_ret
    exact ⟨rfl, rfl⟩
  rw [h1] at c1; rw [h2] at c2
  go_enter Try.func68, Try.ntmps68
  go_wp2_with fail
  refine Calls.mono c1 ?_
  rintro e w1 ⟨rfl, rfl⟩
  go_wp2_with fail
  refine Calls.mono c2 ?_
  rintro e w1 ⟨rfl, rfl⟩
  go_wp2_with fail
  go_ret
  refine ⟨ret_bool ?_, rfl⟩
  simp
end Go.Proofs.Ytkdmnhmlkcejfaa
