/-
  LeadDecides: what most have (pure part); the law's first loops.
-/
import Derived.Test.YtadejhlljdcocaaLeadC
namespace Go.Proofs.Ytadejhlljdcocaa
open Go.RowKit Go.Sort
set_option linter.unusedVariables false
set_option linter.unusedSimpArgs false

theorem fits_ints3 {w : World} {c : Array Value} (h : Fits w (Sh.rep (.int .i64) 3) c.toList) : ∃ u : Nat → Int, c = arr3 u := by
  obtain ⟨x, y, e, ⟨z0, rfl, h0⟩, x2, y2, rfl, ⟨z1, rfl, h1⟩, x3, y3, rfl, ⟨z2, rfl, h2⟩, rfl⟩ := h
  exact ⟨fun j => if j = 0 then z0 else if j = 1 then z1 else z2, by cases c; simp_all [arr3]⟩
/-- how many of three are not below n -/
def geN (A : Nat → Int) (n : Int) : Nat → Int | 0 => 0 | k + 1 => geN A n k + if n ≤ A k then 1 else 0
theorem geN_le (A : Nat → Int) (n : Int) (k : Nat) : 0 ≤ geN A n k ∧ geN A n k ≤ k := by
  induction k with
  | zero => simp [geN]
  | succ k ih => simp only [geN]; split <;> omega
def bestN (A : Nat → Int) : Nat → Int | 0 => 0 | n + 1 => if 2 ≤ geN A n 3 then (n : Int) else bestN A n
theorem geN_med (A : Nat → Int) (n : Int) : 2 ≤ geN A n 3 ↔ n ≤ med3 A := by
  have hg : geN A n 3 = (([A 0, A 1, A 2].countP fun x => decide (n ≤ x) : Nat) : Int) := by
    simp only [geN, List.countP_cons, List.countP_nil]
    by_cases h0 : n ≤ A 0 <;> by_cases h1 : n ≤ A 1 <;> by_cases h2 : n ≤ A 2 <;> simp [h0, h1, h2]
  have hp : ([A 0, A 1, A 2].mergeSort fun a c => decide (a ≤ c)).Perm [A 0, A 1, A 2] := List.mergeSort_perm _ _
  have hs : ([A 0, A 1, A 2].mergeSort fun a c => decide (a ≤ c)).Pairwise fun a c => decide (a ≤ c) = true := by
    have := List.pairwise_mergeSort (le := fun a c : Int => decide (a ≤ c)) (by intro a b c; simp; omega) (by intro a b; simp; omega) [A 0, A 1, A 2]
    simpa using this
  have hl : ([A 0, A 1, A 2].mergeSort fun a c => decide (a ≤ c)).length = 3 := by simp
  unfold med3
  have hc := hp.countP_eq (fun x => decide (n ≤ x))
  rw [hg, ← hc]
  generalize ([A 0, A 1, A 2].mergeSort fun a c => decide (a ≤ c)) = L at *
  match L, hl with
  | [p, q, r], _ =>
    simp at hs
    simp only [List.countP_cons, List.countP_nil, List.getD_cons_succ, List.getD_cons_zero]
    by_cases h0 : n ≤ p <;> by_cases h1 : n ≤ q <;> by_cases h2 : n ≤ r <;> simp [h0, h1, h2] <;> omega
theorem bestN_med (A : Nat → Int) (h0 : 0 ≤ med3 A) : ∀ n : Nat, bestN A (n + 1) = if med3 A ≤ n then med3 A else (n : Int)
  | 0 => by
    simp only [bestN]
    have := geN_med A ((0 : Nat) : Int)
    split <;> split <;> omega
  | n + 1 => by
    have ih := bestN_med A h0 n
    rw [bestN]
    have := geN_med A ((n + 1 : Nat) : Int)
    rw [ih]
    split <;> split <;> (try split) <;> omega
theorem bestN_32 (A : Nat → Int) (h : 0 ≤ med3 A ∧ med3 A ≤ 31) : bestN A 32 = med3 A := by
  rw [bestN_med A h.1 31, if_pos (by simpa using h.2)]
theorem bestN_le (A : Nat → Int) (n : Nat) : 0 ≤ bestN A n ∧ bestN A n ≤ n := by
  induction n with
  | zero => simp [bestN]
  | succ n ih => simp only [bestN]; split <;> omega
theorem med3_eq {M A : Nat → Int} (h : ∀ i, i < 3 → M i = A i) : med3 M = med3 A := by
  unfold med3
  rw [h 0 (by decide), h 1 (by decide), h 2 (by decide)]
theorem mask1L (x : Int) : bits .and .i64 x 1 = x % 2 := mask_mod x 1 1 (by decide) (by decide)
theorem wrap_small {x : Int} (h : -1000000 ≤ x ∧ x ≤ 1000000) : IntKind.i64.wrap x = x := IntWalk.i64_in _ (by omega)
/-- what the first loop keeps -/
structure TL (wb wr : World) (l : Value) (j : Nat) (T : Int) (ts : List Int) : Prop where
  len : ts.length = j
  one : ∀ t ∈ ts, 1 ≤ t ∧ t ≤ 1000
  t1 : 1 ≤ T
  tj : T ≤ j + 1
  own : wr.ownsRow wb.heap.size 35 7 l j (eCells ts)
  below : Below wb.heap.size wb wr
end Go.Proofs.Ytadejhlljdcocaa
