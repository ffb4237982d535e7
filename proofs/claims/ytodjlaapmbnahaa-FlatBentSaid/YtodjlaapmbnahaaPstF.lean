/-
  past's uses: those that are writings (slices.IndexFunc, slices.DeleteFunc).
-/
import Derived.Test.YtodjlaapmbnahaaPstE
import Derived.Test.YtodjlaapmbnahaaRow
namespace Go.Proofs.Ytodjlaapmbnahaa
open Go.RowKit
set_option linter.unusedVariables false
set_option linter.unusedSimpArgs false

theorem us_cells {w : World} {a : Option Addr} {n cap : Nat} {M : List Us} (h : Elts w Us.c 4 (.slice a n cap) M) {j : Nat} {x : Us} (hj : M[j]? = some x) : ∃ b off, a = some ⟨b, off, none⟩ ∧ b < w.heap.size ∧
    w.cell? ⟨b, off + j * 4, none⟩ = some (.bool x.wr) ∧ w.cell? ⟨b, off + j * 4 + 1, none⟩ = some (.string x.val) ∧ w.cell? ⟨b, off + j * 4 + 2, none⟩ = some (.int .i64 x.from_) ∧ w.cell? ⟨b, off + j * 4 + 3, none⟩ = some (.int .i64 x.til) := by
  obtain ⟨-, b, off, rfl, hb, hc⟩ := h.at_ hj
  exact ⟨b, off, rfl, hb, hc 0 _ rfl, hc 1 _ rfl, hc 2 _ rfl, hc 3 _ rfl⟩
def isRd (u : Us) : Bool := !u.wr
theorem find_noneU {M : List Us} {j : Nat} {x : Us} (h : ∀ y ∈ M.take j, isRd y = false) (hx : M[j]? = some x) (hp : isRd x = false) : ∀ y ∈ M.take (j + 1), isRd y = false := by
  rw [take_next hx]
  intro y hy
  rcases List.mem_append.1 hy with q | q
  · exact h y q
  · rw [List.mem_singleton.1 q]; exact hp
def PIdxP (M : List Us) (w : World) (e : Ending) (w' : World) : Prop :=
  ((∃ (k : Nat) (x : Us), e = .returned (.int .i64 k) ∧ M[k]? = some x ∧ isRd x = true ∧ ∀ y ∈ M.take k, isRd y = false) ∨ e = .returned (.int .i64 (-1)) ∧ ∀ y ∈ M, isRd y = false) ∧ Below w.heap.size w w'
theorem uC_set : ∀ (M : List Us) (i : Nat) (u : Us), i < M.length → uC (M.set i u) = ((((uC M).set (i * 4) (.bool u.wr)).set (i * 4 + 1) (.string u.val)).set (i * 4 + 2) (.int .i64 u.from_)).set (i * 4 + 3) (.int .i64 u.til)
  | [], i, u, h => by simp at h
  | x :: r, 0, u, h => by simp [uC, Us.c]
  | x :: r, i + 1, u, h => by
    have ih := uC_set r i u (by simpa using h)
    have e : ∀ (l : List Value) (k : Nat) (v : Value), (x.c ++ l).set (i * 4 + 4 + k) v = x.c ++ l.set (i * 4 + k) v := fun l k v => by
      rw [List.set_append_right _ _ (by simp [Us.c]; omega)]
      congr 2
      simp [Us.c]
      omega
    rw [List.set_cons_succ]
    simp only [uC, List.flatMap_cons] at ih ⊢
    rw [ih, show (i + 1) * 4 = i * 4 + 4 + 0 by omega]
    rw [show i * 4 + 4 + 0 + 1 = i * 4 + 4 + 1 by omega, show i * 4 + 4 + 0 + 2 = i * 4 + 4 + 2 by omega, show i * 4 + 4 + 0 + 3 = i * 4 + 4 + 3 by omega]
    rw [e, e, e, e]
    rfl
end Go.Proofs.Ytodjlaapmbnahaa
