/-
  Lists of entries that are the same.
-/
import Derived.Test.YtkdmnhmlkcejfaaRle
import Derived.Test.YtkdmnhmlkcejfaaElts
namespace Go.Proofs.Ytkdmnhmlkcejfaa
open Go.RowKit
set_option linter.unusedVariables false
set_option linter.unusedSimpArgs false

def sameEN (a b : EN) : Bool := sameE a.t a.x a.c b.t b.x b.c
/-- the same lists of entries -/
def allE : List EN → List EN → Bool
  | [], [] => true
  | a :: r, b :: s => sameEN a b && allE r s
  | _, _ => false
theorem allE_len : ∀ (a b : List EN), a.length ≠ b.length → allE a b = false
  | [], [], h => absurd rfl h
  | [], _ :: _, _ => rfl
  | _ :: _, [], _ => rfl
  | x :: a, y :: b, h => by rw [allE, allE_len a b (by simpa using h), Bool.and_false]
theorem allE_true : ∀ (a b : List EN), a.length = b.length → (∀ (j : Nat) (x y : EN), a[j]? = some x → b[j]? = some y → sameEN x y = true) → allE a b = true
  | [], [], _, _ => rfl
  | [], _ :: _, h, _ => by simp at h
  | _ :: _, [], h, _ => by simp at h
  | x :: a, y :: b, h, hs => by
    rw [allE, hs 0 x y rfl rfl, allE_true a b (by simpa using h) (fun j u v hu hv => hs (j + 1) u v (by simpa using hu) (by simpa using hv))]
    rfl
theorem allE_false : ∀ (a b : List EN) (j : Nat) (x y : EN), a[j]? = some x → b[j]? = some y → sameEN x y = false → allE a b = false
  | [], _, j, x, y, h, _, _ => by simp at h
  | _ :: _, [], j, x, y, _, h, _ => by simp at h
  | u :: a, v :: b, 0, x, y, hx, hy, h => by
    simp at hx hy
    subst hx hy
    rw [allE, h, Bool.false_and]
  | u :: a, v :: b, j + 1, x, y, hx, hy, h => by
    rw [allE, allE_false a b j x y (by simpa using hx) (by simpa using hy) h, Bool.and_false]
theorem sameEN_self (a : EN) : sameEN a a = true := by
  have : sameC a.c a.c = true := by simp [sameC]
  simp [sameEN, sameE, this]
theorem allE_self (l : List EN) : allE l l = true := allE_true l l rfl fun j x y hx hy => by rw [hx] at hy; cases hy; exact sameEN_self x
/-- up to here all are the same -/
def SameTo (a b : List EN) (k : Nat) : Prop := ∀ j, j < k → ∀ x y, a[j]? = some x → b[j]? = some y → sameEN x y = true
theorem sameTo_next {a b : List EN} {k : Nat} {x y : EN} (h : SameTo a b k) (hx : a[k]? = some x) (hy : b[k]? = some y) (hs : sameEN x y = true) : SameTo a b (k + 1) := by
  intro j hj u v hu hv
  by_cases hjk : j = k
  · subst hjk
    rw [hx] at hu
    rw [hy] at hv
    cases hu
    cases hv
    exact hs
  · exact h j (by omega) u v hu hv
theorem sameTo_all {a b : List EN} {k : Nat} (h : SameTo a b k) (ha : a.length = k) (hb : b.length = k) : allE a b = true :=
  allE_true a b (by omega) fun j x y hx hy => h j (by have := (List.getElem?_eq_some_iff.1 hx).1; omega) x y hx hy
/-- an entry's cells at a place -/
theorem en_loads {w wr : World} {a : Option Addr} {len cap : Nat} {rs : List EN} (h : Elts w EN.cells 7 (.slice a len cap) rs) (hb : Below w.heap.size w wr) {j : Nat} {x : EN} (hj : rs[j]? = some x) :
    ∃ g off, a = some ⟨g, off, none⟩ ∧ g < w.heap.size ∧ wr.cell? ⟨g, off + j * 7, none⟩ = some (.int .i64 x.t) ∧ wr.cell? ⟨g, off + j * 7 + 1, none⟩ = some (.int .i64 x.x) ∧ wr.cell? ⟨g, off + j * 7 + 2, none⟩ = some (.int .i64 x.c.e) ∧ wr.cell? ⟨g, off + j * 7 + 3, none⟩ = some (.int .i64 x.c.b) ∧ wr.cell? ⟨g, off + j * 7 + 4, none⟩ = some (.int .i64 x.c.k) ∧ wr.cell? ⟨g, off + j * 7 + 5, none⟩ = some (.slice x.a1 x.c.M.length x.q1) ∧ wr.cell? ⟨g, off + j * 7 + 6, none⟩ = some (.slice x.a2 x.c.C.length x.q2) := by
  obtain ⟨-, g, off, rfl, hg, hc⟩ := h.at_ hj
  exact ⟨g, off, rfl, hg, (hb.cell (p := ⟨g, off + j * 7, none⟩) hg).trans (hc 0 _ rfl), (hb.cell (p := ⟨g, off + j * 7 + 1, none⟩) hg).trans (hc 1 _ rfl), (hb.cell (p := ⟨g, off + j * 7 + 2, none⟩) hg).trans (hc 2 _ rfl), (hb.cell (p := ⟨g, off + j * 7 + 3, none⟩) hg).trans (hc 3 _ rfl), (hb.cell (p := ⟨g, off + j * 7 + 4, none⟩) hg).trans (hc 4 _ rfl), (hb.cell (p := ⟨g, off + j * 7 + 5, none⟩) hg).trans (hc 5 _ rfl), (hb.cell (p := ⟨g, off + j * 7 + 6, none⟩) hg).trans (hc 6 _ rfl)⟩
abbrev enV (x : EN) : Array Value := #[.int .i64 x.t, .int .i64 x.x, .int .i64 x.c.e, .int .i64 x.c.b, .int .i64 x.c.k, .slice x.a1 x.c.M.length x.q1, .slice x.a2 x.c.C.length x.q2]
end Go.Proofs.Ytkdmnhmlkcejfaa
