/-
  tarnlaw43: few, the waking call.
-/
import Derived.Test.YtnjklhmnkjejfaaScrubC
namespace Go.Proofs.Ytnjklhmnkjejfaa
open Go.RowKit
set_option linter.unusedVariables false
set_option linter.unusedSimpArgs false

theorem own_cell {w : World} {N g n c size k : Nat} {e : TypeId} {xs : List Value} (h : w.ownsRow N e size (.slice (some ⟨g, 0, none⟩) n c) n xs) (u : Value) : (w.setCell ⟨g, k, none⟩ u).ownsRow N e size (.slice (some ⟨g, 0, none⟩) n c) n (xs.set k u) := by
  rcases h.2 with ⟨q, _⟩ | ⟨g', cap, cur, q, hb, hg, hnc, hcm, hcs, ht⟩
  · cases q
  · injection q with e1 _ e2
    injection e1 with e1
    injection e1 with e1
    subst e1 e2
    refine own_of hb (heap_set_self hg k u) hnc hcm (by simpa using hcs) (by rw [List.length_set]; exact h.1) ?_
    rw [Array.toList_setIfInBounds, List.take_set, ht]
theorem hCells_setb : ∀ (L : List HI) (j : Nat) (x : HI) (B : Int), L[j]? = some x → (hCells L).set (j * 3) (.int .i64 B) = hCells (L.set j ⟨B, x.v, x.d⟩)
  | [], j, x, B, h => by simp at h
  | y :: t, 0, x, B, h => by simp at h; subst h; rfl
  | y :: t, j + 1, x, B, h => by
    rw [show (j + 1) * 3 = j * 3 + 3 by omega]
    simp only [hCells, List.set_cons_succ]
    rw [hCells_setb t j x B (by simpa using h)]
theorem hCells_setv : ∀ (L : List HI) (j : Nat) (x : HI) (V : Int), L[j]? = some x → (hCells L).set (j * 3 + 1) (.int .u64 V) = hCells (L.set j ⟨x.b, V, x.d⟩)
  | [], j, x, V, h => by simp at h
  | y :: t, 0, x, V, h => by simp at h; subst h; rfl
  | y :: t, j + 1, x, V, h => by
    rw [show (j + 1) * 3 + 1 = (j * 3 + 1) + 3 by omega]
    simp only [hCells, List.set_cons_succ]
    rw [hCells_setv t j x V (by simpa using h)]
def fewX (x : HI) : HI := ⟨bits .and .i64 x.b 7, bits .and .u64 x.v 3, x.d⟩
def mixL (L : List HI) (j : Nat) : List HI := (L.take j).map fewX ++ L.drop j
theorem mixL_len (L : List HI) (j : Nat) : (mixL L j).length = L.length := by simp [mixL]; omega
theorem mixL_at {L : List HI} {j : Nat} {x : HI} (h : L[j]? = some x) : (mixL L j)[j]? = some x := by
  have := (List.getElem?_eq_some_iff.1 h).1
  unfold mixL
  rw [List.getElem?_append_right (by simp; omega)]
  simp [Nat.min_eq_left (Nat.le_of_lt this), h]
theorem mixL_next {L : List HI} {j : Nat} {x : HI} (h : L[j]? = some x) : (mixL L j).set j (fewX x) = mixL L (j + 1) := by
  have hj := (List.getElem?_eq_some_iff.1 h).1
  have e : L.drop j = x :: L.drop (j + 1) := by
    rw [List.drop_eq_getElem_cons hj]
    rw [List.getElem?_eq_getElem hj] at h
    rw [Option.some.inj h]
  unfold mixL
  rw [List.set_append_right _ _ (by simp; omega), e, take_next h, List.map_append]
  simp [Nat.min_eq_left (Nat.le_of_lt hj)]
theorem fewX_ok {x : HI} (h : Ok x) : Ok (fewX x) := ⟨wf_bits .and .i64 x.b 7, wf_bits .and .u64 x.v 3, h.d⟩
def fewIn (rs : List HI) : List HI := (nearL rs).map fewX
theorem fewIn_ok {rs : List HI} (h : ∀ x ∈ rs, Raw x) : ∀ x ∈ fewIn rs, Ok x := fun x hx => by
  obtain ⟨y, hy, rfl⟩ := List.mem_map.1 hx
  exact fewX_ok (nearL_ok h y hy)
noncomputable def fewL (rs : List HI) : List HI := putAll [] (fewIn rs)
theorem fewL_srt {rs : List HI} (h : ∀ x ∈ rs, Raw x) : Srt (fewL rs) := srt_putAll Srt.nil (fewIn_ok h)
theorem fewL_may (rs : List HI) : AllM (fewL rs) := allM_putAll (by intro x hx; cases hx)
end Go.Proofs.Ytnjklhmnkjejfaa
