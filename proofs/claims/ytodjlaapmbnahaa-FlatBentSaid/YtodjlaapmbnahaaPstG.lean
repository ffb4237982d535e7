/-
  past's uses: those that are writings (slices.DeleteFunc).
-/
import Derived.Test.YtodjlaapmbnahaaPstF
namespace Go.Proofs.Ytodjlaapmbnahaa
open Go.RowKit
set_option linter.unusedVariables false
set_option linter.unusedSimpArgs false

/-- the row in block g: its n elements are M -/
def InG (g n cap : Nat) (M : List Us) (w : World) : Prop := ∃ cur : Array Value, w.heap[g]? = some (.cells cur 72 (0, 0)) ∧ cur.size = cap * 4 ∧ cur.toList.take (n * 4) = uC M ∧ M.length = n ∧ n ≤ cap ∧ cap ≤ maxLen
theorem uC_len (M : List Us) : (uC M).length = M.length * 4 := by
  induction M with
  | nil => rfl
  | cons x r ih => simp only [uC, List.flatMap_cons, List.length_append, List.length_cons] at ih ⊢; rw [ih]; simp [Us.c]; omega
theorem InG.sr {g n cap : Nat} {M : List Us} {w : World} (h : InG g n cap M w) : SR w (.slice (some ⟨g, 0, none⟩) n cap) 4 n (uC M) := by
  obtain ⟨cur, h1, h2, h3, h4, h5, h6⟩ := h
  exact SR.owns (base := 0) (e := 72) ⟨by rw [uC_len, h4], .inr ⟨g, cap, cur, rfl, Nat.zero_le _, h1, h5, h6, h2, h3⟩⟩
theorem InG.elts {g n cap : Nat} {M : List Us} {w : World} (h : InG g n cap M w) : Elts w Us.c 4 (.slice (some ⟨g, 0, none⟩) n cap) M := by
  refine elts_sr (c := Us.c) (sz := 4) (fun x => rfl) ?_
  have hl : M.length = n := by obtain ⟨cur, h1, h2, h3, h4, h5, h6⟩ := h; exact h4
  rw [hl]
  exact h.sr
theorem InG.below {g n cap : Nat} {M : List Us} {w w' : World} (h : InG g n cap M w) (hb : Below w.heap.size w w') : InG g n cap M w' := by
  obtain ⟨cur, h1, h2⟩ := h
  exact ⟨cur, below_at hb (lt_heap h1) h1, h2⟩
theorem InG.frz {g n cap : Nat} {M : List Us} {w : World} (h : InG g n cap M w) (o : Nat) : w.frozen? ⟨g, o, none⟩ = false := by
  obtain ⟨cur, h1, h2⟩ := h
  simp [World.frozen?, h1]
theorem InG.typed {g n cap m : Nat} {M : List Us} {w : World} (h : InG g n cap M w) (k : Nat) (e : (Value.slice (some ⟨g, 0, none⟩) m cap).ownBlock = some k) : ∃ A fr, w.heap[k]? = some (.cells A 72 fr) := by
  obtain ⟨cur, h1, h2⟩ := h
  injection e with e
  subst e
  exact ⟨cur, _, h1⟩
theorem InG.set {g n cap : Nat} {M : List Us} {w : World} (h : InG g n cap M w) (i : Nat) (hi : i < n) (u : Us) :
    InG g n cap (M.set i u) ((((w.setCell ⟨g, i * 4, none⟩ (.bool u.wr)).setCell ⟨g, i * 4 + 1, none⟩ (.string u.val)).setCell ⟨g, i * 4 + 2, none⟩ (.int .i64 u.from_)).setCell ⟨g, i * 4 + 3, none⟩ (.int .i64 u.til)) ∧ Only g w ((((w.setCell ⟨g, i * 4, none⟩ (.bool u.wr)).setCell ⟨g, i * 4 + 1, none⟩ (.string u.val)).setCell ⟨g, i * 4 + 2, none⟩ (.int .i64 u.from_)).setCell ⟨g, i * 4 + 3, none⟩ (.int .i64 u.til)) := by
  obtain ⟨cur, h1, h2, h3, h4, h5, h6⟩ := h
  have g1 := heap_set_self h1 (i * 4) (.bool u.wr)
  have g2 := heap_set_self g1 (i * 4 + 1) (.string u.val)
  have g3 := heap_set_self g2 (i * 4 + 2) (.int .i64 u.from_)
  have g4 := heap_set_self g3 (i * 4 + 3) (.int .i64 u.til)
  refine ⟨⟨_, g4, by simpa using h2, ?_, by simpa using h4, h5, h6⟩, ((((Only.refl _ _).set _ _).set _ _).set _ _).set _ _⟩
  rw [uC_set M i u (by omega), ← h3]
  simp [Array.toList_setIfInBounds, List.take_set]
theorem w_setCell_add0 (n : Nat) : 0 + n = n := Nat.zero_add n
theorem keep_next {M M' : List Us} {i j : Nat} {x : Us} (h1 : M'.take i = (M.take j).filter (fun u => u.wr)) (h2 : M'.drop j = M.drop j) (hx : M[j]? = some x) : M'[j]? = some x := by
  have := congrArg (fun l => l[0]?) h2
  simpa [hx] using this
theorem take_set_next {M : List Us} {i : Nat} {x : Us} (hi : i < M.length) : (M.set i x).take (i + 1) = M.take i ++ [x] := by
  rw [take_next (x := x) (by simp [hi])]
  congr 1
  rw [List.take_set, List.set_eq_of_length_le (by simp; omega)]
theorem drop_set_next {M : List Us} {i j : Nat} {x : Us} (hi : i ≤ j) : (M.set i x).drop (j + 1) = M.drop (j + 1) := by
  rw [List.drop_set, if_pos (by omega)]
theorem drop_next {M M' : List Us} {j : Nat} (h : M'.drop j = M.drop j) : M'.drop (j + 1) = M.drop (j + 1) := by
  rw [← List.drop_drop, h, List.drop_drop]
theorem filt_all {M : List Us} {k : Nat} {x : Us} (h : ∀ y ∈ M.take k, isRd y = false) (hx : M[k]? = some x) (hr : isRd x = true) : M.take k = (M.take (k + 1)).filter (fun u => u.wr) := by
  rw [take_next hx, List.filter_append]
  have e : (M.take k).filter (fun u => u.wr) = M.take k := List.filter_eq_self.2 fun y hy => by
    have := h y hy
    simpa [isRd] using this
  have e2 : ([x].filter (fun u => u.wr)) = [] := by
    have : x.wr = false := by simpa [isRd] using hr
    simp [this]
  rw [e, e2, List.append_nil]
end Go.Proofs.Ytodjlaapmbnahaa
