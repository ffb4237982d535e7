/-
  An order that lies in a cell of an object (an arc's four lists): the methods of order, whatever it holds.
-/
import Derived.Test.YtadejhlljdcocaaORow
namespace Go.Proofs.Ytadejhlljdcocaa
open Go.RowKit
set_option linter.unusedVariables false
set_option linter.unusedSimpArgs false

theorem RowAt.form {w : World} {N : Nat} {v : Value} {l : List Int} (h : RowAt w N v l) : ∃ a c, v = .slice a l.length c ∧ l.length ≤ c ∧ c ≤ maxLen := by
  rcases h with ⟨rfl, rfl⟩ | ⟨g, cap, f, rfl, hg, hrow, hlc, hcm, hf⟩
  · exact ⟨none, 0, rfl, Nat.le_refl _, Nat.zero_le _⟩
  · exact ⟨_, cap, rfl, hlc, hcm⟩
theorem RowAt.kept {w w' : World} {N : Nat} {v : Value} {l : List Int} (h : RowAt w N v l) (hk : ∀ g, v.ownBlock = some g → w'.heap[g]? = w.heap[g]?) : RowAt w' N v l := by
  rcases h with h | ⟨g, cap, f, rfl, hg, hrow, h⟩
  · exact .inl h
  · exact .inr ⟨g, cap, f, rfl, hg, hrow.of_block (hk g rfl), h⟩
/-- a row's block is no object of another type -/
theorem RowAt.other {w : World} {N p : Nat} {v : Value} {l : List Int} {A : Array Value} {t : TypeId} (h : RowAt w N v l) (hp : w.heap[p]? = some (.cells A t)) (ht : 3 ≠ t) : v.ownBlock ≠ some p := by
  rcases h with ⟨rfl, rfl⟩ | ⟨g, cap, f, rfl, hg, ⟨c, hc, _⟩, _⟩
  · exact fun e => by cases e
  · intro e
    injection e with e
    simp only at e
    subst e
    rw [hc] at hp
    injection hp with hp
    injection hp with _ h2
    exact ht h2
theorem RowAt.from {w : World} {N : Nat} {v : Value} {l : List Int} (h : RowAt w N v l) : ∀ k, v.ownBlock = some k → N ≤ k := by
  rcases h with ⟨rfl, rfl⟩ | ⟨g, cap, f, rfl, hg, _⟩
  · exact fun k e => by cases e
  · intro k e
    cases e
    exact hg
theorem RowAt.lt {w : World} {N : Nat} {v : Value} {l : List Int} (h : RowAt w N v l) : ∀ k, v.ownBlock = some k → k < w.heap.size := by
  rcases h with ⟨rfl, rfl⟩ | ⟨g, cap, f, rfl, hg, hrow, _⟩
  · exact fun k e => by cases e
  · intro k e
    cases e
    exact hrow.lt
theorem RowAt.alloc {w : World} {N : Nat} {v : Value} {l : List Int} (h : RowAt w N v l) (o : Obj) : RowAt (w.alloc o) N v l :=
  h.kept fun g hg => (World.grownBy_alloc w o none).block g (h.lt g hg) (by simp)
theorem RowAt.nil (w : World) (N : Nat) : RowAt w N (.slice none 0 0) [] := .inl ⟨rfl, rfl⟩
theorem obj_lt {w : World} {p : Nat} {o : Obj} (h : w.heap[p]? = some o) : p < w.heap.size := by
  rcases Nat.lt_or_ge p w.heap.size with h1 | h1
  · exact h1
  · rw [Array.getElem?_eq_none h1] at h; cases h
theorem heap_alloc_old {w : World} {p : Nat} {o' : Obj} (h : w.heap[p]? = some o') (o : Obj) : (w.alloc o).heap[p]? = some o' := ((World.grownBy_alloc w o none).block p (obj_lt h) (by simp)).trans h
theorem set_same {A : Array Value} {k : Nat} {v : Value} (h : A[k]? = some v) : A.setIfInBounds k v = A := by
  obtain ⟨hk, -⟩ := Array.getElem?_eq_some_iff.1 h
  apply Array.ext_getElem?
  intro i
  rw [Array.getElem?_setIfInBounds]
  split
  · next e => subst e; exact h.symm
  · rfl
/-- an order in cell k of the object at block a -/
structure OrdA (w : World) (N a k : Nat) (t : TypeId) (A : Array Value) (v : Value) (l : List Int) : Prop where
  low : N ≤ a
  obj : w.heap[a]? = some (.cells A t)
  cell : A[k]? = some v
  row : RowAt w N v l
  ty : 3 ≠ t
/-- what a change of it leaves -/
structure AKept (w w' : World) (N a k : Nat) (t : TypeId) (A : Array Value) (v v' : Value) : Prop where
  below : Below N w w'
  size : w.heap.size ≤ w'.heap.size
  obj : w'.heap[a]? = some (.cells (A.setIfInBounds k v') t)
  block : ∀ j, j < w.heap.size → j ≠ a → some j ≠ v.ownBlock → w'.heap[j]? = w.heap[j]?
  new : NewRow w v v'
theorem OrdA.at_ {w : World} {N a k : Nat} {t : TypeId} {A : Array Value} {v : Value} {l : List Int} (h : OrdA w N a k t A v l) : w.cell? ⟨a, k, none⟩ = some v := by simp [World.cell?, h.obj, h.cell]
theorem OrdA.below {w w' : World} {N a k : Nat} {t : TypeId} {A : Array Value} {v : Value} {l : List Int} (h : OrdA w N a k t A v l) (hb : Below w.heap.size w w') : OrdA w' N a k t A v l :=
  ⟨h.low, (hb.block a (obj_lt h.obj)).trans h.obj, h.cell, h.row.kept fun g hg => hb.block g (h.row.lt g hg), h.ty⟩
theorem ohasA (l : List Int) (n : Int) (w : World) (N a k : Nat) (t : TypeId) (A : Array Value) (v : Value) (h : OrdA w N a k t A v l) : Calls Try.prog 85 #[.pointer (some ⟨a, k, none⟩), .int .i64 n] w fun e w' => e = .returned (.bool (l.contains n)) ∧ w = w' := by
  have hr := h.row
  have hc := h.at_
  go_enter Try.func85, Try.ntmps85
  go_wp2_with fail
  refine Calls.mono (cont_any l n _ N v hr) ?_
  rintro e w1 ⟨rfl, rfl⟩
  go_wp2_with fail
  all_goals go_ret
  all_goals simp_all
theorem olenA (l : List Int) (w : World) (N a k : Nat) (t : TypeId) (A : Array Value) (v : Value) (h : OrdA w N a k t A v l) : Calls Try.prog 139 #[.pointer (some ⟨a, k, none⟩)] w fun e w' => e = .returned (.int .i64 l.length) ∧ w = w' := by
  have hr := h.row
  have hc := h.at_
  obtain ⟨a, c, rfl, _, _⟩ := hr.form
  go_enter Try.func139, Try.ntmps139
  go_wp2
  go_ret
  exact ⟨rfl, rfl⟩
theorem idx_mem (l : List Int) (n : Int) (h : n ∈ l) : Lib.idxOf l n = ((l.idxOf n : Nat) : Int) := by
  have hlt : l.idxOf n < l.length := List.idxOf_lt_length_of_mem h
  have := Lib.idxOf_hit l l.length (l.idxOf n) n hlt (Nat.le_refl _) (by rw [List.getD_eq_getElem?_getD, List.getElem?_eq_getElem hlt]; simp) (by
    intro j hj e
    have hj2 : j < l.length := by omega
    rw [List.getD_eq_getElem?_getD, List.getElem?_eq_getElem hj2] at e
    simp only [Option.getD_some] at e
    have h3 := List.not_of_lt_findIdx (p := fun y => y == n) (xs := l) (i := j) hj
    simp [e] at h3)
  rw [List.take_length] at this
  exact this
theorem put_ordA {w w1 : World} {N a k : Nat} {t : TypeId} {A : Array Value} {v v' : Value} {l m : List Int} (h : OrdA w N a k t A v l) (hg : w.grownBy w1 v.ownBlock) (hr1 : RowAt w1 N v' m) (hn : NewRow w v v') :
    w1.heap[a]? = some (.cells A t) ∧ OrdA (w1.setCell ⟨a, k, none⟩ v') N a k t (A.setIfInBounds k v') v' m ∧ AKept w (w1.setCell ⟨a, k, none⟩ v') N a k t A v v' := by
  have hp1 : w1.heap[a]? = some (.cells A t) := (hg.block a (obj_lt h.obj) (fun e => h.row.other h.obj h.ty e.symm)).trans h.obj
  have hp2 : (w1.setCell ⟨a, k, none⟩ v').heap[a]? = some (.cells (A.setIfInBounds k v') t) := heap_setCell_same _ _ _ _ _ _ hp1
  obtain ⟨hk, -⟩ := Array.getElem?_eq_some_iff.1 h.cell
  refine ⟨hp1, ⟨h.low, hp2, by simp [hk], hr1.kept fun g hg' => heap_setCell_other _ _ _ _ (fun e => hr1.other hp1 h.ty (by rw [hg', e])), h.ty⟩, ?_⟩
  have hb : Below N w w1 := (Below.refl N w).grown hg (Nat.le_trans h.low (Nat.le_of_lt (obj_lt h.obj))) h.row.from
  have hb2 := below_setCells h.low [v'] k w1 hb
  refine ⟨hb2, hb2.size, hp2, fun j hj hja hu => ?_, hn⟩
  rw [heap_setCell_other _ _ _ _ hja]
  exact hg.block j hj hu
theorem obj_frozenA {w : World} {p : Nat} {A : Array Value} {t : TypeId} (h : w.heap[p]? = some (.cells A t)) (o : Nat) : w.frozen? ⟨p, o, none⟩ = false := by simp [World.frozen?, h]
theorem obj_cellA {w : World} {p k : Nat} {A : Array Value} {t : TypeId} {v : Value} (h : w.heap[p]? = some (.cells A t)) (hv : A[k]? = some v) : w.cell? ⟨p, k, none⟩ = some v := by simp [World.cell?, h, hv]
theorem AKept.refl {w : World} {N a k : Nat} {t : TypeId} {A : Array Value} {v : Value} {l : List Int} (h : OrdA w N a k t A v l) : AKept w w N a k t A v v := ⟨Below.refl _ _, Nat.le_refl _, by rw [set_same h.cell]; exact h.obj, fun _ _ _ _ => rfl, .inl rfl⟩
set_option maxHeartbeats 1600000 in
theorem odropA (l : List Int) (n : Int) (w : World) (N a k : Nat) (t : TypeId) (A : Array Value) (v : Value) (h : OrdA w N a k t A v l) (hl : l.length ≤ 1000000) : Calls Try.prog 83 #[.pointer (some ⟨a, k, none⟩), .int .i64 n] w fun e w' => e = .returned (.bool (l.contains n)) ∧ ∃ v', OrdA w' N a k t (A.setIfInBounds k v') v' (l.erase n) ∧ AKept w w' N a k t A v v' := by
  have hr := h.row
  have hc := h.at_
  by_cases hm : n ∈ l
  · have hi : l.idxOf n < l.length := List.idxOf_lt_length_of_mem hm
    go_enter Try.func83, Try.ntmps83
    go_wp2_with fail
    refine Calls.mono (ohasA l n _ N a k t A v h) ?_
    rintro e w1 ⟨rfl, rfl⟩
    simp only [List.contains_iff_mem, hm, decide_true, List.contains_eq_mem]
    go_wp2_with fail
    refine Calls.mono (index_any l n _ N v hr) ?_
    rintro e w1 ⟨rfl, rfl⟩
    rw [idx_mem l n hm]
    go_wp2_with fail
    refine Calls.mono (del_any l (l.idxOf n) _ N v hr hi) ?_
    rintro e w1 ⟨v', rfl, hr1, hg, hnr⟩
    have hput := put_ordA h hg hr1 hnr
    have hc1 := obj_cellA hput.1 h.cell
    have hf1 := obj_frozenA hput.1 k
    obtain ⟨a, c, rfl, _, _⟩ := hr1.form
    go_wp2_with fail
    go_ret
    exact ⟨by simp [hm], _, by rw [List.erase_eq_eraseIdx_of_idxOf rfl]; exact hput.2.1, hput.2.2⟩
  · go_enter Try.func83, Try.ntmps83
    go_wp2_with fail
    refine Calls.mono (ohasA l n _ N a k t A v h) ?_
    rintro e w1 ⟨rfl, rfl⟩
    simp only [List.contains_eq_mem, hm, decide_false]
    go_wp2_with fail
    go_ret
    exact ⟨by simp [hm], v, by rw [List.erase_of_not_mem hm, set_same h.cell]; exact h, AKept.refl h⟩
theorem AKept.trans {x y z : World} {N a k : Nat} {t : TypeId} {A : Array Value} {u v s : Value} (h : AKept x y N a k t A u v) (g : AKept y z N a k t (A.setIfInBounds k v) v s) : AKept x z N a k t A u s := by
  refine ⟨h.below.trans g.below, Nat.le_trans h.size g.size, ?_, fun j hj hja hu => ?_, h.new.trans g.new h.size⟩
  · have := g.obj
    rwa [Array.setIfInBounds_setIfInBounds] at this
  · refine (g.block j (Nat.lt_of_lt_of_le hj h.size) hja fun e => ?_).trans (h.block j hj hja hu)
    rcases h.new with hn | hn
    · exact hu (e.trans hn)
    · exact absurd (hn j e.symm) (by omega)
set_option maxHeartbeats 1600000 in
theorem ouseA (l : List Int) (n : Int) (w : World) (N a k : Nat) (t : TypeId) (A : Array Value) (v : Value) (h : OrdA w N a k t A v l) (hl : l.length ≤ 1000000) : Calls Try.prog 84 #[.pointer (some ⟨a, k, none⟩), .int .i64 n] w fun e w' => e = .returned (.tuple #[]) ∧ ∃ v', OrdA w' N a k t (A.setIfInBounds k v') v' (n :: l.erase n) ∧ AKept w w' N a k t A v v' := by
  go_enter Try.func84, Try.ntmps84
  go_wp2_with fail
  refine Calls.mono (odropA l n _ N a k t A v h hl) ?_
  rintro e w1 ⟨rfl, v1, h1, hb⟩
  have hr := h1.row
  have hc := h1.at_
  have hlen : (l.erase n).length ≤ 1000000 := Nat.le_trans (List.length_erase_le) hl
  have hNs : N ≤ w1.heap.size := Nat.le_trans h1.low (Nat.le_of_lt (obj_lt h1.obj))
  go_wp2_with fail
  refine Calls.mono (ins_any (l.erase n) n (w1.alloc (.cells #[.int .i64 n] 3)) N w1.heap.size v1 (hr.alloc _) (World.rowIs_alloc w1 #[Value.int .i64 n] 3 (fun _ => .int .i64 n) (by intro i hi; simp at hi; subst hi; rfl))
    (fun e => Nat.lt_irrefl _ (hr.lt _ e.symm)) hlen (Nat.le_trans hNs (World.grownBy_alloc w1 _ none).size)) ?_
  rintro e w2 ⟨v', rfl, hr2, hg2, hnr⟩
  have hbA := (Below.refl w1.heap.size w1).alloc (Nat.le_refl _) (.cells #[.int .i64 n] 3)
  have hA : AKept w1 (w1.alloc (.cells #[.int .i64 n] 3)) N a k t (A.setIfInBounds k v1) v1 v1 := ⟨hbA.mono hNs, hbA.size, by rw [set_same h1.cell]; exact heap_alloc_old h1.obj _, fun j hj _ _ => hbA.block j hj, .inl rfl⟩
  have hput := put_ordA (h1.below hbA) hg2 hr2 hnr
  have hc2 := obj_cellA hput.1 h1.cell
  have hf2 := obj_frozenA hput.1 k
  obtain ⟨b, c, rfl, _, _⟩ := hr2.form
  go_wp2_with fail
  go_returns
  refine ⟨rfl, _, ?_, (hb.trans hA).trans hput.2.2⟩
  have := hput.2.1
  rwa [Array.setIfInBounds_setIfInBounds] at this
end Go.Proofs.Ytadejhlljdcocaa
