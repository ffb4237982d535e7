/-
  No mirror; and the waking call of layer 24: a mirror with nothing kept.
-/
import Derived.Test.YtnjklhmnkjejfaaSetC
import Derived.Test.YtnjklhmnkjejfaaItsA
namespace Go.Proofs.Ytnjklhmnkjejfaa
open Go.RowKit
set_option linter.unusedVariables false
set_option linter.unusedSimpArgs false

theorem index_nil (n : Int) (w : World) : Calls Try.prog 59 #[.slice none 0 0, .int .i64 n] w fun e w' => e = .returned (.int .i64 (-1)) ∧ w = w' := by
  go_enter Try.func59, Try.ntmps59
  go_wp2_with fail
  go_loopw [8] (fun i wr => i = .int .i64 0 ∧ wr = w) (fun _ _ => 0)
  case atStart => exact ⟨rfl, rfl⟩
  case round =>
    obtain ⟨rfl, rfl⟩ := hrel
    go_wp2_with fail
    go_ret
    exact ⟨rfl, rfl⟩
theorem contains_nil (n : Int) (w : World) : Calls Try.prog 62 #[.slice none 0 0, .int .i64 n] w fun e w' => e = .returned (.bool false) ∧ w = w' := by
  go_enter Try.func62, Try.ntmps62
  go_wp2_with fail
  refine Calls.mono (index_nil n _) ?_
  rintro e w1 ⟨rfl, rfl⟩
  go_wp2_with fail
  go_ret
  exact ⟨rfl, rfl⟩
theorem ohas_nil (g k : Nat) (n : Int) (w : World) (h : w.cell? ⟨g, k, none⟩ = some (.slice none 0 0)) : Calls Try.prog 45 #[.pointer (some ⟨g, k, none⟩), .int .i64 n] w fun e w' => e = .returned (.bool false) ∧ w = w' := by
  go_enter Try.func45, Try.ntmps45
  go_wp2_with fail
  refine Calls.mono (contains_nil n _) ?_
  rintro e w1 ⟨rfl, rfl⟩
  go_wp2_with fail
  go_ret
  exact ⟨rfl, rfl⟩
theorem odrop_nil (g k : Nat) (n : Int) (w : World) (h : w.cell? ⟨g, k, none⟩ = some (.slice none 0 0)) : Calls Try.prog 43 #[.pointer (some ⟨g, k, none⟩), .int .i64 n] w fun e w' => e = .returned (.bool false) ∧ w = w' := by
  go_enter Try.func43, Try.ntmps43
  go_wp2_with fail
  refine Calls.mono (ohas_nil g k n _ h) ?_
  rintro e w1 ⟨rfl, rfl⟩
  go_wp2_with fail
  go_ret
  exact ⟨rfl, rfl⟩
/-- what keeps nothing -/
def arcO : Obj := .cells #[.int .i64 2, .int .i64 0, .slice none 0 0, .slice none 0 0, .slice none 0 0, .slice none 0 0] 74
theorem anew (w : World) : Calls Try.prog 29 #[.int .i64 2] w fun e w' => e = .returned (.pointer (some ⟨w.heap.size, 0, none⟩)) ∧ w' = w.alloc arcO := by
  go_enter Try.func29, Try.ntmps29
  go_wp2_with fail
  go_ret
  exact ⟨rfl, rfl⟩
theorem adrop (a : Nat) (n : Int) (w : World) (h : w.heap[a]? = some arcO) : Calls Try.prog 28 #[.pointer (some ⟨a, 0, none⟩), .int .i64 n] w fun e w' => e = .returned (.bool false) ∧ w = w' := by
  unfold arcO at h
  have d2 : w.cell? ⟨a, 2, none⟩ = some (.slice none 0 0) := by simp [World.cell?, h]
  have d3 : w.cell? ⟨a, 3, none⟩ = some (.slice none 0 0) := by simp [World.cell?, h]
  clear h
  go_enter Try.func28, Try.ntmps28
  go_wp2_with fail
  refine Calls.mono (odrop_nil a 2 n _ d2) ?_
  rintro e w1 ⟨rfl, rfl⟩
  go_wp2_with fail
  refine Calls.mono (odrop_nil a 3 n _ d3) ?_
  rintro e w1 ⟨rfl, rfl⟩
  go_wp2_with fail
  go_ret
  exact ⟨rfl, rfl⟩
set_option maxHeartbeats 800000 in
theorem cnew0 (w : World) : Calls Try.prog 9 #[.int .i64 2] w fun e w' => ∃ C a mv, e = .returned (.pointer (some ⟨C, 0, none⟩)) ∧ w.heap.size ≤ C ∧ w.heap.size ≤ a ∧ w'.heap[C]? = some (.cells #[.pointer (some ⟨a, 0, none⟩), mv] 51) ∧ w'.heap[a]? = some arcO ∧ Below w.heap.size w w' := by
  have hb0 := (Below.refl w.heap.size w).alloc (Nat.le_refl _) arcO
  have hy := heap_alloc_self w arcO
  have hmm := @run_makeMap Try.prog
  go_enter Try.func9, Try.ntmps9
  go_wp2_with fail
  refine Calls.mono (anew _) ?_
  rintro e w1 ⟨rfl, rfl⟩
  generalize w.alloc arcO = w1 at *
  go_wp2_with fail
  go_ret
  have hb1 := hb0.alloc hb0.size (.map #[] 0)
  have y1 := alloc_far (o := .map #[] 0) hy
  generalize hw2 : w1.alloc (.map #[] 0) = w2 at *
  have hs : w2.heap.size = w1.heap.size + 1 := by rw [← hw2]; simp
  rw [← hs]
  exact ⟨w2.heap.size, w.heap.size, _, rfl, hb1.size, Nat.le_refl _, heap_alloc_self _ _, alloc_far y1, hb1.alloc hb1.size _⟩
theorem carc0 (C a : Nat) (w : World) (d0 : w.cell? ⟨C, 0, none⟩ = some (.pointer (some ⟨a, 0, none⟩))) : Calls Try.prog 12 #[.pointer (some ⟨C, 0, none⟩)] w fun e w' => e = .returned (.pointer (some ⟨a, 0, none⟩)) ∧ w = w' := by
  go_enter Try.func12, Try.ntmps12
  go_wp2_with fail
  go_ret
  exact ⟨rfl, rfl⟩
theorem cdrop0 (C a : Nat) (mv : Value) (n : Int) (w : World) (h : w.heap[C]? = some (.cells #[.pointer (some ⟨a, 0, none⟩), mv] 51)) (ha : w.heap[a]? = some arcO) : Calls Try.prog 7 #[.pointer (some ⟨C, 0, none⟩), .int .i64 n] w fun e w' => e = .returned (.tuple #[]) ∧ w = w' := by
  have d0 : w.cell? ⟨C, 0, none⟩ = some (.pointer (some ⟨a, 0, none⟩)) := by simp [World.cell?, h]
  clear h
  have cd := fun n => adrop a n w ha
  have ca := carc0 C a w d0
  go_enter Try.func7, Try.ntmps7
  go_wp2_with fail
  refine Calls.mono ca ?_
  rintro e w1 ⟨rfl, rfl⟩
  go_wp2_with fail
  refine Calls.mono (cd _) ?_
  rintro e w1 ⟨rfl, rfl⟩
  go_wp2_with fail
  go_end0
  exact ⟨rfl, rfl⟩
/-- the cells of a mirror: what was met of block 3; where its set and its cache are -/
structure MirC (A : Array Value) (k : Int) (p C : Nat) : Prop where
  met : A[3]? = some (.int .u64 k)
  set : A[64]? = some (.pointer (some ⟨p, 0, none⟩))
  cac : A[65]? = some (.pointer (some ⟨C, 0, none⟩))
theorem zero58 : Try.zeroCells58.size = 66 ∧ Try.zeroCells58[3]? = some (.int .u64 0) := ⟨rfl, rfl⟩
theorem mirC_new (p C : Nat) : MirC ((Try.zeroCells58.setIfInBounds 64 (.pointer (some ⟨p, 0, none⟩))).setIfInBounds 65 (.pointer (some ⟨C, 0, none⟩))) 0 p C := by
  obtain ⟨h1, h2⟩ := zero58
  generalize Try.zeroCells58 = Z at *
  exact ⟨by simpa [Array.getElem?_setIfInBounds, h1] using (Array.getElem?_eq_some_iff.1 h2).2, by simp [Array.getElem?_setIfInBounds, h1], by simp [Array.getElem?_setIfInBounds, h1]⟩
theorem MirC.put {A : Array Value} {k : Int} {p C : Nat} (h : MirC A k p C) (j : Int) : MirC (A.setIfInBounds 3 (.int .u64 j)) j p C := by
  obtain ⟨h1, h2, h3⟩ := h
  have hs : 65 < A.size := (Array.getElem?_eq_some_iff.1 h3).1
  exact ⟨by simp [Array.getElem?_setIfInBounds]; omega, by simp [Array.getElem?_setIfInBounds, h2], by simp [Array.getElem?_setIfInBounds, h3]⟩
/-- a mirror with an empty cache -/
structure Mir (w : World) (N p : Nat) (v : Value) (l : List HI) (m C a : Nat) (k : Int) (A : Array Value) (mv : Value) : Prop where
  set : SetAt w N p v l
  mir : IBlk w p v m (.cells A 58)
  cells : MirC A k p C
  cac : IBlk w p v C (.cells #[.pointer (some ⟨a, 0, none⟩), mv] 51)
  arc : IBlk w p v a arcO
  mc : m ≠ C
  ma : m ≠ a
theorem Mir.go {w w' : World} {N p : Nat} {v : Value} {l : List HI} {m C a : Nat} {k : Int} {A : Array Value} {mv : Value} (h : Mir w N p v l m C a k A mv) (hb : Below w.heap.size w w') : Mir w' N p v l m C a k A mv :=
  ⟨h.set.below hb, h.mir.go hb, h.cells, h.cac.go hb, h.arc.go hb, h.mc, h.ma⟩
theorem Mir.step {w w' : World} {N p : Nat} {v v' : Value} {l l' : List HI} {m C a : Nat} {k : Int} {A : Array Value} {mv : Value} (h : Mir w N p v l m C a k A mv) (hs : SetAt w' N p v' l') (hk : OKept w w' N p v v') : Mir w' N p v' l' m C a k A mv :=
  ⟨hs, h.mir.step hk, h.cells, h.cac.step hk, h.arc.step hk, h.mc, h.ma⟩
theorem Mir.drew {w : World} {N p : Nat} {v : Value} {l : List HI} {m C a : Nat} {k : Int} {A : Array Value} {mv : Value} (h : Mir w N p v l m C a k A mv) : Mir w.drew N p v l m C a k A mv :=
  ⟨h.set.drew, ⟨h.mir.at_, h.mir.ne, h.mir.nr⟩, h.cells, ⟨h.cac.at_, h.cac.ne, h.cac.nr⟩, ⟨h.arc.at_, h.arc.ne, h.arc.nr⟩, h.mc, h.ma⟩
theorem Mir.cell {w : World} {N p : Nat} {v : Value} {l : List HI} {m C a : Nat} {k : Int} {A : Array Value} {mv : Value} (h : Mir w N p v l m C a k A mv) : w.cell? ⟨m, 3, none⟩ = some (.int .u64 k) ∧ w.cell? ⟨m, 64, none⟩ = some (.pointer (some ⟨p, 0, none⟩)) ∧ w.cell? ⟨m, 65, none⟩ = some (.pointer (some ⟨C, 0, none⟩)) ∧ w.frozen? ⟨m, 3, none⟩ = false := by
  have hm := h.mir.at_
  exact ⟨by simp [World.cell?, hm, h.cells.met], by simp [World.cell?, hm, h.cells.set], by simp [World.cell?, hm, h.cells.cac], by simp [World.frozen?, hm]⟩
theorem heap_setCell_same {w : World} {m i : Nat} {A : Array Value} {t : TypeId} (h : w.heap[m]? = some (.cells A t)) (x : Value) : (w.setCell ⟨m, i, none⟩ x).heap[m]? = some (.cells (A.setIfInBounds i x) t) := by
  unfold World.setCell
  simp only [Array.getElem?_modify, if_pos trivial, h, Option.map_some]
  simp
theorem heap_setCell_far {w : World} {m i g : Nat} (h : m ≠ g) (x : Value) : (w.setCell ⟨m, i, none⟩ x).heap[g]? = w.heap[g]? := by
  unfold World.setCell
  simp only [Array.getElem?_modify, if_neg h]
theorem IBlk.far {w : World} {p : Nat} {v : Value} {X : Nat} {o : Obj} (h : IBlk w p v X o) {m i : Nat} (hm : m ≠ X) (x : Value) : IBlk (w.setCell ⟨m, i, none⟩ x) p v X o := ⟨(heap_setCell_far hm x).trans h.at_, h.ne, h.nr⟩
theorem Mir.put {w : World} {N p : Nat} {v : Value} {l : List HI} {m C a : Nat} {k : Int} {A : Array Value} {mv : Value} (h : Mir w N p v l m C a k A mv) (j : Int) : Mir (w.setCell ⟨m, 3, none⟩ (.int .u64 j)) N p v l m C a j (A.setIfInBounds 3 (.int .u64 j)) mv :=
  ⟨⟨h.set.1, (heap_setCell_far h.mir.ne _).trans h.set.2.1, ownsRow_setCell_other h.set.2.2.1 (fun e => h.mir.nr e.symm) _, h.set.2.2.2⟩, ⟨heap_setCell_same h.mir.at_ _, h.mir.ne, h.mir.nr⟩, h.cells.put j, h.cac.far h.mc _, h.arc.far h.ma _, h.mc, h.ma⟩
set_option maxHeartbeats 800000 in
theorem mnew0 (w : World) : Calls Try.prog 32 #[.int .i64 2] w fun e w' => ∃ m C a A mv, e = .returned (.pointer (some ⟨m, 0, none⟩)) ∧ Mir w' w.heap.size w.heap.size (.slice none 0 0) [] m C a 0 A mv ∧ w.heap.size ≤ m ∧ Below w.heap.size w w' := by
  have c0 := fun w => snew w
  have c1 := fun w => cnew0 w
  have hS := set_new w
  have hb0 := (Below.refl w.heap.size w).alloc (Nat.le_refl _) (.cells #[.slice none 0 0] 79)
  have hz : (w.alloc (.cells #[.slice none 0 0] 79)).heap.size = w.heap.size + 1 := by simp
  go_enter Try.func32, Try.ntmps32
  go_wp2_with fail
  refine Calls.mono (c0 _) ?_
  rintro e w1 ⟨rfl, rfl⟩
  generalize w.alloc (.cells #[.slice none 0 0] 79) = w1 at *
  go_wp2_with fail
  refine Calls.mono (c1 _) ?_
  rintro e w2 ⟨C, a, mv, rfl, g1, g2, g3, g4, g5⟩
  go_wp2_with fail
  go_ret
  have l1 := lt_heap g3
  have l2 := lt_heap g4
  have hnr : ∀ X : Nat, some X ≠ Value.ownBlock (.slice none 0 0) := fun X e => by cases e
  refine ⟨w2.heap.size, C, a, _, mv, rfl, ⟨(hS.below g5).below ((Below.refl _ _).alloc (Nat.le_refl _) _), ⟨heap_alloc_self _ _, by omega, hnr _⟩, mirC_new _ _, ⟨alloc_far g3, by omega, hnr _⟩, ⟨alloc_far g4, by omega, hnr _⟩, by omega, by omega⟩, by omega, ?_⟩
  have hb1 := hb0.trans (g5.mono (by omega))
  exact hb1.alloc hb1.size _
theorem mhas3 (w : World) : Calls Try.prog 33 #[.int .i64 3] w fun e w' => e = .returned (.bool true) ∧ w = w' := by
  go_enter Try.func33, Try.ntmps33
  go_wp2_with fail
  go_ret
  exact ⟨rfl, rfl⟩
end Go.Proofs.Ytnjklhmnkjejfaa
