/-
  A voter's log whose commands are none: New, Add, Len, Term.
-/
import Derived.Test.YtadejhlljdcocaaHeld
import Derived.Test.YtadejhlljdcocaaShelf
namespace Go.Proofs.Ytadejhlljdcocaa
open Go.RowKit
set_option linter.unusedVariables false
set_option linter.unusedSimpArgs false

def confZ : Array Value := #[.int .i64 0, .int .i64 0, .int .i64 0, .slice none 0 0, .slice none 0 0]
def cmdZ : Array Value := #[.int .i64 0, .int .i64 0, .int .i64 0, .int .i64 0, .slice none 0 0, .slice none 0 0]
def entZ (t : Int) : Array Value := #[.int .i64 t, .int .i64 0, .int .i64 0, .int .i64 0, .int .i64 0, .slice none 0 0, .slice none 0 0]
theorem cnoneZ (w : World) : Calls Try.prog 191 #[.agg confZ] w fun e w' => e = .returned (.bool true) ∧ Below w.heap.size w w' := by
  have hb := (Below.refl w.heap.size w).alloc (Nat.le_refl _) (.cells confZ 31)
  have hx := heap_alloc_self w (.cells confZ 31)
  unfold confZ at *
  go_enter Try.func191, Try.ntmps191
  go_upto_region 1 with fail
  generalize w.alloc (.cells #[.int .i64 0, .int .i64 0, .int .i64 0, .slice none 0 0, .slice none 0 0] 31) = w1 at *
  have d0 : w1.cell? ⟨w.heap.size, 0, none⟩ = some (.int .i64 0) := by simp [World.cell?, hx]
  have d1 : w1.cell? ⟨w.heap.size, 1, none⟩ = some (.int .i64 0) := by simp [World.cell?, hx]
  have d2 : w1.cell? ⟨w.heap.size, 2, none⟩ = some (.int .i64 0) := by simp [World.cell?, hx]
  have d3 : w1.cell? ⟨w.heap.size, 3, none⟩ = some (.slice none 0 0) := by simp [World.cell?, hx]
  have d4 : w1.cell? ⟨w.heap.size, 4, none⟩ = some (.slice none 0 0) := by simp [World.cell?, hx]
  go_wp2_with fail
  go_ret
  exact ⟨rfl, hb⟩
theorem dmayZ (w : World) : Calls Try.prog 164 #[.agg cmdZ] w fun e w' => e = .returned (.bool true) ∧ Below w.heap.size w w' := by
  have hb := (Below.refl w.heap.size w).alloc (Nat.le_refl _) (.cells cmdZ 33)
  have hx := heap_alloc_self w (.cells cmdZ 33)
  have cn := fun w => cnoneZ w
  unfold cmdZ confZ at *
  go_enter Try.func164, Try.ntmps164
  go_upto_region 1 with fail
  generalize w.alloc (.cells #[.int .i64 0, .int .i64 0, .int .i64 0, .int .i64 0, .slice none 0 0, .slice none 0 0] 33) = w1 at *
  have d0 : w1.cell? ⟨w.heap.size, 0, none⟩ = some (.int .i64 0) := by simp [World.cell?, hx]
  have d1 : w1.cell? ⟨w.heap.size, 1, none⟩ = some (.int .i64 0) := by simp [World.cell?, hx]
  have d2 : w1.cell? ⟨w.heap.size, 2, none⟩ = some (.int .i64 0) := by simp [World.cell?, hx]
  have d3 : w1.cell? ⟨w.heap.size, 3, none⟩ = some (.int .i64 0) := by simp [World.cell?, hx]
  have d4 : w1.cell? ⟨w.heap.size, 4, none⟩ = some (.slice none 0 0) := by simp [World.cell?, hx]
  have d5 : w1.cell? ⟨w.heap.size, 5, none⟩ = some (.slice none 0 0) := by simp [World.cell?, hx]
  have HB := Lib.hid hb
  clear hb hx
  go_wp2_with fail
  refine Calls.mono (cn _) ?_
  rintro e w2 ⟨rfl, h2⟩
  have HB2 := Lib.hid (HB.out.trans (h2.mono HB.out.size))
  clear h2
  go_wp2_with fail
  go_ret
  exact ⟨rfl, HB2.out⟩
theorem emayZ (t : Int) (h1 : 1 ≤ t) (h2 : t ≤ 1048576) (w : World) : Calls Try.prog 128 #[.agg (entZ t)] w fun e w' => e = .returned (.bool true) ∧ Below w.heap.size w w' := by
  have hb := (Below.refl w.heap.size w).alloc (Nat.le_refl _) (.cells (entZ t) 35)
  have hx := heap_alloc_self w (.cells (entZ t) 35)
  have cn := fun w => dmayZ w
  unfold cmdZ entZ at *
  go_enter Try.func128, Try.ntmps128
  go_upto_region 1 with fail
  generalize w.alloc (.cells #[.int .i64 t, .int .i64 0, .int .i64 0, .int .i64 0, .int .i64 0, .slice none 0 0, .slice none 0 0] 35) = w1 at *
  have d0 : w1.cell? ⟨w.heap.size, 0, none⟩ = some (.int .i64 t) := by simp [World.cell?, hx]
  have d1 : w1.cell? ⟨w.heap.size, 1, none⟩ = some (.int .i64 0) := by simp [World.cell?, hx]
  have d2 : w1.cell? ⟨w.heap.size, 2, none⟩ = some (.int .i64 0) := by simp [World.cell?, hx]
  have d3 : w1.cell? ⟨w.heap.size, 3, none⟩ = some (.int .i64 0) := by simp [World.cell?, hx]
  have d4 : w1.cell? ⟨w.heap.size, 4, none⟩ = some (.int .i64 0) := by simp [World.cell?, hx]
  have d5 : w1.cell? ⟨w.heap.size, 5, none⟩ = some (.slice none 0 0) := by simp [World.cell?, hx]
  have d6 : w1.cell? ⟨w.heap.size, 6, none⟩ = some (.slice none 0 0) := by simp [World.cell?, hx]
  have HB := Lib.hid hb
  clear hb hx
  go_wp2_with fail
  refine Calls.mono (cn _) ?_
  rintro e w2 ⟨rfl, h2⟩
  have HB2 := Lib.hid (HB.out.trans (h2.mono HB.out.size))
  clear h2
  go_wp2_with fail
  go_ret
  exact ⟨rfl, HB2.out⟩
theorem cloneN (w : World) : Calls Try.prog 153 #[.slice none 0 0] w fun e w' => e = .returned (.slice none 0 0) ∧ w = w' :=
  (Try.slices_Clone_int_nil 0 0 w).mono fun e w' ⟨h1, h2⟩ => ⟨h1, h2.symm⟩
/-- the cells of a block known whole -/
theorem cell_at {w : World} {b : Nat} {A : Array Value} {t : TypeId} {fr : Nat × Nat} (h : w.heap[b]? = some (.cells A t fr)) (i : Nat) {v : Value} (hv : A[i]? = some v) : w.cell? ⟨b, i, none⟩ = some v := by
  simp [World.cell?, h, hv]
theorem far_obj {w : World} {p : Nat} {o' : Obj} (h : w.heap[p]? = some o') (o : Obj) : (w.alloc o).heap[p]? = some o' := ((Below.refl w.heap.size w).alloc (Nat.le_refl _) o).block p (lt_heap h) |>.trans h
/-- the same value stored again -/
theorem setCell_id {w : World} {b i : Nat} {A : Array Value} {t : TypeId} {v : Value} (h : w.heap[b]? = some (.cells A t)) (hv : A[i]? = some v) : w.setCell ⟨b, i, none⟩ v = w := by
  have hh : (w.setCell ⟨b, i, none⟩ v).heap = w.heap := by
    apply Array.ext_getElem?
    intro k
    by_cases hk : k = b
    · subst hk
      rw [heap_setCell_same _ _ _ _ _ _ h, h]
      congr 2
      obtain ⟨hk, -⟩ := Array.getElem?_eq_some_iff.1 hv
      apply Array.ext_getElem?
      intro j
      rw [Array.getElem?_setIfInBounds]
      split
      · next e => subst e; exact hv.symm
      · rfl
    · exact heap_setCell_other _ _ _ _ hk
  have : (w.setCell ⟨b, i, none⟩ v) = { w with heap := (w.setCell ⟨b, i, none⟩ v).heap } := rfl
  rw [this, hh]
set_option maxHeartbeats 1600000 in
theorem oconfZ (w : World) : Calls Try.prog 165 #[.agg confZ] w fun e w' => e = .returned (.agg confZ) ∧ Below w.heap.size w w' := by
  have hb : Below w.heap.size w ((w.alloc (.cells confZ 31)).alloc (.cells confZ 31)) := ((Below.refl _ _).alloc (Nat.le_refl _) _).alloc (by simp) _
  have hx := far_obj (heap_alloc_self w (.cells confZ 31)) (.cells confZ 31)
  have hy := heap_alloc_self (w.alloc (.cells confZ 31)) (.cells confZ 31)
  have hz : (w.alloc (.cells confZ 31)).heap.size = w.heap.size + 1 := by simp
  rw [hz] at hy
  have cn := fun w => cloneN w
  unfold confZ at *
  go_enter Try.func165, Try.ntmps165
  go_upto_region 1 with fail
  generalize (w.alloc (.cells #[.int .i64 0, .int .i64 0, .int .i64 0, .slice none 0 0, .slice none 0 0] 31)).alloc (.cells #[.int .i64 0, .int .i64 0, .int .i64 0, .slice none 0 0, .slice none 0 0] 31) = w1 at *
  have d0 := cell_at hx 0 (v := .int .i64 0) rfl
  have d1 := cell_at hx 1 (v := .int .i64 0) rfl
  have d2 := cell_at hx 2 (v := .int .i64 0) rfl
  have d3 := cell_at hx 3 (v := .slice none 0 0) rfl
  have d4 := cell_at hx 4 (v := .slice none 0 0) rfl
  have e0 := cell_at hy 0 (v := .int .i64 0) rfl
  have e1 := cell_at hy 1 (v := .int .i64 0) rfl
  have e2 := cell_at hy 2 (v := .int .i64 0) rfl
  have e3 := cell_at hy 3 (v := .slice none 0 0) rfl
  have e4 := cell_at hy 4 (v := .slice none 0 0) rfl
  have i3 := setCell_id hx (i := 3) (v := .slice none 0 0) rfl
  have i4 := setCell_id hx (i := 4) (v := .slice none 0 0) rfl
  have j0 := setCell_id hy (i := 0) (v := .int .i64 0) rfl
  have j1 := setCell_id hy (i := 1) (v := .int .i64 0) rfl
  have j2 := setCell_id hy (i := 2) (v := .int .i64 0) rfl
  have j3 := setCell_id hy (i := 3) (v := .slice none 0 0) rfl
  have j4 := setCell_id hy (i := 4) (v := .slice none 0 0) rfl
  have f1 : ∀ i, w1.frozen? ⟨w.heap.size, i, none⟩ = false := fun i => by simp [World.frozen?, hx]
  have f2 : ∀ i, w1.frozen? ⟨w.heap.size + 1, i, none⟩ = false := fun i => by simp [World.frozen?, hy]
  have HB := Lib.hid hb
  clear hb hx hy hz
  go_wp2_with fail
  refine Calls.mono (cn _) ?_
  rintro e w2 ⟨rfl, rfl⟩
  go_wp2_with fail
  refine Calls.mono (cn _) ?_
  rintro e w2 ⟨rfl, rfl⟩
  go_wp2_with fail
  refine bodyPost_ret (v := .agg #[.int .i64 0, .int .i64 0, .int .i64 0, .slice none 0 0, .slice none 0 0]) (by simp [results, Try.results165, go_sem, e0, e1, e2, e3, e4]) rfl ?_
  exact ⟨rfl, HB.out⟩
end Go.Proofs.Ytadejhlljdcocaa
