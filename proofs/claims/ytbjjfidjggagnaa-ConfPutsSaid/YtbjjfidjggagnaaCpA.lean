/-
  A configuration as bytes: conf.Put and the reference's.
-/
import Derived.Test.YtbjjfidjggagnaaEntA
import Derived.Test.YtbjjfidjggagnaaNumM
import Derived.Test.YtbjjfidjggagnaaHeld
namespace Go.Proofs.Ytbjjfidjggagnaa
open Go.RowKit
set_option linter.unusedVariables false
set_option linter.unusedSimpArgs false

/-- a configuration's bytes -/
def putC (c : CF) : List UInt8 := listN [c.e, c.b, c.k] ++ listN c.M ++ listN c.C
theorem ints_sr {w : World} {v : Value} {l : List Int} (h : SR w v 1 l.length (nCells l)) : Ints w v l := by
  obtain ⟨a, cap, rfl, h1, h2, h3, h4⟩ := h
  have hm : l.length ≤ 9223372036854775807 := by unfold maxLen at h2; omega
  refine ⟨a, cap, rfl, hm, ?_⟩
  rcases h4 with h4 | ⟨b, off, rfl, hb, hc⟩
  · exact .inl (List.eq_nil_of_length_eq_zero h4)
  · exact .inr ⟨b, off, rfl, hb, fun j hj => hc j _ (by simp [nCells, List.getD_eq_getElem?_getD, List.getElem?_eq_getElem hj])⟩
theorem ints_three (w : World) (x y z : Int) : Ints (w.alloc (.cells #[.int .i64 x, .int .i64 y, .int .i64 z] 3)) (.slice (some ⟨w.heap.size, 0, none⟩) 3 3) [x, y, z] := by
  have hx := heap_alloc_self w (.cells #[.int .i64 x, .int .i64 y, .int .i64 z] 3)
  refine ⟨_, 3, rfl, by simp, .inr ⟨w.heap.size, 0, rfl, lt_heap hx, fun j hj => ?_⟩⟩
  match j, hj with
  | 0, _ | 1, _ | 2, _ => simp only [World.cell?, hx]; rfl
theorem keepsV_start {N : Nat} {w : World} (h : N ≤ w.heap.size) : N ≤ w.drew.heap.size ∧ Below N w w.drew ∧ ∀ b o, b < N → w.drew.cell? ⟨b, o, none⟩ = w.cell? ⟨b, o, none⟩ :=
  ⟨h, below_drew' (Below.refl _ _), fun _ _ _ => rfl⟩
theorem keepsV_two {N : Nat} {w w' : World} {X : Prop} (h1 : N ≤ w'.heap.size ∧ Below N w w' ∧ X) : N ≤ w'.heap.size ∧ Below N w w' := ⟨h1.1, h1.2.1⟩
theorem keeps_allocD {N : Nat} {w w' : World} {X : Prop} {o : Obj} (h1 : N ≤ w'.drew.heap.size ∧ Below N w w'.drew ∧ X) : N ≤ (w'.alloc o).drew.heap.size ∧ Below N w (w'.alloc o).drew ∧ ∀ b k, b < N → (w'.alloc o).drew.cell? ⟨b, k, none⟩ = w.cell? ⟨b, k, none⟩ :=
  keeps_alloc (w' := w'.drew) (o := o) h1
/-- every number can be put -/
def low63 (l : List Int) : Prop := l.length ≤ 1000 ∧ ∀ x ∈ l, x ≤ 9223372036854775807
theorem listN_len {l : List Int} (h : low63 l) : (listN l).length ≤ 10000 := by
  have h1 := putN_length l.length (by have := h.1; omega)
  have h2 := flat_len l h.2
  have h3 := h.1
  simp only [listN, List.length_append]
  omega
theorem cputCL (l : List Int) (hl : low63 l) (v : Value) (N : Nat) (w : World) (hW : N ≤ w.heap.size) (h : Ints w v l) : Calls Try.prog 68 #[v] w fun e w' => e = .returned (.string ⟨(listN l).toArray⟩) ∧ Stays N w w' := by
  refine (list_any v l w h hl.1 hl.2).mono ?_
  rintro ev w' ⟨rfl, hb⟩
  exact ⟨rfl, stays_of hW hb⟩
set_option maxHeartbeats 3200000 in
set_option maxRecDepth 40000 in
theorem cputC (c : CF) (a1 a2 : Option Addr) (q1 q2 : Nat) (w : World) (h : CFat c w (.slice a1 c.M.length q1) (.slice a2 c.C.length q2)) (h1 : low63 [c.e, c.b, c.k]) (h2 : low63 c.M) (h3 : low63 c.C) :
    Calls Try.prog 16 #[.agg #[.int .i64 c.e, .int .i64 c.b, .int .i64 c.k, .slice a1 c.M.length q1, .slice a2 c.C.length q2]] w fun ev w' => ev = .returned (.string ⟨(putC c).toArray⟩) ∧ Below w.heap.size w w' := by
  have hx := heap_alloc_self w (.cells #[.int .i64 c.e, .int .i64 c.b, .int .i64 c.k, .slice a1 c.M.length q1, .slice a2 c.C.length q2] 24)
  have hb : Below w.heap.size w (w.alloc (.cells #[.int .i64 c.e, .int .i64 c.b, .int .i64 c.k, .slice a1 c.M.length q1, .slice a2 c.C.length q2] 24)) := (Below.refl _ _).alloc (Nat.le_refl _) _
  go_enter Try.func16, Try.ntmps16
  go_upto_region 1 with fail
  generalize w.alloc (.cells #[.int .i64 c.e, .int .i64 c.b, .int .i64 c.k, .slice a1 c.M.length q1, .slice a2 c.C.length q2] 24) = w1 at *
  have d0 := cell_atD hx 0 (v := .int .i64 c.e) rfl
  have d1 := cell_atD hx 1 (v := .int .i64 c.b) rfl
  have d2 := cell_atD hx 2 (v := .int .i64 c.k) rfl
  have d3 := cell_atD hx 3 (v := .slice a1 c.M.length q1) rfl
  have d4 := cell_atD hx 4 (v := .slice a2 c.C.length q2) rfl
  obtain ⟨N, hN⟩ : ∃ N, w1.heap.size = N := ⟨_, rfl⟩
  have hNW : N ≤ w1.heap.size := by omega
  have hlt : w.heap.size < N := by have := lt_heap hx; omega
  have c1 := CFat.below h hb
  have cM := fun w' (h' : N ≤ w'.heap.size ∧ Below N w1 w') => cputCL c.M h2 _ N w' h'.1 (ints_sr (c1.1.below (by rw [hN]; exact h'.2)))
  have cC := fun w' (h' : N ≤ w'.heap.size ∧ Below N w1 w') => cputCL c.C h3 _ N w' h'.1 (ints_sr (c1.2.below (by rw [hN]; exact h'.2)))
  have cH := cputCL [c.e, c.b, c.k] h1 (.slice (some ⟨w1.heap.size, 0, none⟩) 3 3) N (w1.alloc (.cells #[.int .i64 c.e, .int .i64 c.b, .int .i64 c.k] 3)).drew (by simp; omega) ((ints_three w1 c.e c.b c.k).below (below_drew' (Below.refl _ _)))
  have hl1 : ¬ (9223372036854775807 < (listN [c.e, c.b, c.k]).length + (listN c.M).length) := by have := listN_len h1; have := listN_len h2; omega
  have hl2 : ¬ (9223372036854775807 < (listN [c.e, c.b, c.k]).length + (listN c.M).length + (listN c.C).length) := by have := listN_len h1; have := listN_len h2; have := listN_len h3; omega
  have hpc : putC c = listN [c.e, c.b, c.k] ++ listN c.M ++ listN c.C := rfl
  generalize listN [c.e, c.b, c.k] = H at *
  generalize listN c.M = MB at *
  generalize listN c.C = CB at *
  have HPC := Lib.hid hpc
  clear hpc
  have HB := Lib.hid (And.intro hb hN)
  clear hb hN hx c1 h h1 h2 h3
  go_region_held3 (fun w' => N ≤ w'.heap.size ∧ Below N w1 w' ∧ ∀ b o, b < N → w'.cell? ⟨b, o, none⟩ = w1.cell? ⟨b, o, none⟩) (first | with_reducible exact keeps_allocD (by assumption) | with_reducible exact keeps_alloc (by assumption) | with_reducible exact keeps_next (by assumption) (by assumption) | exact keepsV_start hNW) (first | (go_at_call 68; (with_reducible refine Calls.mono cH ?_); rintro ev wz ⟨rfl, hzz⟩) | (go_at_call 68; (with_reducible refine Calls.mono (cM _ ?hk) ?_); (case hk => exact keepsV_two (by assumption)); rintro ev wz ⟨rfl, hzz⟩) | (go_at_call 68; (with_reducible refine Calls.mono (cC _ ?hk) ?_); (case hk => exact keepsV_two (by assumption)); rintro ev wz ⟨rfl, hzz⟩))
  rename_i hfin
  have HF := Lib.hid ((HB.out.1).trans (hfin.2.1.mono (by have := HB.out.1.size; have := HB.out.2; omega)))
  clear hfin
  go_wp2_with fail
  go_ret
  exact ⟨ret_str (by rw [HPC.out, ← str_append, ← str_append]), HF.out⟩
theorem rputCL (l : List Int) (hl : low63 l) (v : Value) (N : Nat) (w : World) (hW : N ≤ w.heap.size) (h : Ints w v l) : Calls Try.prog 71 #[v] w fun e w' => e = .returned (.string ⟨(listN l).toArray⟩) ∧ Stays N w w' := by
  refine (reflist_any v l w h hl.1 hl.2).mono ?_
  rintro ev w' ⟨rfl, hb⟩
  exact ⟨rfl, stays_of hW hb⟩
set_option maxHeartbeats 3200000 in
set_option maxRecDepth 40000 in
theorem rputC (c : CF) (a1 a2 : Option Addr) (q1 q2 : Nat) (w : World) (h : CFat c w (.slice a1 c.M.length q1) (.slice a2 c.C.length q2)) (h1 : low63 [c.e, c.b, c.k]) (h2 : low63 c.M) (h3 : low63 c.C) :
    Calls Try.prog 19 #[.agg #[.int .i64 c.e, .int .i64 c.b, .int .i64 c.k, .slice a1 c.M.length q1, .slice a2 c.C.length q2]] w fun ev w' => ev = .returned (.string ⟨(putC c).toArray⟩) ∧ Below w.heap.size w w' := by
  have hx := heap_alloc_self w (.cells #[.int .i64 c.e, .int .i64 c.b, .int .i64 c.k, .slice a1 c.M.length q1, .slice a2 c.C.length q2] 24)
  have hb : Below w.heap.size w (w.alloc (.cells #[.int .i64 c.e, .int .i64 c.b, .int .i64 c.k, .slice a1 c.M.length q1, .slice a2 c.C.length q2] 24)) := (Below.refl _ _).alloc (Nat.le_refl _) _
  go_enter Try.func19, Try.ntmps19
  go_upto_region 1 with fail
  generalize w.alloc (.cells #[.int .i64 c.e, .int .i64 c.b, .int .i64 c.k, .slice a1 c.M.length q1, .slice a2 c.C.length q2] 24) = w1 at *
  have d0 := cell_atD hx 0 (v := .int .i64 c.e) rfl
  have d1 := cell_atD hx 1 (v := .int .i64 c.b) rfl
  have d2 := cell_atD hx 2 (v := .int .i64 c.k) rfl
  have d3 := cell_atD hx 3 (v := .slice a1 c.M.length q1) rfl
  have d4 := cell_atD hx 4 (v := .slice a2 c.C.length q2) rfl
  obtain ⟨N, hN⟩ : ∃ N, w1.heap.size = N := ⟨_, rfl⟩
  have hNW : N ≤ w1.heap.size := by omega
  have hlt : w.heap.size < N := by have := lt_heap hx; omega
  have c1 := CFat.below h hb
  have cM := fun w' (h' : N ≤ w'.heap.size ∧ Below N w1 w') => rputCL c.M h2 _ N w' h'.1 (ints_sr (c1.1.below (by rw [hN]; exact h'.2)))
  have cC := fun w' (h' : N ≤ w'.heap.size ∧ Below N w1 w') => rputCL c.C h3 _ N w' h'.1 (ints_sr (c1.2.below (by rw [hN]; exact h'.2)))
  have cH := rputCL [c.e, c.b, c.k] h1 (.slice (some ⟨w1.heap.size, 0, none⟩) 3 3) N (w1.alloc (.cells #[.int .i64 c.e, .int .i64 c.b, .int .i64 c.k] 3)).drew (by simp; omega) ((ints_three w1 c.e c.b c.k).below (below_drew' (Below.refl _ _)))
  have hl1 : ¬ (9223372036854775807 < (listN [c.e, c.b, c.k]).length + (listN c.M).length) := by have := listN_len h1; have := listN_len h2; omega
  have hl2 : ¬ (9223372036854775807 < (listN [c.e, c.b, c.k]).length + (listN c.M).length + (listN c.C).length) := by have := listN_len h1; have := listN_len h2; have := listN_len h3; omega
  have hpc : putC c = listN [c.e, c.b, c.k] ++ listN c.M ++ listN c.C := rfl
  generalize listN [c.e, c.b, c.k] = H at *
  generalize listN c.M = MB at *
  generalize listN c.C = CB at *
  have HPC := Lib.hid hpc
  clear hpc
  have HB := Lib.hid (And.intro hb hN)
  clear hb hN hx c1 h h1 h2 h3
  go_region_held3 (fun w' => N ≤ w'.heap.size ∧ Below N w1 w' ∧ ∀ b o, b < N → w'.cell? ⟨b, o, none⟩ = w1.cell? ⟨b, o, none⟩) (first | with_reducible exact keeps_allocD (by assumption) | with_reducible exact keeps_alloc (by assumption) | with_reducible exact keeps_next (by assumption) (by assumption) | exact keepsV_start hNW) (first | (go_at_call 71; (with_reducible refine Calls.mono cH ?_); rintro ev wz ⟨rfl, hzz⟩) | (go_at_call 71; (with_reducible refine Calls.mono (cM _ ?hk) ?_); (case hk => exact keepsV_two (by assumption)); rintro ev wz ⟨rfl, hzz⟩) | (go_at_call 71; (with_reducible refine Calls.mono (cC _ ?hk) ?_); (case hk => exact keepsV_two (by assumption)); rintro ev wz ⟨rfl, hzz⟩))
  rename_i hfin
  have HF := Lib.hid ((HB.out.1).trans (hfin.2.1.mono (by have := HB.out.1.size; have := HB.out.2; omega)))
  clear hfin
  go_wp2_with fail
  go_ret
  exact ⟨ret_str (by rw [HPC.out, ← str_append, ← str_append]), HF.out⟩
end Go.Proofs.Ytbjjfidjggagnaa
