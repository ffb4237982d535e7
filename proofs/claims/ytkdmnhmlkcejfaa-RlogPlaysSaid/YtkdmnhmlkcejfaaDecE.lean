/-
  Whether two configurations are the same: slices.Equal of numbers, conf.Same.
-/
import Derived.Test.YtkdmnhmlkcejfaaDecD
import Derived.Test.YtkdmnhmlkcejfaaShelfE
namespace Go.Proofs.Ytkdmnhmlkcejfaa
open Go.RowKit
set_option linter.unusedVariables false
set_option linter.unusedSimpArgs false

theorem equal_any (u v : Value) (l m : List Int) (w : World) (hu : SR w u 1 l.length (nCells l)) (hv : SR w v 1 m.length (nCells m)) :
    Calls Try.prog 69 #[u, v] w (BoolPost (l == m) w) := by
  obtain ⟨a, p, rfl, h1, h2, h3, h4⟩ := hu
  obtain ⟨a', p', rfl, k1, k2, k3, k4⟩ := hv
  have hl : l.length ≤ 9223372036854775807 := by unfold maxLen at h2; omega
  have hm : m.length ≤ 9223372036854775807 := by unfold maxLen at k2; omega
  by_cases hlen : l.length = m.length
  · rcases h4 with h0 | ⟨b, off, rfl, hb, hc⟩
    · have e1 : l = [] := List.eq_nil_of_length_eq_zero h0
      have e2 : m = [] := List.eq_nil_of_length_eq_zero (by omega)
      subst e1 e2
      refine (Try.slices_Equal_int_empty a a' p 0 p' w hm).mono ?_
      rintro e w' ⟨rfl, rfl⟩
      exact ⟨rfl, 0, rfl⟩
    · rcases k4 with k0 | ⟨b', off', rfl, hb', hc'⟩
      · have e2 : m = [] := List.eq_nil_of_length_eq_zero k0
        have e1 : l = [] := List.eq_nil_of_length_eq_zero (by omega)
        subst e1 e2
        refine (Try.slices_Equal_int_empty _ a' p 0 p' w hm).mono ?_
        rintro e w' ⟨rfl, rfl⟩
        exact ⟨rfl, 0, rfl⟩
      · refine (Try.slices_Equal_int b off l.length p b' off' m.length p' l m w (Nat.le_refl _) (Nat.le_refl _) hl hm (fun j hj => hc j _ (by simp [nCells, hj, List.getD])) (fun j hj => hc' j _ (by simp [nCells, hj, List.getD]))).mono ?_
        rintro e w' ⟨rfl, q, rfl⟩
        rw [List.take_length, List.take_length]
        exact ⟨rfl, q, rfl⟩
  · refine (Try.slices_Equal_int_lens a a' l.length p m.length p' w hlen).mono ?_
    rintro e w' ⟨rfl, rfl⟩
    refine ⟨ret_bool ?_, 0, rfl⟩
    symm
    rw [beq_eq_false_iff_ne]
    intro h
    exact hlen (congrArg List.length h)
def sameC (c d : CF) : Bool := c.e == d.e && (c.b == d.b && (c.k == d.k && (c.M == d.M && c.C == d.C)))
theorem CF.ext' {c d : CF} (h : sameC c d = true) : c = d := by
  obtain ⟨e, b, k, M, C⟩ := c
  obtain ⟨e', b', k', M', C'⟩ := d
  simp [sameC] at h
  simp [h]
theorem sameC_self (c : CF) : sameC c c = true := by simp [sameC]
set_option maxHeartbeats 1600000 in
theorem csameD (c d : CF) (a1 a2 a3 a4 : Option Addr) (q1 q2 q3 q4 : Nat) (w : World) (h : CFat c w (.slice a1 c.M.length q1) (.slice a2 c.C.length q2)) (k : CFat d w (.slice a3 d.M.length q3) (.slice a4 d.C.length q4)) :
    Calls Try.prog 62 #[.agg #[.int .i64 c.e, .int .i64 c.b, .int .i64 c.k, .slice a1 c.M.length q1, .slice a2 c.C.length q2], .agg #[.int .i64 d.e, .int .i64 d.b, .int .i64 d.k, .slice a3 d.M.length q3, .slice a4 d.C.length q4]] w fun ev w' => ev = .returned (.bool (sameC c d)) ∧ Below w.heap.size w w' := by
  obtain ⟨e, b, n, M, C⟩ := c
  obtain ⟨e', b', n', M', C'⟩ := d
  simp only at *
  have hx := alloc_far (o := .cells #[.int .i64 e', .int .i64 b', .int .i64 n', .slice a3 M'.length q3, .slice a4 C'.length q4] 42) (heap_alloc_self w (.cells #[.int .i64 e, .int .i64 b, .int .i64 n, .slice a1 M.length q1, .slice a2 C.length q2] 42))
  have hy := heap_alloc_self (w.alloc (.cells #[.int .i64 e, .int .i64 b, .int .i64 n, .slice a1 M.length q1, .slice a2 C.length q2] 42)) (.cells #[.int .i64 e', .int .i64 b', .int .i64 n', .slice a3 M'.length q3, .slice a4 C'.length q4] 42)
  have hz : (w.alloc (.cells #[.int .i64 e, .int .i64 b, .int .i64 n, .slice a1 M.length q1, .slice a2 C.length q2] 42)).heap.size = w.heap.size + 1 := by simp
  rw [hz] at hy
  have hb : Below w.heap.size w ((w.alloc (.cells #[.int .i64 e, .int .i64 b, .int .i64 n, .slice a1 M.length q1, .slice a2 C.length q2] 42)).alloc (.cells #[.int .i64 e', .int .i64 b', .int .i64 n', .slice a3 M'.length q3, .slice a4 C'.length q4] 42)) := ((Below.refl _ _).alloc (Nat.le_refl _) _).alloc (by simp) _
  go_enter Try.func62, Try.ntmps62
  go_upto_region 1 with fail
  generalize (w.alloc (.cells #[.int .i64 e, .int .i64 b, .int .i64 n, .slice a1 M.length q1, .slice a2 C.length q2] 42)).alloc (.cells #[.int .i64 e', .int .i64 b', .int .i64 n', .slice a3 M'.length q3, .slice a4 C'.length q4] 42) = w1 at *
  have d0 := cell_atD hx 0 (v := .int .i64 e) rfl
  have d1 := cell_atD hx 1 (v := .int .i64 b) rfl
  have d2 := cell_atD hx 2 (v := .int .i64 n) rfl
  have d3 := cell_atD hx 3 (v := .slice a1 M.length q1) rfl
  have d4 := cell_atD hx 4 (v := .slice a2 C.length q2) rfl
  have e0 := cell_atD hy 0 (v := .int .i64 e') rfl
  have e1 := cell_atD hy 1 (v := .int .i64 b') rfl
  have e2 := cell_atD hy 2 (v := .int .i64 n') rfl
  have e3 := cell_atD hy 3 (v := .slice a3 M'.length q3) rfl
  have e4 := cell_atD hy 4 (v := .slice a4 C'.length q4) rfl
  have cM := equal_any _ _ M M' w1 (h.below hb).1 (k.below hb).1
  have cC : ∀ q, Calls Try.prog 69 #[.slice a2 C.length q2, .slice a4 C'.length q4] (w1.drewN q) (BoolPost (C == C') (w1.drewN q)) := fun q => equal_any _ _ C C' _ ((h.below hb).2.same ⟨rfl, rfl, rfl, rfl⟩) ((k.below hb).2.same ⟨rfl, rfl, rfl, rfl⟩)
  have HB := Lib.hid hb
  clear hx hy hz hb h k
  rcases h1 : e == e'
  · go_wp2_with fail
    go_ret
    exact ⟨ret_bool (by simp only [sameC, h1, Bool.false_and]), HB.out⟩
  rcases h2 : b == b'
  · go_wp2_with fail
    go_ret
    exact ⟨ret_bool (by simp only [sameC, h1, h2, Bool.false_and, Bool.true_and]), HB.out⟩
  rcases h3 : n == n'
  · go_wp2_with fail
    go_ret
    exact ⟨ret_bool (by simp only [sameC, h1, h2, h3, Bool.false_and, Bool.true_and]), HB.out⟩
  rcases h4 : M == M'
  · rw [h4] at cM
    go_wp2_with fail
    refine Calls.mono cM ?_
    rintro ev w2 ⟨rfl, q, rfl⟩
    go_wp2_with fail
    go_ret
    exact ⟨ret_bool (by simp only [sameC, h1, h2, h3, h4, Bool.false_and, Bool.true_and]), ⟨HB.out.os, HB.out.tape, HB.out.output, HB.out.size, HB.out.block⟩⟩
  · rw [h4] at cM
    go_wp2_with fail
    refine Calls.mono cM ?_
    rintro ev w2 ⟨rfl, q, rfl⟩
    have cc := cC q
    have d4' : (w1.drewN q).cell? ⟨w.heap.size, 4, none⟩ = some (.slice a2 C.length q2) := d4
    have e4' : (w1.drewN q).cell? ⟨w.heap.size + 1, 4, none⟩ = some (.slice a4 C'.length q4) := e4
    have hb2 : Below w.heap.size w (w1.drewN q) := ⟨HB.out.os, HB.out.tape, HB.out.output, HB.out.size, HB.out.block⟩
    have HB2 := Lib.hid hb2
    clear hb2 cC cM d0 d1 d2 d3 d4 e0 e1 e2 e3 e4 HB
    generalize w1.drewN q = w2 at *
    go_wp2_with fail
    refine Calls.mono cc ?_
    rintro ev w3 ⟨rfl, q', rfl⟩
    go_wp2_with fail
    go_ret
    exact ⟨ret_bool (by simp only [sameC, h1, h2, h3, h4, Bool.true_and]), ⟨HB2.out.os, HB2.out.tape, HB2.out.output, HB2.out.size, HB2.out.block⟩⟩
end Go.Proofs.Ytkdmnhmlkcejfaa
