/-
  Several texts, laid together.
-/
import Derived.Test.YtjaaddjbmimjoaaMh27
/-
  The state behind a command: decide.Do.
-/

namespace Go.Proofs.Ytjaaddjbmimjoaa
open Go.RowKit
set_option linter.unusedVariables false
set_option linter.unusedSimpArgs false

theorem three_blocks (w : World) (a b c : Obj) : (((w.alloc a).alloc b).alloc c).heap[w.heap.size]? = some a ∧ (((w.alloc a).alloc b).alloc c).heap[w.heap.size + 1]? = some b ∧ (((w.alloc a).alloc b).alloc c).heap[w.heap.size + 1 + 1]? = some c ∧ Below w.heap.size w (((w.alloc a).alloc b).alloc c) ∧ (((w.alloc a).alloc b).alloc c).heap.size = w.heap.size + 3 := by
  refine ⟨alloc_far (alloc_far (heap_alloc_self w a)), alloc_far ?_, ?_, (((Below.refl _ _).alloc (Nat.le_refl _) _).alloc (by simp) _).alloc (by simp; omega) _, by simp⟩
  · simpa using heap_alloc_self (w.alloc a) b
  · simpa using heap_alloc_self ((w.alloc a).alloc b) c
theorem do_not (s : DS) (x : Int) (c : CF) (h : mayK x c = false) : doS s x c = s := by simp [doS, h]
theorem do_one (s : DS) (c : CF) (h : mayK 1 c = true) : doS s 1 c = prepS s c := by simp [doS, h]
theorem do_two (s : DS) (c : CF) (h : mayK 2 c = true) (he : s.n.e = c.e) : doS s 2 c = ⟨s.ep, s.s0, s.s1, s.n, s.n⟩ := by simp [doS, h, he]
theorem do_two_not (s : DS) (c : CF) (h : mayK 2 c = true) (he : ¬ s.n.e = c.e) : doS s 2 c = s := by simp [doS, h, he]
theorem do_none (s : DS) (c : CF) : doS s 0 c = s := by simp [doS]
theorem may_kind {x : Int} {c : CF} (h : mayK x c = true) (h1 : ¬ x = 1) (h2 : ¬ x = 2) : x = 0 := by
  by_cases h0 : x = 0
  · exact h0
  · simp [mayK, h0, h1, h2] at h
theorem svb_form {s : DS} {base : Nat} {w : World} {v : Value} (h : SVB s base w v) : ∃ a1 q1 a2 q2 a3 q3 a4 q4, v = .agg #[.int .i64 s.ep, .int .i64 s.a.e, .int .i64 s.a.b, .int .i64 s.a.k, .slice a1 s.a.M.length q1, .slice a2 s.a.C.length q2, .int .i64 s.n.e, .int .i64 s.n.b, .int .i64 s.n.k, .slice a3 s.n.M.length q3, .slice a4 s.n.C.length q4, .int .i64 s.s0, .int .i64 s.s1] ∧ CFO s.a base w (.slice a1 s.a.M.length q1) (.slice a2 s.a.C.length q2) ∧ CFO s.n base w (.slice a3 s.n.M.length q3) (.slice a4 s.n.C.length q4) ∧ short s.a ∧ short s.n := by
  obtain ⟨v1, v2, v3, v4, rfl, h1, h2, h3, h4⟩ := h
  obtain ⟨a1, q1, rfl⟩ := owns_form h1.1
  obtain ⟨a2, q2, rfl⟩ := owns_form h1.2
  obtain ⟨a3, q3, rfl⟩ := owns_form h2.1
  obtain ⟨a4, q4, rfl⟩ := owns_form h2.2
  exact ⟨_, _, _, _, _, _, _, _, rfl, h1, h2, h3, h4⟩
theorem ostate' (s : DS) (a1 a2 a3 a4 : Option Addr) (q1 q2 q3 q4 : Nat) (w : World) (h1 : CFat s.a w (.slice a1 s.a.M.length q1) (.slice a2 s.a.C.length q2)) (h2 : CFat s.n w (.slice a3 s.n.M.length q3) (.slice a4 s.n.C.length q4)) (h3 : short s.a) (h4 : short s.n) :
    Calls Try.prog 87 #[.agg #[.int .i64 s.ep, .int .i64 s.a.e, .int .i64 s.a.b, .int .i64 s.a.k, .slice a1 s.a.M.length q1, .slice a2 s.a.C.length q2, .int .i64 s.n.e, .int .i64 s.n.b, .int .i64 s.n.k, .slice a3 s.n.M.length q3, .slice a4 s.n.C.length q4, .int .i64 s.s0, .int .i64 s.s1]] w fun ev w' => ∃ b1 p1 b2 p2 b3 p3 b4 p4, ev = .returned (.agg #[.int .i64 s.ep, .int .i64 s.a.e, .int .i64 s.a.b, .int .i64 s.a.k, .slice b1 s.a.M.length p1, .slice b2 s.a.C.length p2, .int .i64 s.n.e, .int .i64 s.n.b, .int .i64 s.n.k, .slice b3 s.n.M.length p3, .slice b4 s.n.C.length p4, .int .i64 s.s0, .int .i64 s.s1]) ∧ CFO s.a w.heap.size w' (.slice b1 s.a.M.length p1) (.slice b2 s.a.C.length p2) ∧ CFO s.n w.heap.size w' (.slice b3 s.n.M.length p3) (.slice b4 s.n.C.length p4) ∧ Below w.heap.size w w' := by
  refine (ostate s _ w ⟨_, _, _, _, rfl, h1, h2, h3, h4⟩).mono ?_
  rintro ev w' ⟨v', rfl, hv, hb⟩
  obtain ⟨b1, p1, b2, p2, b3, p3, b4, p4, rfl, r1, r2, -, -⟩ := svb_form hv
  exact ⟨b1, p1, b2, p2, b3, p3, b4, p4, rfl, r1, r2, hb⟩
theorem dprep' (s : DS) (c : CF) (a1 a2 a3 a4 a5 a6 : Option Addr) (q1 q2 q3 q4 q5 q6 : Nat) (w : World) (base : Nat) (hbase : base ≤ w.heap.size) (h1 : CFO s.a base w (.slice a1 s.a.M.length q1) (.slice a2 s.a.C.length q2)) (h2 : CFO s.n base w (.slice a3 s.n.M.length q3) (.slice a4 s.n.C.length q4)) (h3 : short s.a) (h4 : short s.n) (h5 : CFat c w (.slice a5 c.M.length q5) (.slice a6 c.C.length q6)) (h6 : short c) (h0 : 0 ≤ s.ep) (hb : c.b = 5 ∨ c.b = 6) :
    Calls Try.prog 110 #[.agg #[.int .i64 s.ep, .int .i64 s.a.e, .int .i64 s.a.b, .int .i64 s.a.k, .slice a1 s.a.M.length q1, .slice a2 s.a.C.length q2, .int .i64 s.n.e, .int .i64 s.n.b, .int .i64 s.n.k, .slice a3 s.n.M.length q3, .slice a4 s.n.C.length q4, .int .i64 s.s0, .int .i64 s.s1], .agg #[.int .i64 c.e, .int .i64 c.b, .int .i64 c.k, .slice a5 c.M.length q5, .slice a6 c.C.length q6]] w fun ev w' => ∃ b1 p1 b2 p2 b3 p3 b4 p4, ev = .returned (.agg #[.int .i64 (prepS s c).ep, .int .i64 (prepS s c).a.e, .int .i64 (prepS s c).a.b, .int .i64 (prepS s c).a.k, .slice b1 (prepS s c).a.M.length p1, .slice b2 (prepS s c).a.C.length p2, .int .i64 (prepS s c).n.e, .int .i64 (prepS s c).n.b, .int .i64 (prepS s c).n.k, .slice b3 (prepS s c).n.M.length p3, .slice b4 (prepS s c).n.C.length p4, .int .i64 (prepS s c).s0, .int .i64 (prepS s c).s1]) ∧ CFO (prepS s c).a base w' (.slice b1 (prepS s c).a.M.length p1) (.slice b2 (prepS s c).a.C.length p2) ∧ CFO (prepS s c).n base w' (.slice b3 (prepS s c).n.M.length p3) (.slice b4 (prepS s c).n.C.length p4) ∧ short (prepS s c).a ∧ short (prepS s c).n ∧ Below w.heap.size w w' := by
  refine (dprep s c a1 a2 a3 a4 a5 a6 q1 q2 q3 q4 q5 q6 w base hbase h1 h2 h3 h4 h5 h6 h0 hb).mono ?_
  rintro ev w' ⟨v', rfl, hv, hb⟩
  obtain ⟨b1, p1, b2, p2, b3, p3, b4, p4, rfl, r1, r2, r3, r4⟩ := svb_form hv
  exact ⟨b1, p1, b2, p2, b3, p3, b4, p4, rfl, r1, r2, r3, r4, hb⟩
set_option maxHeartbeats 6400000 in
set_option maxRecDepth 40000 in
theorem ddo (s : DS) (x : Int) (c : CF) (a1 a2 a3 a4 a5 a6 : Option Addr) (q1 q2 q3 q4 q5 q6 : Nat) (w : World) (h1 : CFat s.a w (.slice a1 s.a.M.length q1) (.slice a2 s.a.C.length q2)) (h2 : CFat s.n w (.slice a3 s.n.M.length q3) (.slice a4 s.n.C.length q4)) (h3 : short s.a) (h4 : short s.n) (h5 : CFat c w (.slice a5 c.M.length q5) (.slice a6 c.C.length q6)) (h0 : 0 ≤ s.ep) :
    Calls Try.prog 88 #[.agg #[.int .i64 s.ep, .int .i64 s.a.e, .int .i64 s.a.b, .int .i64 s.a.k, .slice a1 s.a.M.length q1, .slice a2 s.a.C.length q2, .int .i64 s.n.e, .int .i64 s.n.b, .int .i64 s.n.k, .slice a3 s.n.M.length q3, .slice a4 s.n.C.length q4, .int .i64 s.s0, .int .i64 s.s1], .agg #[.int .i64 x, .int .i64 c.e, .int .i64 c.b, .int .i64 c.k, .slice a5 c.M.length q5, .slice a6 c.C.length q6]] w fun ev w' => ∃ v', ev = .returned v' ∧ SVB (doS s x c) (w.heap.size + 3) w' v' ∧ Below w.heap.size w w' := by
  obtain ⟨hN, hC, hR, hb, hz⟩ := three_blocks w (.cells #[.int .i64 s.ep, .int .i64 s.a.e, .int .i64 s.a.b, .int .i64 s.a.k, .slice a1 s.a.M.length q1, .slice a2 s.a.C.length q2, .int .i64 s.n.e, .int .i64 s.n.b, .int .i64 s.n.k, .slice a3 s.n.M.length q3, .slice a4 s.n.C.length q4, .int .i64 s.s0, .int .i64 s.s1] 42) (.cells #[.int .i64 x, .int .i64 c.e, .int .i64 c.b, .int .i64 c.k, .slice a5 c.M.length q5, .slice a6 c.C.length q6] 26) (.cells #[.int .i64 0, .int .i64 0, .int .i64 0, .int .i64 0, .slice none 0 0, .slice none 0 0, .int .i64 0, .int .i64 0, .int .i64 0, .slice none 0 0, .slice none 0 0, .int .i64 0, .int .i64 0] 42)
  go_enter Try.func88, Try.ntmps88
  go_upto_region 1 with fail
  generalize ((w.alloc (.cells #[.int .i64 s.ep, .int .i64 s.a.e, .int .i64 s.a.b, .int .i64 s.a.k, .slice a1 s.a.M.length q1, .slice a2 s.a.C.length q2, .int .i64 s.n.e, .int .i64 s.n.b, .int .i64 s.n.k, .slice a3 s.n.M.length q3, .slice a4 s.n.C.length q4, .int .i64 s.s0, .int .i64 s.s1] 42)).alloc (.cells #[.int .i64 x, .int .i64 c.e, .int .i64 c.b, .int .i64 c.k, .slice a5 c.M.length q5, .slice a6 c.C.length q6] 26)).alloc (.cells #[.int .i64 0, .int .i64 0, .int .i64 0, .int .i64 0, .slice none 0 0, .slice none 0 0, .int .i64 0, .int .i64 0, .int .i64 0, .slice none 0 0, .slice none 0 0, .int .i64 0, .int .i64 0] 42) = w1 at *
  have hz := Nat.le_of_eq hz.symm
  have c1 := ostate' s a1 a2 a3 a4 q1 q2 q3 q4 w1 (h1.below hb) (h2.below hb) h3 h4
  have dN0 := cell_atD hN 0 (v := .int .i64 s.ep) rfl
  have dN1 := cell_atD hN 1 (v := .int .i64 s.a.e) rfl
  have dN2 := cell_atD hN 2 (v := .int .i64 s.a.b) rfl
  have dN3 := cell_atD hN 3 (v := .int .i64 s.a.k) rfl
  have dN4 := cell_atD hN 4 (v := .slice a1 s.a.M.length q1) rfl
  have dN5 := cell_atD hN 5 (v := .slice a2 s.a.C.length q2) rfl
  have dN6 := cell_atD hN 6 (v := .int .i64 s.n.e) rfl
  have dN7 := cell_atD hN 7 (v := .int .i64 s.n.b) rfl
  have dN8 := cell_atD hN 8 (v := .int .i64 s.n.k) rfl
  have dN9 := cell_atD hN 9 (v := .slice a3 s.n.M.length q3) rfl
  have dN10 := cell_atD hN 10 (v := .slice a4 s.n.C.length q4) rfl
  have dN11 := cell_atD hN 11 (v := .int .i64 s.s0) rfl
  have dN12 := cell_atD hN 12 (v := .int .i64 s.s1) rfl
  have HX := Lib.hid (And.intro hN (And.intro hC (And.intro hR (And.intro hb (hz)))))
  clear hN hC hR hb hz
  go_wp2_with fail
  refine Calls.mono c1 ?_
  rintro ev w2 ⟨b1, p1, b2, p2, b3, p3, b4, p4, rfl, r1, r2, hb2⟩
  clear c1 dN0 dN1 dN2 dN3 dN4 dN5 dN6 dN7 dN8 dN9 dN10 dN11 dN12
  have hsz := HX.out.2.2.2.2
  have r1 := r1.base hsz
  have r2 := r2.base hsz
  clear hsz
  obtain ⟨hN, hC, hR, hb, hz⟩ := HX.out
  have kN := below_at hb2 (lt_heap hN) hN
  have kC := below_at hb2 (lt_heap hC) hC
  have kR := below_at hb2 (lt_heap hR) hR
  have kz : w.heap.size + 3 ≤ w2.heap.size := by have := hb2.size; omega
  have kb : Below w.heap.size w w2 := hb.trans (hb2.mono (by omega))
  clear HX hN hC hR hb hz
  have hN := kN
  have hC := kC
  have hR := kR
  have hb := kb
  have hz := kz
  clear kN kC kR kb kz
  clear hb2
  have R1 := Lib.hid r1
  have R2 := Lib.hid r2
  clear r1 r2
  have dN0 := cell_atD hN 0 (v := .int .i64 s.ep) rfl
  have dN1 := cell_atD hN 1 (v := .int .i64 s.a.e) rfl
  have dN2 := cell_atD hN 2 (v := .int .i64 s.a.b) rfl
  have dN3 := cell_atD hN 3 (v := .int .i64 s.a.k) rfl
  have dN4 := cell_atD hN 4 (v := .slice a1 s.a.M.length q1) rfl
  have dN5 := cell_atD hN 5 (v := .slice a2 s.a.C.length q2) rfl
  have dN6 := cell_atD hN 6 (v := .int .i64 s.n.e) rfl
  have dN7 := cell_atD hN 7 (v := .int .i64 s.n.b) rfl
  have dN8 := cell_atD hN 8 (v := .int .i64 s.n.k) rfl
  have dN9 := cell_atD hN 9 (v := .slice a3 s.n.M.length q3) rfl
  have dN10 := cell_atD hN 10 (v := .slice a4 s.n.C.length q4) rfl
  have dN11 := cell_atD hN 11 (v := .int .i64 s.s0) rfl
  have dN12 := cell_atD hN 12 (v := .int .i64 s.s1) rfl
  have fz : ∀ j, w2.frozen? ⟨w.heap.size, j, none⟩ = false := fun j => by simp [World.frozen?, hN]
  have g1 : (w2.setCell ⟨w.heap.size, 0, none⟩ (.int .i64 s.ep)).heap[w.heap.size]? = some (.cells #[.int .i64 s.ep, .int .i64 s.a.e, .int .i64 s.a.b, .int .i64 s.a.k, .slice a1 s.a.M.length q1, .slice a2 s.a.C.length q2, .int .i64 s.n.e, .int .i64 s.n.b, .int .i64 s.n.k, .slice a3 s.n.M.length q3, .slice a4 s.n.C.length q4, .int .i64 s.s0, .int .i64 s.s1] 42) := heap_set_self hN 0 _
  have g2 : ((w2.setCell ⟨w.heap.size, 0, none⟩ (.int .i64 s.ep)).setCell ⟨w.heap.size, 1, none⟩ (.int .i64 s.a.e)).heap[w.heap.size]? = some (.cells #[.int .i64 s.ep, .int .i64 s.a.e, .int .i64 s.a.b, .int .i64 s.a.k, .slice a1 s.a.M.length q1, .slice a2 s.a.C.length q2, .int .i64 s.n.e, .int .i64 s.n.b, .int .i64 s.n.k, .slice a3 s.n.M.length q3, .slice a4 s.n.C.length q4, .int .i64 s.s0, .int .i64 s.s1] 42) := heap_set_self g1 1 _
  have g3 : (((w2.setCell ⟨w.heap.size, 0, none⟩ (.int .i64 s.ep)).setCell ⟨w.heap.size, 1, none⟩ (.int .i64 s.a.e)).setCell ⟨w.heap.size, 2, none⟩ (.int .i64 s.a.b)).heap[w.heap.size]? = some (.cells #[.int .i64 s.ep, .int .i64 s.a.e, .int .i64 s.a.b, .int .i64 s.a.k, .slice a1 s.a.M.length q1, .slice a2 s.a.C.length q2, .int .i64 s.n.e, .int .i64 s.n.b, .int .i64 s.n.k, .slice a3 s.n.M.length q3, .slice a4 s.n.C.length q4, .int .i64 s.s0, .int .i64 s.s1] 42) := heap_set_self g2 2 _
  have g4 : ((((w2.setCell ⟨w.heap.size, 0, none⟩ (.int .i64 s.ep)).setCell ⟨w.heap.size, 1, none⟩ (.int .i64 s.a.e)).setCell ⟨w.heap.size, 2, none⟩ (.int .i64 s.a.b)).setCell ⟨w.heap.size, 3, none⟩ (.int .i64 s.a.k)).heap[w.heap.size]? = some (.cells #[.int .i64 s.ep, .int .i64 s.a.e, .int .i64 s.a.b, .int .i64 s.a.k, .slice a1 s.a.M.length q1, .slice a2 s.a.C.length q2, .int .i64 s.n.e, .int .i64 s.n.b, .int .i64 s.n.k, .slice a3 s.n.M.length q3, .slice a4 s.n.C.length q4, .int .i64 s.s0, .int .i64 s.s1] 42) := heap_set_self g3 3 _
  have g5 : (((((w2.setCell ⟨w.heap.size, 0, none⟩ (.int .i64 s.ep)).setCell ⟨w.heap.size, 1, none⟩ (.int .i64 s.a.e)).setCell ⟨w.heap.size, 2, none⟩ (.int .i64 s.a.b)).setCell ⟨w.heap.size, 3, none⟩ (.int .i64 s.a.k)).setCell ⟨w.heap.size, 4, none⟩ (.slice b1 s.a.M.length p1)).heap[w.heap.size]? = some (.cells #[.int .i64 s.ep, .int .i64 s.a.e, .int .i64 s.a.b, .int .i64 s.a.k, .slice b1 s.a.M.length p1, .slice a2 s.a.C.length q2, .int .i64 s.n.e, .int .i64 s.n.b, .int .i64 s.n.k, .slice a3 s.n.M.length q3, .slice a4 s.n.C.length q4, .int .i64 s.s0, .int .i64 s.s1] 42) := heap_set_self g4 4 _
  have g6 : ((((((w2.setCell ⟨w.heap.size, 0, none⟩ (.int .i64 s.ep)).setCell ⟨w.heap.size, 1, none⟩ (.int .i64 s.a.e)).setCell ⟨w.heap.size, 2, none⟩ (.int .i64 s.a.b)).setCell ⟨w.heap.size, 3, none⟩ (.int .i64 s.a.k)).setCell ⟨w.heap.size, 4, none⟩ (.slice b1 s.a.M.length p1)).setCell ⟨w.heap.size, 5, none⟩ (.slice b2 s.a.C.length p2)).heap[w.heap.size]? = some (.cells #[.int .i64 s.ep, .int .i64 s.a.e, .int .i64 s.a.b, .int .i64 s.a.k, .slice b1 s.a.M.length p1, .slice b2 s.a.C.length p2, .int .i64 s.n.e, .int .i64 s.n.b, .int .i64 s.n.k, .slice a3 s.n.M.length q3, .slice a4 s.n.C.length q4, .int .i64 s.s0, .int .i64 s.s1] 42) := heap_set_self g5 5 _
  have g7 : (((((((w2.setCell ⟨w.heap.size, 0, none⟩ (.int .i64 s.ep)).setCell ⟨w.heap.size, 1, none⟩ (.int .i64 s.a.e)).setCell ⟨w.heap.size, 2, none⟩ (.int .i64 s.a.b)).setCell ⟨w.heap.size, 3, none⟩ (.int .i64 s.a.k)).setCell ⟨w.heap.size, 4, none⟩ (.slice b1 s.a.M.length p1)).setCell ⟨w.heap.size, 5, none⟩ (.slice b2 s.a.C.length p2)).setCell ⟨w.heap.size, 6, none⟩ (.int .i64 s.n.e)).heap[w.heap.size]? = some (.cells #[.int .i64 s.ep, .int .i64 s.a.e, .int .i64 s.a.b, .int .i64 s.a.k, .slice b1 s.a.M.length p1, .slice b2 s.a.C.length p2, .int .i64 s.n.e, .int .i64 s.n.b, .int .i64 s.n.k, .slice a3 s.n.M.length q3, .slice a4 s.n.C.length q4, .int .i64 s.s0, .int .i64 s.s1] 42) := heap_set_self g6 6 _
  have g8 : ((((((((w2.setCell ⟨w.heap.size, 0, none⟩ (.int .i64 s.ep)).setCell ⟨w.heap.size, 1, none⟩ (.int .i64 s.a.e)).setCell ⟨w.heap.size, 2, none⟩ (.int .i64 s.a.b)).setCell ⟨w.heap.size, 3, none⟩ (.int .i64 s.a.k)).setCell ⟨w.heap.size, 4, none⟩ (.slice b1 s.a.M.length p1)).setCell ⟨w.heap.size, 5, none⟩ (.slice b2 s.a.C.length p2)).setCell ⟨w.heap.size, 6, none⟩ (.int .i64 s.n.e)).setCell ⟨w.heap.size, 7, none⟩ (.int .i64 s.n.b)).heap[w.heap.size]? = some (.cells #[.int .i64 s.ep, .int .i64 s.a.e, .int .i64 s.a.b, .int .i64 s.a.k, .slice b1 s.a.M.length p1, .slice b2 s.a.C.length p2, .int .i64 s.n.e, .int .i64 s.n.b, .int .i64 s.n.k, .slice a3 s.n.M.length q3, .slice a4 s.n.C.length q4, .int .i64 s.s0, .int .i64 s.s1] 42) := heap_set_self g7 7 _
  have g9 : (((((((((w2.setCell ⟨w.heap.size, 0, none⟩ (.int .i64 s.ep)).setCell ⟨w.heap.size, 1, none⟩ (.int .i64 s.a.e)).setCell ⟨w.heap.size, 2, none⟩ (.int .i64 s.a.b)).setCell ⟨w.heap.size, 3, none⟩ (.int .i64 s.a.k)).setCell ⟨w.heap.size, 4, none⟩ (.slice b1 s.a.M.length p1)).setCell ⟨w.heap.size, 5, none⟩ (.slice b2 s.a.C.length p2)).setCell ⟨w.heap.size, 6, none⟩ (.int .i64 s.n.e)).setCell ⟨w.heap.size, 7, none⟩ (.int .i64 s.n.b)).setCell ⟨w.heap.size, 8, none⟩ (.int .i64 s.n.k)).heap[w.heap.size]? = some (.cells #[.int .i64 s.ep, .int .i64 s.a.e, .int .i64 s.a.b, .int .i64 s.a.k, .slice b1 s.a.M.length p1, .slice b2 s.a.C.length p2, .int .i64 s.n.e, .int .i64 s.n.b, .int .i64 s.n.k, .slice a3 s.n.M.length q3, .slice a4 s.n.C.length q4, .int .i64 s.s0, .int .i64 s.s1] 42) := heap_set_self g8 8 _
  have g10 : ((((((((((w2.setCell ⟨w.heap.size, 0, none⟩ (.int .i64 s.ep)).setCell ⟨w.heap.size, 1, none⟩ (.int .i64 s.a.e)).setCell ⟨w.heap.size, 2, none⟩ (.int .i64 s.a.b)).setCell ⟨w.heap.size, 3, none⟩ (.int .i64 s.a.k)).setCell ⟨w.heap.size, 4, none⟩ (.slice b1 s.a.M.length p1)).setCell ⟨w.heap.size, 5, none⟩ (.slice b2 s.a.C.length p2)).setCell ⟨w.heap.size, 6, none⟩ (.int .i64 s.n.e)).setCell ⟨w.heap.size, 7, none⟩ (.int .i64 s.n.b)).setCell ⟨w.heap.size, 8, none⟩ (.int .i64 s.n.k)).setCell ⟨w.heap.size, 9, none⟩ (.slice b3 s.n.M.length p3)).heap[w.heap.size]? = some (.cells #[.int .i64 s.ep, .int .i64 s.a.e, .int .i64 s.a.b, .int .i64 s.a.k, .slice b1 s.a.M.length p1, .slice b2 s.a.C.length p2, .int .i64 s.n.e, .int .i64 s.n.b, .int .i64 s.n.k, .slice b3 s.n.M.length p3, .slice a4 s.n.C.length q4, .int .i64 s.s0, .int .i64 s.s1] 42) := heap_set_self g9 9 _
  have g11 : (((((((((((w2.setCell ⟨w.heap.size, 0, none⟩ (.int .i64 s.ep)).setCell ⟨w.heap.size, 1, none⟩ (.int .i64 s.a.e)).setCell ⟨w.heap.size, 2, none⟩ (.int .i64 s.a.b)).setCell ⟨w.heap.size, 3, none⟩ (.int .i64 s.a.k)).setCell ⟨w.heap.size, 4, none⟩ (.slice b1 s.a.M.length p1)).setCell ⟨w.heap.size, 5, none⟩ (.slice b2 s.a.C.length p2)).setCell ⟨w.heap.size, 6, none⟩ (.int .i64 s.n.e)).setCell ⟨w.heap.size, 7, none⟩ (.int .i64 s.n.b)).setCell ⟨w.heap.size, 8, none⟩ (.int .i64 s.n.k)).setCell ⟨w.heap.size, 9, none⟩ (.slice b3 s.n.M.length p3)).setCell ⟨w.heap.size, 10, none⟩ (.slice b4 s.n.C.length p4)).heap[w.heap.size]? = some (.cells #[.int .i64 s.ep, .int .i64 s.a.e, .int .i64 s.a.b, .int .i64 s.a.k, .slice b1 s.a.M.length p1, .slice b2 s.a.C.length p2, .int .i64 s.n.e, .int .i64 s.n.b, .int .i64 s.n.k, .slice b3 s.n.M.length p3, .slice b4 s.n.C.length p4, .int .i64 s.s0, .int .i64 s.s1] 42) := heap_set_self g10 10 _
  have g12 : ((((((((((((w2.setCell ⟨w.heap.size, 0, none⟩ (.int .i64 s.ep)).setCell ⟨w.heap.size, 1, none⟩ (.int .i64 s.a.e)).setCell ⟨w.heap.size, 2, none⟩ (.int .i64 s.a.b)).setCell ⟨w.heap.size, 3, none⟩ (.int .i64 s.a.k)).setCell ⟨w.heap.size, 4, none⟩ (.slice b1 s.a.M.length p1)).setCell ⟨w.heap.size, 5, none⟩ (.slice b2 s.a.C.length p2)).setCell ⟨w.heap.size, 6, none⟩ (.int .i64 s.n.e)).setCell ⟨w.heap.size, 7, none⟩ (.int .i64 s.n.b)).setCell ⟨w.heap.size, 8, none⟩ (.int .i64 s.n.k)).setCell ⟨w.heap.size, 9, none⟩ (.slice b3 s.n.M.length p3)).setCell ⟨w.heap.size, 10, none⟩ (.slice b4 s.n.C.length p4)).setCell ⟨w.heap.size, 11, none⟩ (.int .i64 s.s0)).heap[w.heap.size]? = some (.cells #[.int .i64 s.ep, .int .i64 s.a.e, .int .i64 s.a.b, .int .i64 s.a.k, .slice b1 s.a.M.length p1, .slice b2 s.a.C.length p2, .int .i64 s.n.e, .int .i64 s.n.b, .int .i64 s.n.k, .slice b3 s.n.M.length p3, .slice b4 s.n.C.length p4, .int .i64 s.s0, .int .i64 s.s1] 42) := heap_set_self g11 11 _
  have g13 : (((((((((((((w2.setCell ⟨w.heap.size, 0, none⟩ (.int .i64 s.ep)).setCell ⟨w.heap.size, 1, none⟩ (.int .i64 s.a.e)).setCell ⟨w.heap.size, 2, none⟩ (.int .i64 s.a.b)).setCell ⟨w.heap.size, 3, none⟩ (.int .i64 s.a.k)).setCell ⟨w.heap.size, 4, none⟩ (.slice b1 s.a.M.length p1)).setCell ⟨w.heap.size, 5, none⟩ (.slice b2 s.a.C.length p2)).setCell ⟨w.heap.size, 6, none⟩ (.int .i64 s.n.e)).setCell ⟨w.heap.size, 7, none⟩ (.int .i64 s.n.b)).setCell ⟨w.heap.size, 8, none⟩ (.int .i64 s.n.k)).setCell ⟨w.heap.size, 9, none⟩ (.slice b3 s.n.M.length p3)).setCell ⟨w.heap.size, 10, none⟩ (.slice b4 s.n.C.length p4)).setCell ⟨w.heap.size, 11, none⟩ (.int .i64 s.s0)).setCell ⟨w.heap.size, 12, none⟩ (.int .i64 s.s1)).heap[w.heap.size]? = some (.cells #[.int .i64 s.ep, .int .i64 s.a.e, .int .i64 s.a.b, .int .i64 s.a.k, .slice b1 s.a.M.length p1, .slice b2 s.a.C.length p2, .int .i64 s.n.e, .int .i64 s.n.b, .int .i64 s.n.k, .slice b3 s.n.M.length p3, .slice b4 s.n.C.length p4, .int .i64 s.s0, .int .i64 s.s1] 42) := heap_set_self g12 12 _
  have GI := Lib.hid g13
  have GO := Lib.hid (show Only (w.heap.size) w2 (((((((((((((w2.setCell ⟨w.heap.size, 0, none⟩ (.int .i64 s.ep)).setCell ⟨w.heap.size, 1, none⟩ (.int .i64 s.a.e)).setCell ⟨w.heap.size, 2, none⟩ (.int .i64 s.a.b)).setCell ⟨w.heap.size, 3, none⟩ (.int .i64 s.a.k)).setCell ⟨w.heap.size, 4, none⟩ (.slice b1 s.a.M.length p1)).setCell ⟨w.heap.size, 5, none⟩ (.slice b2 s.a.C.length p2)).setCell ⟨w.heap.size, 6, none⟩ (.int .i64 s.n.e)).setCell ⟨w.heap.size, 7, none⟩ (.int .i64 s.n.b)).setCell ⟨w.heap.size, 8, none⟩ (.int .i64 s.n.k)).setCell ⟨w.heap.size, 9, none⟩ (.slice b3 s.n.M.length p3)).setCell ⟨w.heap.size, 10, none⟩ (.slice b4 s.n.C.length p4)).setCell ⟨w.heap.size, 11, none⟩ (.int .i64 s.s0)).setCell ⟨w.heap.size, 12, none⟩ (.int .i64 s.s1)) from ((((((((((((((Only.refl _ _).set 0 _).set 1 _).set 2 _).set 3 _).set 4 _).set 5 _).set 6 _).set 7 _).set 8 _).set 9 _).set 10 _).set 11 _).set 12 _))
  clear g1 g2 g3 g4 g5 g6 g7 g8 g9 g10 g11 g12 g13
  have HX := Lib.hid (And.intro hN (And.intro hC (And.intro hR (And.intro hb (hz)))))
  clear hN hC hR hb hz
  go_upto_region 2 with fail
  generalize (((((((((((((w2.setCell ⟨w.heap.size, 0, none⟩ (.int .i64 s.ep)).setCell ⟨w.heap.size, 1, none⟩ (.int .i64 s.a.e)).setCell ⟨w.heap.size, 2, none⟩ (.int .i64 s.a.b)).setCell ⟨w.heap.size, 3, none⟩ (.int .i64 s.a.k)).setCell ⟨w.heap.size, 4, none⟩ (.slice b1 s.a.M.length p1)).setCell ⟨w.heap.size, 5, none⟩ (.slice b2 s.a.C.length p2)).setCell ⟨w.heap.size, 6, none⟩ (.int .i64 s.n.e)).setCell ⟨w.heap.size, 7, none⟩ (.int .i64 s.n.b)).setCell ⟨w.heap.size, 8, none⟩ (.int .i64 s.n.k)).setCell ⟨w.heap.size, 9, none⟩ (.slice b3 s.n.M.length p3)).setCell ⟨w.heap.size, 10, none⟩ (.slice b4 s.n.C.length p4)).setCell ⟨w.heap.size, 11, none⟩ (.int .i64 s.s0)).setCell ⟨w.heap.size, 12, none⟩ (.int .i64 s.s1)) = w3 at *
  clear fz dN0 dN1 dN2 dN3 dN4 dN5 dN6 dN7 dN8 dN9 dN10 dN11 dN12
  obtain ⟨hN, hC, hR, hb, hz⟩ := HX.out
  have kN := GI.out
  have kC : w3.heap[w.heap.size + 1]? = some _ := (GO.out.block _ (lt_heap hC) (by omega)).trans hC
  have kR : w3.heap[w.heap.size + 1 + 1]? = some _ := (GO.out.block _ (lt_heap hR) (by omega)).trans hR
  have kb : Below w.heap.size w w3 := hb.trans (GO.out.below (B := w.heap.size) (by omega) (by omega))
  have kz : w.heap.size + 3 ≤ w3.heap.size := by have := GO.out.size; omega
  have GOa := GO.out
  clear HX GI GO hN hC hR hb hz
  have hN := kN
  have hC := kC
  have hR := kR
  have hb := kb
  have hz := kz
  clear kN kC kR kb kz
  have r1 := R1.out.only GOa (by omega)
  have r2 := R2.out.only GOa (by omega)
  clear R1 R2 GOa
  have R1 := Lib.hid r1
  have R2 := Lib.hid r2
  clear r1 r2
  have c1 := dmay x c a5 a6 q5 q6 w3 (h5.below hb)
  have dC0 := cell_atD hC 0 (v := .int .i64 x) rfl
  have dC1 := cell_atD hC 1 (v := .int .i64 c.e) rfl
  have dC2 := cell_atD hC 2 (v := .int .i64 c.b) rfl
  have dC3 := cell_atD hC 3 (v := .int .i64 c.k) rfl
  have dC4 := cell_atD hC 4 (v := .slice a5 c.M.length q5) rfl
  have dC5 := cell_atD hC 5 (v := .slice a6 c.C.length q6) rfl
  have HX := Lib.hid (And.intro hN (And.intro hC (And.intro hR (And.intro hb (hz)))))
  clear hN hC hR hb hz
  rcases gm : mayK x c
  · have hd := do_not s x c gm
    rw [gm] at c1
    go_wp2_with fail
    refine Calls.mono c1 ?_
    rintro ev w4 ⟨rfl, hb4⟩
    clear c1 dC0 dC1 dC2 dC3 dC4 dC5
    obtain ⟨hN, hC, hR, hb, hz⟩ := HX.out
    have kN := below_at hb4 (lt_heap hN) hN
    have kC := below_at hb4 (lt_heap hC) hC
    have kR := below_at hb4 (lt_heap hR) hR
    have kz : w.heap.size + 3 ≤ w4.heap.size := by have := hb4.size; omega
    have kb : Below w.heap.size w w4 := hb.trans (hb4.mono (by omega))
    clear HX hN hC hR hb hz
    have hN := kN
    have hC := kC
    have hR := kR
    have hb := kb
    have hz := kz
    clear kN kC kR kb kz
    have r1 := R1.out.below hb4
    have r2 := R2.out.below hb4
    clear R1 R2 hb4
    have R1 := Lib.hid r1
    have R2 := Lib.hid r2
    clear r1 r2
    go_upto_region 3 with fail
    have dN0 := cell_atD hN 0 (v := .int .i64 s.ep) rfl
    have dN1 := cell_atD hN 1 (v := .int .i64 s.a.e) rfl
    have dN2 := cell_atD hN 2 (v := .int .i64 s.a.b) rfl
    have dN3 := cell_atD hN 3 (v := .int .i64 s.a.k) rfl
    have dN4 := cell_atD hN 4 (v := .slice b1 s.a.M.length p1) rfl
    have dN5 := cell_atD hN 5 (v := .slice b2 s.a.C.length p2) rfl
    have dN6 := cell_atD hN 6 (v := .int .i64 s.n.e) rfl
    have dN7 := cell_atD hN 7 (v := .int .i64 s.n.b) rfl
    have dN8 := cell_atD hN 8 (v := .int .i64 s.n.k) rfl
    have dN9 := cell_atD hN 9 (v := .slice b3 s.n.M.length p3) rfl
    have dN10 := cell_atD hN 10 (v := .slice b4 s.n.C.length p4) rfl
    have dN11 := cell_atD hN 11 (v := .int .i64 s.s0) rfl
    have dN12 := cell_atD hN 12 (v := .int .i64 s.s1) rfl
    have dR0 := cell_atD hR 0 (v := .int .i64 0) rfl
    have dR1 := cell_atD hR 1 (v := .int .i64 0) rfl
    have dR2 := cell_atD hR 2 (v := .int .i64 0) rfl
    have dR3 := cell_atD hR 3 (v := .int .i64 0) rfl
    have dR4 := cell_atD hR 4 (v := .slice none 0 0) rfl
    have dR5 := cell_atD hR 5 (v := .slice none 0 0) rfl
    have dR6 := cell_atD hR 6 (v := .int .i64 0) rfl
    have dR7 := cell_atD hR 7 (v := .int .i64 0) rfl
    have dR8 := cell_atD hR 8 (v := .int .i64 0) rfl
    have dR9 := cell_atD hR 9 (v := .slice none 0 0) rfl
    have dR10 := cell_atD hR 10 (v := .slice none 0 0) rfl
    have dR11 := cell_atD hR 11 (v := .int .i64 0) rfl
    have dR12 := cell_atD hR 12 (v := .int .i64 0) rfl
    have fz : ∀ j, w4.frozen? ⟨w.heap.size + 1 + 1, j, none⟩ = false := fun j => by simp [World.frozen?, hR]
    have g1 : (w4.setCell ⟨w.heap.size + 1 + 1, 0, none⟩ (.int .i64 s.ep)).heap[w.heap.size + 1 + 1]? = some (.cells #[.int .i64 s.ep, .int .i64 0, .int .i64 0, .int .i64 0, .slice none 0 0, .slice none 0 0, .int .i64 0, .int .i64 0, .int .i64 0, .slice none 0 0, .slice none 0 0, .int .i64 0, .int .i64 0] 42) := heap_set_self hR 0 _
    have g2 : ((w4.setCell ⟨w.heap.size + 1 + 1, 0, none⟩ (.int .i64 s.ep)).setCell ⟨w.heap.size + 1 + 1, 1, none⟩ (.int .i64 s.a.e)).heap[w.heap.size + 1 + 1]? = some (.cells #[.int .i64 s.ep, .int .i64 s.a.e, .int .i64 0, .int .i64 0, .slice none 0 0, .slice none 0 0, .int .i64 0, .int .i64 0, .int .i64 0, .slice none 0 0, .slice none 0 0, .int .i64 0, .int .i64 0] 42) := heap_set_self g1 1 _
    have g3 : (((w4.setCell ⟨w.heap.size + 1 + 1, 0, none⟩ (.int .i64 s.ep)).setCell ⟨w.heap.size + 1 + 1, 1, none⟩ (.int .i64 s.a.e)).setCell ⟨w.heap.size + 1 + 1, 2, none⟩ (.int .i64 s.a.b)).heap[w.heap.size + 1 + 1]? = some (.cells #[.int .i64 s.ep, .int .i64 s.a.e, .int .i64 s.a.b, .int .i64 0, .slice none 0 0, .slice none 0 0, .int .i64 0, .int .i64 0, .int .i64 0, .slice none 0 0, .slice none 0 0, .int .i64 0, .int .i64 0] 42) := heap_set_self g2 2 _
    have g4 : ((((w4.setCell ⟨w.heap.size + 1 + 1, 0, none⟩ (.int .i64 s.ep)).setCell ⟨w.heap.size + 1 + 1, 1, none⟩ (.int .i64 s.a.e)).setCell ⟨w.heap.size + 1 + 1, 2, none⟩ (.int .i64 s.a.b)).setCell ⟨w.heap.size + 1 + 1, 3, none⟩ (.int .i64 s.a.k)).heap[w.heap.size + 1 + 1]? = some (.cells #[.int .i64 s.ep, .int .i64 s.a.e, .int .i64 s.a.b, .int .i64 s.a.k, .slice none 0 0, .slice none 0 0, .int .i64 0, .int .i64 0, .int .i64 0, .slice none 0 0, .slice none 0 0, .int .i64 0, .int .i64 0] 42) := heap_set_self g3 3 _
    have g5 : (((((w4.setCell ⟨w.heap.size + 1 + 1, 0, none⟩ (.int .i64 s.ep)).setCell ⟨w.heap.size + 1 + 1, 1, none⟩ (.int .i64 s.a.e)).setCell ⟨w.heap.size + 1 + 1, 2, none⟩ (.int .i64 s.a.b)).setCell ⟨w.heap.size + 1 + 1, 3, none⟩ (.int .i64 s.a.k)).setCell ⟨w.heap.size + 1 + 1, 4, none⟩ (.slice b1 s.a.M.length p1)).heap[w.heap.size + 1 + 1]? = some (.cells #[.int .i64 s.ep, .int .i64 s.a.e, .int .i64 s.a.b, .int .i64 s.a.k, .slice b1 s.a.M.length p1, .slice none 0 0, .int .i64 0, .int .i64 0, .int .i64 0, .slice none 0 0, .slice none 0 0, .int .i64 0, .int .i64 0] 42) := heap_set_self g4 4 _
    have g6 : ((((((w4.setCell ⟨w.heap.size + 1 + 1, 0, none⟩ (.int .i64 s.ep)).setCell ⟨w.heap.size + 1 + 1, 1, none⟩ (.int .i64 s.a.e)).setCell ⟨w.heap.size + 1 + 1, 2, none⟩ (.int .i64 s.a.b)).setCell ⟨w.heap.size + 1 + 1, 3, none⟩ (.int .i64 s.a.k)).setCell ⟨w.heap.size + 1 + 1, 4, none⟩ (.slice b1 s.a.M.length p1)).setCell ⟨w.heap.size + 1 + 1, 5, none⟩ (.slice b2 s.a.C.length p2)).heap[w.heap.size + 1 + 1]? = some (.cells #[.int .i64 s.ep, .int .i64 s.a.e, .int .i64 s.a.b, .int .i64 s.a.k, .slice b1 s.a.M.length p1, .slice b2 s.a.C.length p2, .int .i64 0, .int .i64 0, .int .i64 0, .slice none 0 0, .slice none 0 0, .int .i64 0, .int .i64 0] 42) := heap_set_self g5 5 _
    have g7 : (((((((w4.setCell ⟨w.heap.size + 1 + 1, 0, none⟩ (.int .i64 s.ep)).setCell ⟨w.heap.size + 1 + 1, 1, none⟩ (.int .i64 s.a.e)).setCell ⟨w.heap.size + 1 + 1, 2, none⟩ (.int .i64 s.a.b)).setCell ⟨w.heap.size + 1 + 1, 3, none⟩ (.int .i64 s.a.k)).setCell ⟨w.heap.size + 1 + 1, 4, none⟩ (.slice b1 s.a.M.length p1)).setCell ⟨w.heap.size + 1 + 1, 5, none⟩ (.slice b2 s.a.C.length p2)).setCell ⟨w.heap.size + 1 + 1, 6, none⟩ (.int .i64 s.n.e)).heap[w.heap.size + 1 + 1]? = some (.cells #[.int .i64 s.ep, .int .i64 s.a.e, .int .i64 s.a.b, .int .i64 s.a.k, .slice b1 s.a.M.length p1, .slice b2 s.a.C.length p2, .int .i64 s.n.e, .int .i64 0, .int .i64 0, .slice none 0 0, .slice none 0 0, .int .i64 0, .int .i64 0] 42) := heap_set_self g6 6 _
    have g8 : ((((((((w4.setCell ⟨w.heap.size + 1 + 1, 0, none⟩ (.int .i64 s.ep)).setCell ⟨w.heap.size + 1 + 1, 1, none⟩ (.int .i64 s.a.e)).setCell ⟨w.heap.size + 1 + 1, 2, none⟩ (.int .i64 s.a.b)).setCell ⟨w.heap.size + 1 + 1, 3, none⟩ (.int .i64 s.a.k)).setCell ⟨w.heap.size + 1 + 1, 4, none⟩ (.slice b1 s.a.M.length p1)).setCell ⟨w.heap.size + 1 + 1, 5, none⟩ (.slice b2 s.a.C.length p2)).setCell ⟨w.heap.size + 1 + 1, 6, none⟩ (.int .i64 s.n.e)).setCell ⟨w.heap.size + 1 + 1, 7, none⟩ (.int .i64 s.n.b)).heap[w.heap.size + 1 + 1]? = some (.cells #[.int .i64 s.ep, .int .i64 s.a.e, .int .i64 s.a.b, .int .i64 s.a.k, .slice b1 s.a.M.length p1, .slice b2 s.a.C.length p2, .int .i64 s.n.e, .int .i64 s.n.b, .int .i64 0, .slice none 0 0, .slice none 0 0, .int .i64 0, .int .i64 0] 42) := heap_set_self g7 7 _
    have g9 : (((((((((w4.setCell ⟨w.heap.size + 1 + 1, 0, none⟩ (.int .i64 s.ep)).setCell ⟨w.heap.size + 1 + 1, 1, none⟩ (.int .i64 s.a.e)).setCell ⟨w.heap.size + 1 + 1, 2, none⟩ (.int .i64 s.a.b)).setCell ⟨w.heap.size + 1 + 1, 3, none⟩ (.int .i64 s.a.k)).setCell ⟨w.heap.size + 1 + 1, 4, none⟩ (.slice b1 s.a.M.length p1)).setCell ⟨w.heap.size + 1 + 1, 5, none⟩ (.slice b2 s.a.C.length p2)).setCell ⟨w.heap.size + 1 + 1, 6, none⟩ (.int .i64 s.n.e)).setCell ⟨w.heap.size + 1 + 1, 7, none⟩ (.int .i64 s.n.b)).setCell ⟨w.heap.size + 1 + 1, 8, none⟩ (.int .i64 s.n.k)).heap[w.heap.size + 1 + 1]? = some (.cells #[.int .i64 s.ep, .int .i64 s.a.e, .int .i64 s.a.b, .int .i64 s.a.k, .slice b1 s.a.M.length p1, .slice b2 s.a.C.length p2, .int .i64 s.n.e, .int .i64 s.n.b, .int .i64 s.n.k, .slice none 0 0, .slice none 0 0, .int .i64 0, .int .i64 0] 42) := heap_set_self g8 8 _
    have g10 : ((((((((((w4.setCell ⟨w.heap.size + 1 + 1, 0, none⟩ (.int .i64 s.ep)).setCell ⟨w.heap.size + 1 + 1, 1, none⟩ (.int .i64 s.a.e)).setCell ⟨w.heap.size + 1 + 1, 2, none⟩ (.int .i64 s.a.b)).setCell ⟨w.heap.size + 1 + 1, 3, none⟩ (.int .i64 s.a.k)).setCell ⟨w.heap.size + 1 + 1, 4, none⟩ (.slice b1 s.a.M.length p1)).setCell ⟨w.heap.size + 1 + 1, 5, none⟩ (.slice b2 s.a.C.length p2)).setCell ⟨w.heap.size + 1 + 1, 6, none⟩ (.int .i64 s.n.e)).setCell ⟨w.heap.size + 1 + 1, 7, none⟩ (.int .i64 s.n.b)).setCell ⟨w.heap.size + 1 + 1, 8, none⟩ (.int .i64 s.n.k)).setCell ⟨w.heap.size + 1 + 1, 9, none⟩ (.slice b3 s.n.M.length p3)).heap[w.heap.size + 1 + 1]? = some (.cells #[.int .i64 s.ep, .int .i64 s.a.e, .int .i64 s.a.b, .int .i64 s.a.k, .slice b1 s.a.M.length p1, .slice b2 s.a.C.length p2, .int .i64 s.n.e, .int .i64 s.n.b, .int .i64 s.n.k, .slice b3 s.n.M.length p3, .slice none 0 0, .int .i64 0, .int .i64 0] 42) := heap_set_self g9 9 _
    have g11 : (((((((((((w4.setCell ⟨w.heap.size + 1 + 1, 0, none⟩ (.int .i64 s.ep)).setCell ⟨w.heap.size + 1 + 1, 1, none⟩ (.int .i64 s.a.e)).setCell ⟨w.heap.size + 1 + 1, 2, none⟩ (.int .i64 s.a.b)).setCell ⟨w.heap.size + 1 + 1, 3, none⟩ (.int .i64 s.a.k)).setCell ⟨w.heap.size + 1 + 1, 4, none⟩ (.slice b1 s.a.M.length p1)).setCell ⟨w.heap.size + 1 + 1, 5, none⟩ (.slice b2 s.a.C.length p2)).setCell ⟨w.heap.size + 1 + 1, 6, none⟩ (.int .i64 s.n.e)).setCell ⟨w.heap.size + 1 + 1, 7, none⟩ (.int .i64 s.n.b)).setCell ⟨w.heap.size + 1 + 1, 8, none⟩ (.int .i64 s.n.k)).setCell ⟨w.heap.size + 1 + 1, 9, none⟩ (.slice b3 s.n.M.length p3)).setCell ⟨w.heap.size + 1 + 1, 10, none⟩ (.slice b4 s.n.C.length p4)).heap[w.heap.size + 1 + 1]? = some (.cells #[.int .i64 s.ep, .int .i64 s.a.e, .int .i64 s.a.b, .int .i64 s.a.k, .slice b1 s.a.M.length p1, .slice b2 s.a.C.length p2, .int .i64 s.n.e, .int .i64 s.n.b, .int .i64 s.n.k, .slice b3 s.n.M.length p3, .slice b4 s.n.C.length p4, .int .i64 0, .int .i64 0] 42) := heap_set_self g10 10 _
    have g12 : ((((((((((((w4.setCell ⟨w.heap.size + 1 + 1, 0, none⟩ (.int .i64 s.ep)).setCell ⟨w.heap.size + 1 + 1, 1, none⟩ (.int .i64 s.a.e)).setCell ⟨w.heap.size + 1 + 1, 2, none⟩ (.int .i64 s.a.b)).setCell ⟨w.heap.size + 1 + 1, 3, none⟩ (.int .i64 s.a.k)).setCell ⟨w.heap.size + 1 + 1, 4, none⟩ (.slice b1 s.a.M.length p1)).setCell ⟨w.heap.size + 1 + 1, 5, none⟩ (.slice b2 s.a.C.length p2)).setCell ⟨w.heap.size + 1 + 1, 6, none⟩ (.int .i64 s.n.e)).setCell ⟨w.heap.size + 1 + 1, 7, none⟩ (.int .i64 s.n.b)).setCell ⟨w.heap.size + 1 + 1, 8, none⟩ (.int .i64 s.n.k)).setCell ⟨w.heap.size + 1 + 1, 9, none⟩ (.slice b3 s.n.M.length p3)).setCell ⟨w.heap.size + 1 + 1, 10, none⟩ (.slice b4 s.n.C.length p4)).setCell ⟨w.heap.size + 1 + 1, 11, none⟩ (.int .i64 s.s0)).heap[w.heap.size + 1 + 1]? = some (.cells #[.int .i64 s.ep, .int .i64 s.a.e, .int .i64 s.a.b, .int .i64 s.a.k, .slice b1 s.a.M.length p1, .slice b2 s.a.C.length p2, .int .i64 s.n.e, .int .i64 s.n.b, .int .i64 s.n.k, .slice b3 s.n.M.length p3, .slice b4 s.n.C.length p4, .int .i64 s.s0, .int .i64 0] 42) := heap_set_self g11 11 _
    have g13 : (((((((((((((w4.setCell ⟨w.heap.size + 1 + 1, 0, none⟩ (.int .i64 s.ep)).setCell ⟨w.heap.size + 1 + 1, 1, none⟩ (.int .i64 s.a.e)).setCell ⟨w.heap.size + 1 + 1, 2, none⟩ (.int .i64 s.a.b)).setCell ⟨w.heap.size + 1 + 1, 3, none⟩ (.int .i64 s.a.k)).setCell ⟨w.heap.size + 1 + 1, 4, none⟩ (.slice b1 s.a.M.length p1)).setCell ⟨w.heap.size + 1 + 1, 5, none⟩ (.slice b2 s.a.C.length p2)).setCell ⟨w.heap.size + 1 + 1, 6, none⟩ (.int .i64 s.n.e)).setCell ⟨w.heap.size + 1 + 1, 7, none⟩ (.int .i64 s.n.b)).setCell ⟨w.heap.size + 1 + 1, 8, none⟩ (.int .i64 s.n.k)).setCell ⟨w.heap.size + 1 + 1, 9, none⟩ (.slice b3 s.n.M.length p3)).setCell ⟨w.heap.size + 1 + 1, 10, none⟩ (.slice b4 s.n.C.length p4)).setCell ⟨w.heap.size + 1 + 1, 11, none⟩ (.int .i64 s.s0)).setCell ⟨w.heap.size + 1 + 1, 12, none⟩ (.int .i64 s.s1)).heap[w.heap.size + 1 + 1]? = some (.cells #[.int .i64 s.ep, .int .i64 s.a.e, .int .i64 s.a.b, .int .i64 s.a.k, .slice b1 s.a.M.length p1, .slice b2 s.a.C.length p2, .int .i64 s.n.e, .int .i64 s.n.b, .int .i64 s.n.k, .slice b3 s.n.M.length p3, .slice b4 s.n.C.length p4, .int .i64 s.s0, .int .i64 s.s1] 42) := heap_set_self g12 12 _
    have GI := Lib.hid g13
    have GO := Lib.hid (show Only (w.heap.size + 1 + 1) w4 (((((((((((((w4.setCell ⟨w.heap.size + 1 + 1, 0, none⟩ (.int .i64 s.ep)).setCell ⟨w.heap.size + 1 + 1, 1, none⟩ (.int .i64 s.a.e)).setCell ⟨w.heap.size + 1 + 1, 2, none⟩ (.int .i64 s.a.b)).setCell ⟨w.heap.size + 1 + 1, 3, none⟩ (.int .i64 s.a.k)).setCell ⟨w.heap.size + 1 + 1, 4, none⟩ (.slice b1 s.a.M.length p1)).setCell ⟨w.heap.size + 1 + 1, 5, none⟩ (.slice b2 s.a.C.length p2)).setCell ⟨w.heap.size + 1 + 1, 6, none⟩ (.int .i64 s.n.e)).setCell ⟨w.heap.size + 1 + 1, 7, none⟩ (.int .i64 s.n.b)).setCell ⟨w.heap.size + 1 + 1, 8, none⟩ (.int .i64 s.n.k)).setCell ⟨w.heap.size + 1 + 1, 9, none⟩ (.slice b3 s.n.M.length p3)).setCell ⟨w.heap.size + 1 + 1, 10, none⟩ (.slice b4 s.n.C.length p4)).setCell ⟨w.heap.size + 1 + 1, 11, none⟩ (.int .i64 s.s0)).setCell ⟨w.heap.size + 1 + 1, 12, none⟩ (.int .i64 s.s1)) from ((((((((((((((Only.refl _ _).set 0 _).set 1 _).set 2 _).set 3 _).set 4 _).set 5 _).set 6 _).set 7 _).set 8 _).set 9 _).set 10 _).set 11 _).set 12 _))
    clear g1 g2 g3 g4 g5 g6 g7 g8 g9 g10 g11 g12 g13
    have HB := Lib.hid hb
    have HZ := Lib.hid hz
    clear hN hC hR hb hz
    go_wp2_with fail
    generalize (((((((((((((w4.setCell ⟨w.heap.size + 1 + 1, 0, none⟩ (.int .i64 s.ep)).setCell ⟨w.heap.size + 1 + 1, 1, none⟩ (.int .i64 s.a.e)).setCell ⟨w.heap.size + 1 + 1, 2, none⟩ (.int .i64 s.a.b)).setCell ⟨w.heap.size + 1 + 1, 3, none⟩ (.int .i64 s.a.k)).setCell ⟨w.heap.size + 1 + 1, 4, none⟩ (.slice b1 s.a.M.length p1)).setCell ⟨w.heap.size + 1 + 1, 5, none⟩ (.slice b2 s.a.C.length p2)).setCell ⟨w.heap.size + 1 + 1, 6, none⟩ (.int .i64 s.n.e)).setCell ⟨w.heap.size + 1 + 1, 7, none⟩ (.int .i64 s.n.b)).setCell ⟨w.heap.size + 1 + 1, 8, none⟩ (.int .i64 s.n.k)).setCell ⟨w.heap.size + 1 + 1, 9, none⟩ (.slice b3 s.n.M.length p3)).setCell ⟨w.heap.size + 1 + 1, 10, none⟩ (.slice b4 s.n.C.length p4)).setCell ⟨w.heap.size + 1 + 1, 11, none⟩ (.int .i64 s.s0)).setCell ⟨w.heap.size + 1 + 1, 12, none⟩ (.int .i64 s.s1)) = wf at *
    have fi := GI.out
    have s0 := cell_atD fi 0 (v := .int .i64 s.ep) rfl
    have s1 := cell_atD fi 1 (v := .int .i64 s.a.e) rfl
    have s2 := cell_atD fi 2 (v := .int .i64 s.a.b) rfl
    have s3 := cell_atD fi 3 (v := .int .i64 s.a.k) rfl
    have s4 := cell_atD fi 4 (v := .slice b1 s.a.M.length p1) rfl
    have s5 := cell_atD fi 5 (v := .slice b2 s.a.C.length p2) rfl
    have s6 := cell_atD fi 6 (v := .int .i64 s.n.e) rfl
    have s7 := cell_atD fi 7 (v := .int .i64 s.n.b) rfl
    have s8 := cell_atD fi 8 (v := .int .i64 s.n.k) rfl
    have s9 := cell_atD fi 9 (v := .slice b3 s.n.M.length p3) rfl
    have s10 := cell_atD fi 10 (v := .slice b4 s.n.C.length p4) rfl
    have s11 := cell_atD fi 11 (v := .int .i64 s.s0) rfl
    have s12 := cell_atD fi 12 (v := .int .i64 s.s1) rfl
    clear fi
    refine bodyPost_ret (v := .agg #[.int .i64 s.ep, .int .i64 s.a.e, .int .i64 s.a.b, .int .i64 s.a.k, .slice b1 s.a.M.length p1, .slice b2 s.a.C.length p2, .int .i64 s.n.e, .int .i64 s.n.b, .int .i64 s.n.k, .slice b3 s.n.M.length p3, .slice b4 s.n.C.length p4, .int .i64 s.s0, .int .i64 s.s1]) (by simp [results, Try.results88, go_sem, s0, s1, s2, s3, s4, s5, s6, s7, s8, s9, s10, s11, s12]) rfl ?_
    have hz := HZ.out
    have hf : Below w.heap.size w wf := HB.out.trans (GO.out.below (B := w.heap.size) (by omega) (by omega))
    rw [hd]
    skip
    exact ⟨_, rfl, ⟨_, _, _, _, rfl, R1.out.only GO.out (by omega), R2.out.only GO.out (by omega), h3, h4⟩, hf⟩
  rw [gm] at c1
  go_wp2_with fail
  refine Calls.mono c1 ?_
  rintro ev w4 ⟨rfl, hb4⟩
  clear c1 dC0 dC1 dC2 dC3 dC4 dC5
  obtain ⟨hN, hC, hR, hb, hz⟩ := HX.out
  have kN := below_at hb4 (lt_heap hN) hN
  have kC := below_at hb4 (lt_heap hC) hC
  have kR := below_at hb4 (lt_heap hR) hR
  have kz : w.heap.size + 3 ≤ w4.heap.size := by have := hb4.size; omega
  have kb : Below w.heap.size w w4 := hb.trans (hb4.mono (by omega))
  clear HX hN hC hR hb hz
  have hN := kN
  have hC := kC
  have hR := kR
  have hb := kb
  have hz := kz
  clear kN kC kR kb kz
  have r1 := R1.out.below hb4
  have r2 := R2.out.below hb4
  clear R1 R2 hb4
  have R1 := Lib.hid r1
  have R2 := Lib.hid r2
  clear r1 r2
  have HX := Lib.hid (And.intro hN (And.intro hC (And.intro hR (And.intro hb (hz)))))
  clear hN hC hR hb hz
  by_cases x1 : x = 1
  · subst x1
    obtain ⟨hw1, hw2, -, -⟩ := may_wish gm
    have hd := do_one s c gm
    clear gm
    obtain ⟨hN, hC, hR, hb, hz⟩ := HX.out
    clear HX
    have dC0 := cell_atD hC 0 (v := .int .i64 1) rfl
    have dC1 := cell_atD hC 1 (v := .int .i64 c.e) rfl
    have dC2 := cell_atD hC 2 (v := .int .i64 c.b) rfl
    have dC3 := cell_atD hC 3 (v := .int .i64 c.k) rfl
    have dC4 := cell_atD hC 4 (v := .slice a5 c.M.length q5) rfl
    have dC5 := cell_atD hC 5 (v := .slice a6 c.C.length q6) rfl
    have dN0 := cell_atD hN 0 (v := .int .i64 s.ep) rfl
    have dN1 := cell_atD hN 1 (v := .int .i64 s.a.e) rfl
    have dN2 := cell_atD hN 2 (v := .int .i64 s.a.b) rfl
    have dN3 := cell_atD hN 3 (v := .int .i64 s.a.k) rfl
    have dN4 := cell_atD hN 4 (v := .slice b1 s.a.M.length p1) rfl
    have dN5 := cell_atD hN 5 (v := .slice b2 s.a.C.length p2) rfl
    have dN6 := cell_atD hN 6 (v := .int .i64 s.n.e) rfl
    have dN7 := cell_atD hN 7 (v := .int .i64 s.n.b) rfl
    have dN8 := cell_atD hN 8 (v := .int .i64 s.n.k) rfl
    have dN9 := cell_atD hN 9 (v := .slice b3 s.n.M.length p3) rfl
    have dN10 := cell_atD hN 10 (v := .slice b4 s.n.C.length p4) rfl
    have dN11 := cell_atD hN 11 (v := .int .i64 s.s0) rfl
    have dN12 := cell_atD hN 12 (v := .int .i64 s.s1) rfl
    have HX := Lib.hid (And.intro hN (And.intro hC (And.intro hR (And.intro hb (hz)))))
    clear hN hC hR hb hz
    have c2 := dprep' s c b1 b2 b3 b4 a5 a6 p1 p2 p3 p4 q5 q6 w4 (w.heap.size + 3) HX.out.2.2.2.2 R1.out R2.out h3 h4 (h5.below HX.out.2.2.2.1) hw2 h0 hw1
    generalize prepS s c = sp at *
    go_upto_region 6 with fail
    go_wp2_with fail
    refine Calls.mono c2 ?_
    rintro ev w5 ⟨e1, n1, e2, n2, e3, n3, e4, n4, rfl, r1, r2, hs3, hs4, hb5⟩
    clear c2 dC0 dC1 dC2 dC3 dC4 dC5 dN0 dN1 dN2 dN3 dN4 dN5 dN6 dN7 dN8 dN9 dN10 dN11 dN12
    obtain ⟨hN, hC, hR, hb, hz⟩ := HX.out
    have kN := below_at hb5 (lt_heap hN) hN
    have kC := below_at hb5 (lt_heap hC) hC
    have kR := below_at hb5 (lt_heap hR) hR
    have kz : w.heap.size + 3 ≤ w5.heap.size := by have := hb5.size; omega
    have kb : Below w.heap.size w w5 := hb.trans (hb5.mono (by omega))
    clear HX hN hC hR hb hz
    have hN := kN
    have hC := kC
    have hR := kR
    have hb := kb
    have hz := kz
    clear kN kC kR kb kz
    clear hb5 R1 R2
    have R1 := Lib.hid r1
    have R2 := Lib.hid r2
    clear r1 r2
    have dR0 := cell_atD hR 0 (v := .int .i64 0) rfl
    have dR1 := cell_atD hR 1 (v := .int .i64 0) rfl
    have dR2 := cell_atD hR 2 (v := .int .i64 0) rfl
    have dR3 := cell_atD hR 3 (v := .int .i64 0) rfl
    have dR4 := cell_atD hR 4 (v := .slice none 0 0) rfl
    have dR5 := cell_atD hR 5 (v := .slice none 0 0) rfl
    have dR6 := cell_atD hR 6 (v := .int .i64 0) rfl
    have dR7 := cell_atD hR 7 (v := .int .i64 0) rfl
    have dR8 := cell_atD hR 8 (v := .int .i64 0) rfl
    have dR9 := cell_atD hR 9 (v := .slice none 0 0) rfl
    have dR10 := cell_atD hR 10 (v := .slice none 0 0) rfl
    have dR11 := cell_atD hR 11 (v := .int .i64 0) rfl
    have dR12 := cell_atD hR 12 (v := .int .i64 0) rfl
    have fz : ∀ j, w5.frozen? ⟨w.heap.size + 1 + 1, j, none⟩ = false := fun j => by simp [World.frozen?, hR]
    have g1 : (w5.setCell ⟨w.heap.size + 1 + 1, 0, none⟩ (.int .i64 sp.ep)).heap[w.heap.size + 1 + 1]? = some (.cells #[.int .i64 sp.ep, .int .i64 0, .int .i64 0, .int .i64 0, .slice none 0 0, .slice none 0 0, .int .i64 0, .int .i64 0, .int .i64 0, .slice none 0 0, .slice none 0 0, .int .i64 0, .int .i64 0] 42) := heap_set_self hR 0 _
    have g2 : ((w5.setCell ⟨w.heap.size + 1 + 1, 0, none⟩ (.int .i64 sp.ep)).setCell ⟨w.heap.size + 1 + 1, 1, none⟩ (.int .i64 sp.a.e)).heap[w.heap.size + 1 + 1]? = some (.cells #[.int .i64 sp.ep, .int .i64 sp.a.e, .int .i64 0, .int .i64 0, .slice none 0 0, .slice none 0 0, .int .i64 0, .int .i64 0, .int .i64 0, .slice none 0 0, .slice none 0 0, .int .i64 0, .int .i64 0] 42) := heap_set_self g1 1 _
    have g3 : (((w5.setCell ⟨w.heap.size + 1 + 1, 0, none⟩ (.int .i64 sp.ep)).setCell ⟨w.heap.size + 1 + 1, 1, none⟩ (.int .i64 sp.a.e)).setCell ⟨w.heap.size + 1 + 1, 2, none⟩ (.int .i64 sp.a.b)).heap[w.heap.size + 1 + 1]? = some (.cells #[.int .i64 sp.ep, .int .i64 sp.a.e, .int .i64 sp.a.b, .int .i64 0, .slice none 0 0, .slice none 0 0, .int .i64 0, .int .i64 0, .int .i64 0, .slice none 0 0, .slice none 0 0, .int .i64 0, .int .i64 0] 42) := heap_set_self g2 2 _
    have g4 : ((((w5.setCell ⟨w.heap.size + 1 + 1, 0, none⟩ (.int .i64 sp.ep)).setCell ⟨w.heap.size + 1 + 1, 1, none⟩ (.int .i64 sp.a.e)).setCell ⟨w.heap.size + 1 + 1, 2, none⟩ (.int .i64 sp.a.b)).setCell ⟨w.heap.size + 1 + 1, 3, none⟩ (.int .i64 sp.a.k)).heap[w.heap.size + 1 + 1]? = some (.cells #[.int .i64 sp.ep, .int .i64 sp.a.e, .int .i64 sp.a.b, .int .i64 sp.a.k, .slice none 0 0, .slice none 0 0, .int .i64 0, .int .i64 0, .int .i64 0, .slice none 0 0, .slice none 0 0, .int .i64 0, .int .i64 0] 42) := heap_set_self g3 3 _
    have g5 : (((((w5.setCell ⟨w.heap.size + 1 + 1, 0, none⟩ (.int .i64 sp.ep)).setCell ⟨w.heap.size + 1 + 1, 1, none⟩ (.int .i64 sp.a.e)).setCell ⟨w.heap.size + 1 + 1, 2, none⟩ (.int .i64 sp.a.b)).setCell ⟨w.heap.size + 1 + 1, 3, none⟩ (.int .i64 sp.a.k)).setCell ⟨w.heap.size + 1 + 1, 4, none⟩ (.slice e1 sp.a.M.length n1)).heap[w.heap.size + 1 + 1]? = some (.cells #[.int .i64 sp.ep, .int .i64 sp.a.e, .int .i64 sp.a.b, .int .i64 sp.a.k, .slice e1 sp.a.M.length n1, .slice none 0 0, .int .i64 0, .int .i64 0, .int .i64 0, .slice none 0 0, .slice none 0 0, .int .i64 0, .int .i64 0] 42) := heap_set_self g4 4 _
    have g6 : ((((((w5.setCell ⟨w.heap.size + 1 + 1, 0, none⟩ (.int .i64 sp.ep)).setCell ⟨w.heap.size + 1 + 1, 1, none⟩ (.int .i64 sp.a.e)).setCell ⟨w.heap.size + 1 + 1, 2, none⟩ (.int .i64 sp.a.b)).setCell ⟨w.heap.size + 1 + 1, 3, none⟩ (.int .i64 sp.a.k)).setCell ⟨w.heap.size + 1 + 1, 4, none⟩ (.slice e1 sp.a.M.length n1)).setCell ⟨w.heap.size + 1 + 1, 5, none⟩ (.slice e2 sp.a.C.length n2)).heap[w.heap.size + 1 + 1]? = some (.cells #[.int .i64 sp.ep, .int .i64 sp.a.e, .int .i64 sp.a.b, .int .i64 sp.a.k, .slice e1 sp.a.M.length n1, .slice e2 sp.a.C.length n2, .int .i64 0, .int .i64 0, .int .i64 0, .slice none 0 0, .slice none 0 0, .int .i64 0, .int .i64 0] 42) := heap_set_self g5 5 _
    have g7 : (((((((w5.setCell ⟨w.heap.size + 1 + 1, 0, none⟩ (.int .i64 sp.ep)).setCell ⟨w.heap.size + 1 + 1, 1, none⟩ (.int .i64 sp.a.e)).setCell ⟨w.heap.size + 1 + 1, 2, none⟩ (.int .i64 sp.a.b)).setCell ⟨w.heap.size + 1 + 1, 3, none⟩ (.int .i64 sp.a.k)).setCell ⟨w.heap.size + 1 + 1, 4, none⟩ (.slice e1 sp.a.M.length n1)).setCell ⟨w.heap.size + 1 + 1, 5, none⟩ (.slice e2 sp.a.C.length n2)).setCell ⟨w.heap.size + 1 + 1, 6, none⟩ (.int .i64 sp.n.e)).heap[w.heap.size + 1 + 1]? = some (.cells #[.int .i64 sp.ep, .int .i64 sp.a.e, .int .i64 sp.a.b, .int .i64 sp.a.k, .slice e1 sp.a.M.length n1, .slice e2 sp.a.C.length n2, .int .i64 sp.n.e, .int .i64 0, .int .i64 0, .slice none 0 0, .slice none 0 0, .int .i64 0, .int .i64 0] 42) := heap_set_self g6 6 _
    have g8 : ((((((((w5.setCell ⟨w.heap.size + 1 + 1, 0, none⟩ (.int .i64 sp.ep)).setCell ⟨w.heap.size + 1 + 1, 1, none⟩ (.int .i64 sp.a.e)).setCell ⟨w.heap.size + 1 + 1, 2, none⟩ (.int .i64 sp.a.b)).setCell ⟨w.heap.size + 1 + 1, 3, none⟩ (.int .i64 sp.a.k)).setCell ⟨w.heap.size + 1 + 1, 4, none⟩ (.slice e1 sp.a.M.length n1)).setCell ⟨w.heap.size + 1 + 1, 5, none⟩ (.slice e2 sp.a.C.length n2)).setCell ⟨w.heap.size + 1 + 1, 6, none⟩ (.int .i64 sp.n.e)).setCell ⟨w.heap.size + 1 + 1, 7, none⟩ (.int .i64 sp.n.b)).heap[w.heap.size + 1 + 1]? = some (.cells #[.int .i64 sp.ep, .int .i64 sp.a.e, .int .i64 sp.a.b, .int .i64 sp.a.k, .slice e1 sp.a.M.length n1, .slice e2 sp.a.C.length n2, .int .i64 sp.n.e, .int .i64 sp.n.b, .int .i64 0, .slice none 0 0, .slice none 0 0, .int .i64 0, .int .i64 0] 42) := heap_set_self g7 7 _
    have g9 : (((((((((w5.setCell ⟨w.heap.size + 1 + 1, 0, none⟩ (.int .i64 sp.ep)).setCell ⟨w.heap.size + 1 + 1, 1, none⟩ (.int .i64 sp.a.e)).setCell ⟨w.heap.size + 1 + 1, 2, none⟩ (.int .i64 sp.a.b)).setCell ⟨w.heap.size + 1 + 1, 3, none⟩ (.int .i64 sp.a.k)).setCell ⟨w.heap.size + 1 + 1, 4, none⟩ (.slice e1 sp.a.M.length n1)).setCell ⟨w.heap.size + 1 + 1, 5, none⟩ (.slice e2 sp.a.C.length n2)).setCell ⟨w.heap.size + 1 + 1, 6, none⟩ (.int .i64 sp.n.e)).setCell ⟨w.heap.size + 1 + 1, 7, none⟩ (.int .i64 sp.n.b)).setCell ⟨w.heap.size + 1 + 1, 8, none⟩ (.int .i64 sp.n.k)).heap[w.heap.size + 1 + 1]? = some (.cells #[.int .i64 sp.ep, .int .i64 sp.a.e, .int .i64 sp.a.b, .int .i64 sp.a.k, .slice e1 sp.a.M.length n1, .slice e2 sp.a.C.length n2, .int .i64 sp.n.e, .int .i64 sp.n.b, .int .i64 sp.n.k, .slice none 0 0, .slice none 0 0, .int .i64 0, .int .i64 0] 42) := heap_set_self g8 8 _
    have g10 : ((((((((((w5.setCell ⟨w.heap.size + 1 + 1, 0, none⟩ (.int .i64 sp.ep)).setCell ⟨w.heap.size + 1 + 1, 1, none⟩ (.int .i64 sp.a.e)).setCell ⟨w.heap.size + 1 + 1, 2, none⟩ (.int .i64 sp.a.b)).setCell ⟨w.heap.size + 1 + 1, 3, none⟩ (.int .i64 sp.a.k)).setCell ⟨w.heap.size + 1 + 1, 4, none⟩ (.slice e1 sp.a.M.length n1)).setCell ⟨w.heap.size + 1 + 1, 5, none⟩ (.slice e2 sp.a.C.length n2)).setCell ⟨w.heap.size + 1 + 1, 6, none⟩ (.int .i64 sp.n.e)).setCell ⟨w.heap.size + 1 + 1, 7, none⟩ (.int .i64 sp.n.b)).setCell ⟨w.heap.size + 1 + 1, 8, none⟩ (.int .i64 sp.n.k)).setCell ⟨w.heap.size + 1 + 1, 9, none⟩ (.slice e3 sp.n.M.length n3)).heap[w.heap.size + 1 + 1]? = some (.cells #[.int .i64 sp.ep, .int .i64 sp.a.e, .int .i64 sp.a.b, .int .i64 sp.a.k, .slice e1 sp.a.M.length n1, .slice e2 sp.a.C.length n2, .int .i64 sp.n.e, .int .i64 sp.n.b, .int .i64 sp.n.k, .slice e3 sp.n.M.length n3, .slice none 0 0, .int .i64 0, .int .i64 0] 42) := heap_set_self g9 9 _
    have g11 : (((((((((((w5.setCell ⟨w.heap.size + 1 + 1, 0, none⟩ (.int .i64 sp.ep)).setCell ⟨w.heap.size + 1 + 1, 1, none⟩ (.int .i64 sp.a.e)).setCell ⟨w.heap.size + 1 + 1, 2, none⟩ (.int .i64 sp.a.b)).setCell ⟨w.heap.size + 1 + 1, 3, none⟩ (.int .i64 sp.a.k)).setCell ⟨w.heap.size + 1 + 1, 4, none⟩ (.slice e1 sp.a.M.length n1)).setCell ⟨w.heap.size + 1 + 1, 5, none⟩ (.slice e2 sp.a.C.length n2)).setCell ⟨w.heap.size + 1 + 1, 6, none⟩ (.int .i64 sp.n.e)).setCell ⟨w.heap.size + 1 + 1, 7, none⟩ (.int .i64 sp.n.b)).setCell ⟨w.heap.size + 1 + 1, 8, none⟩ (.int .i64 sp.n.k)).setCell ⟨w.heap.size + 1 + 1, 9, none⟩ (.slice e3 sp.n.M.length n3)).setCell ⟨w.heap.size + 1 + 1, 10, none⟩ (.slice e4 sp.n.C.length n4)).heap[w.heap.size + 1 + 1]? = some (.cells #[.int .i64 sp.ep, .int .i64 sp.a.e, .int .i64 sp.a.b, .int .i64 sp.a.k, .slice e1 sp.a.M.length n1, .slice e2 sp.a.C.length n2, .int .i64 sp.n.e, .int .i64 sp.n.b, .int .i64 sp.n.k, .slice e3 sp.n.M.length n3, .slice e4 sp.n.C.length n4, .int .i64 0, .int .i64 0] 42) := heap_set_self g10 10 _
    have g12 : ((((((((((((w5.setCell ⟨w.heap.size + 1 + 1, 0, none⟩ (.int .i64 sp.ep)).setCell ⟨w.heap.size + 1 + 1, 1, none⟩ (.int .i64 sp.a.e)).setCell ⟨w.heap.size + 1 + 1, 2, none⟩ (.int .i64 sp.a.b)).setCell ⟨w.heap.size + 1 + 1, 3, none⟩ (.int .i64 sp.a.k)).setCell ⟨w.heap.size + 1 + 1, 4, none⟩ (.slice e1 sp.a.M.length n1)).setCell ⟨w.heap.size + 1 + 1, 5, none⟩ (.slice e2 sp.a.C.length n2)).setCell ⟨w.heap.size + 1 + 1, 6, none⟩ (.int .i64 sp.n.e)).setCell ⟨w.heap.size + 1 + 1, 7, none⟩ (.int .i64 sp.n.b)).setCell ⟨w.heap.size + 1 + 1, 8, none⟩ (.int .i64 sp.n.k)).setCell ⟨w.heap.size + 1 + 1, 9, none⟩ (.slice e3 sp.n.M.length n3)).setCell ⟨w.heap.size + 1 + 1, 10, none⟩ (.slice e4 sp.n.C.length n4)).setCell ⟨w.heap.size + 1 + 1, 11, none⟩ (.int .i64 sp.s0)).heap[w.heap.size + 1 + 1]? = some (.cells #[.int .i64 sp.ep, .int .i64 sp.a.e, .int .i64 sp.a.b, .int .i64 sp.a.k, .slice e1 sp.a.M.length n1, .slice e2 sp.a.C.length n2, .int .i64 sp.n.e, .int .i64 sp.n.b, .int .i64 sp.n.k, .slice e3 sp.n.M.length n3, .slice e4 sp.n.C.length n4, .int .i64 sp.s0, .int .i64 0] 42) := heap_set_self g11 11 _
    have g13 : (((((((((((((w5.setCell ⟨w.heap.size + 1 + 1, 0, none⟩ (.int .i64 sp.ep)).setCell ⟨w.heap.size + 1 + 1, 1, none⟩ (.int .i64 sp.a.e)).setCell ⟨w.heap.size + 1 + 1, 2, none⟩ (.int .i64 sp.a.b)).setCell ⟨w.heap.size + 1 + 1, 3, none⟩ (.int .i64 sp.a.k)).setCell ⟨w.heap.size + 1 + 1, 4, none⟩ (.slice e1 sp.a.M.length n1)).setCell ⟨w.heap.size + 1 + 1, 5, none⟩ (.slice e2 sp.a.C.length n2)).setCell ⟨w.heap.size + 1 + 1, 6, none⟩ (.int .i64 sp.n.e)).setCell ⟨w.heap.size + 1 + 1, 7, none⟩ (.int .i64 sp.n.b)).setCell ⟨w.heap.size + 1 + 1, 8, none⟩ (.int .i64 sp.n.k)).setCell ⟨w.heap.size + 1 + 1, 9, none⟩ (.slice e3 sp.n.M.length n3)).setCell ⟨w.heap.size + 1 + 1, 10, none⟩ (.slice e4 sp.n.C.length n4)).setCell ⟨w.heap.size + 1 + 1, 11, none⟩ (.int .i64 sp.s0)).setCell ⟨w.heap.size + 1 + 1, 12, none⟩ (.int .i64 sp.s1)).heap[w.heap.size + 1 + 1]? = some (.cells #[.int .i64 sp.ep, .int .i64 sp.a.e, .int .i64 sp.a.b, .int .i64 sp.a.k, .slice e1 sp.a.M.length n1, .slice e2 sp.a.C.length n2, .int .i64 sp.n.e, .int .i64 sp.n.b, .int .i64 sp.n.k, .slice e3 sp.n.M.length n3, .slice e4 sp.n.C.length n4, .int .i64 sp.s0, .int .i64 sp.s1] 42) := heap_set_self g12 12 _
    have GI := Lib.hid g13
    have GO := Lib.hid (show Only (w.heap.size + 1 + 1) w5 (((((((((((((w5.setCell ⟨w.heap.size + 1 + 1, 0, none⟩ (.int .i64 sp.ep)).setCell ⟨w.heap.size + 1 + 1, 1, none⟩ (.int .i64 sp.a.e)).setCell ⟨w.heap.size + 1 + 1, 2, none⟩ (.int .i64 sp.a.b)).setCell ⟨w.heap.size + 1 + 1, 3, none⟩ (.int .i64 sp.a.k)).setCell ⟨w.heap.size + 1 + 1, 4, none⟩ (.slice e1 sp.a.M.length n1)).setCell ⟨w.heap.size + 1 + 1, 5, none⟩ (.slice e2 sp.a.C.length n2)).setCell ⟨w.heap.size + 1 + 1, 6, none⟩ (.int .i64 sp.n.e)).setCell ⟨w.heap.size + 1 + 1, 7, none⟩ (.int .i64 sp.n.b)).setCell ⟨w.heap.size + 1 + 1, 8, none⟩ (.int .i64 sp.n.k)).setCell ⟨w.heap.size + 1 + 1, 9, none⟩ (.slice e3 sp.n.M.length n3)).setCell ⟨w.heap.size + 1 + 1, 10, none⟩ (.slice e4 sp.n.C.length n4)).setCell ⟨w.heap.size + 1 + 1, 11, none⟩ (.int .i64 sp.s0)).setCell ⟨w.heap.size + 1 + 1, 12, none⟩ (.int .i64 sp.s1)) from ((((((((((((((Only.refl _ _).set 0 _).set 1 _).set 2 _).set 3 _).set 4 _).set 5 _).set 6 _).set 7 _).set 8 _).set 9 _).set 10 _).set 11 _).set 12 _))
    clear g1 g2 g3 g4 g5 g6 g7 g8 g9 g10 g11 g12 g13
    have HB := Lib.hid hb
    have HZ := Lib.hid hz
    clear hN hC hR hb hz
    go_wp2_with fail
    generalize (((((((((((((w5.setCell ⟨w.heap.size + 1 + 1, 0, none⟩ (.int .i64 sp.ep)).setCell ⟨w.heap.size + 1 + 1, 1, none⟩ (.int .i64 sp.a.e)).setCell ⟨w.heap.size + 1 + 1, 2, none⟩ (.int .i64 sp.a.b)).setCell ⟨w.heap.size + 1 + 1, 3, none⟩ (.int .i64 sp.a.k)).setCell ⟨w.heap.size + 1 + 1, 4, none⟩ (.slice e1 sp.a.M.length n1)).setCell ⟨w.heap.size + 1 + 1, 5, none⟩ (.slice e2 sp.a.C.length n2)).setCell ⟨w.heap.size + 1 + 1, 6, none⟩ (.int .i64 sp.n.e)).setCell ⟨w.heap.size + 1 + 1, 7, none⟩ (.int .i64 sp.n.b)).setCell ⟨w.heap.size + 1 + 1, 8, none⟩ (.int .i64 sp.n.k)).setCell ⟨w.heap.size + 1 + 1, 9, none⟩ (.slice e3 sp.n.M.length n3)).setCell ⟨w.heap.size + 1 + 1, 10, none⟩ (.slice e4 sp.n.C.length n4)).setCell ⟨w.heap.size + 1 + 1, 11, none⟩ (.int .i64 sp.s0)).setCell ⟨w.heap.size + 1 + 1, 12, none⟩ (.int .i64 sp.s1)) = wf at *
    have fi := GI.out
    have s0 := cell_atD fi 0 (v := .int .i64 sp.ep) rfl
    have s1 := cell_atD fi 1 (v := .int .i64 sp.a.e) rfl
    have s2 := cell_atD fi 2 (v := .int .i64 sp.a.b) rfl
    have s3 := cell_atD fi 3 (v := .int .i64 sp.a.k) rfl
    have s4 := cell_atD fi 4 (v := .slice e1 sp.a.M.length n1) rfl
    have s5 := cell_atD fi 5 (v := .slice e2 sp.a.C.length n2) rfl
    have s6 := cell_atD fi 6 (v := .int .i64 sp.n.e) rfl
    have s7 := cell_atD fi 7 (v := .int .i64 sp.n.b) rfl
    have s8 := cell_atD fi 8 (v := .int .i64 sp.n.k) rfl
    have s9 := cell_atD fi 9 (v := .slice e3 sp.n.M.length n3) rfl
    have s10 := cell_atD fi 10 (v := .slice e4 sp.n.C.length n4) rfl
    have s11 := cell_atD fi 11 (v := .int .i64 sp.s0) rfl
    have s12 := cell_atD fi 12 (v := .int .i64 sp.s1) rfl
    clear fi
    refine bodyPost_ret (v := .agg #[.int .i64 sp.ep, .int .i64 sp.a.e, .int .i64 sp.a.b, .int .i64 sp.a.k, .slice e1 sp.a.M.length n1, .slice e2 sp.a.C.length n2, .int .i64 sp.n.e, .int .i64 sp.n.b, .int .i64 sp.n.k, .slice e3 sp.n.M.length n3, .slice e4 sp.n.C.length n4, .int .i64 sp.s0, .int .i64 sp.s1]) (by simp [results, Try.results88, go_sem, s0, s1, s2, s3, s4, s5, s6, s7, s8, s9, s10, s11, s12]) rfl ?_
    have hz := HZ.out
    have hf : Below w.heap.size w wf := HB.out.trans (GO.out.below (B := w.heap.size) (by omega) (by omega))
    rw [hd]
    exact ⟨_, rfl, ⟨_, _, _, _, rfl, R1.out.only GO.out (by omega), R2.out.only GO.out (by omega), hs3, hs4⟩, hf⟩
  by_cases x2 : x = 2
  · subst x2
    rcases ge : s.n.e == c.e
    · have hd := do_two_not s c gm (by simpa using ge)
      clear gm
      obtain ⟨hN, hC, hR, hb, hz⟩ := HX.out
      clear HX
      have dC0 := cell_atD hC 0 (v := .int .i64 2) rfl
      have dC1 := cell_atD hC 1 (v := .int .i64 c.e) rfl
      have dC2 := cell_atD hC 2 (v := .int .i64 c.b) rfl
      have dC3 := cell_atD hC 3 (v := .int .i64 c.k) rfl
      have dC4 := cell_atD hC 4 (v := .slice a5 c.M.length q5) rfl
      have dC5 := cell_atD hC 5 (v := .slice a6 c.C.length q6) rfl
      have dN0 := cell_atD hN 0 (v := .int .i64 s.ep) rfl
      have dN1 := cell_atD hN 1 (v := .int .i64 s.a.e) rfl
      have dN2 := cell_atD hN 2 (v := .int .i64 s.a.b) rfl
      have dN3 := cell_atD hN 3 (v := .int .i64 s.a.k) rfl
      have dN4 := cell_atD hN 4 (v := .slice b1 s.a.M.length p1) rfl
      have dN5 := cell_atD hN 5 (v := .slice b2 s.a.C.length p2) rfl
      have dN6 := cell_atD hN 6 (v := .int .i64 s.n.e) rfl
      have dN7 := cell_atD hN 7 (v := .int .i64 s.n.b) rfl
      have dN8 := cell_atD hN 8 (v := .int .i64 s.n.k) rfl
      have dN9 := cell_atD hN 9 (v := .slice b3 s.n.M.length p3) rfl
      have dN10 := cell_atD hN 10 (v := .slice b4 s.n.C.length p4) rfl
      have dN11 := cell_atD hN 11 (v := .int .i64 s.s0) rfl
      have dN12 := cell_atD hN 12 (v := .int .i64 s.s1) rfl
      have HX := Lib.hid (And.intro hN (And.intro hC (And.intro hR (And.intro hb (hz)))))
      clear hN hC hR hb hz
      go_upto_region 10 with fail
      obtain ⟨hN, hC, hR, hb, hz⟩ := HX.out
      clear HX dC0 dC1 dC2 dC3 dC4 dC5 dN0 dN1 dN2 dN3 dN4 dN5 dN6 dN7 dN8 dN9 dN10 dN11 dN12
      have dN0 := cell_atD hN 0 (v := .int .i64 s.ep) rfl
      have dN1 := cell_atD hN 1 (v := .int .i64 s.a.e) rfl
      have dN2 := cell_atD hN 2 (v := .int .i64 s.a.b) rfl
      have dN3 := cell_atD hN 3 (v := .int .i64 s.a.k) rfl
      have dN4 := cell_atD hN 4 (v := .slice b1 s.a.M.length p1) rfl
      have dN5 := cell_atD hN 5 (v := .slice b2 s.a.C.length p2) rfl
      have dN6 := cell_atD hN 6 (v := .int .i64 s.n.e) rfl
      have dN7 := cell_atD hN 7 (v := .int .i64 s.n.b) rfl
      have dN8 := cell_atD hN 8 (v := .int .i64 s.n.k) rfl
      have dN9 := cell_atD hN 9 (v := .slice b3 s.n.M.length p3) rfl
      have dN10 := cell_atD hN 10 (v := .slice b4 s.n.C.length p4) rfl
      have dN11 := cell_atD hN 11 (v := .int .i64 s.s0) rfl
      have dN12 := cell_atD hN 12 (v := .int .i64 s.s1) rfl
      have dR0 := cell_atD hR 0 (v := .int .i64 0) rfl
      have dR1 := cell_atD hR 1 (v := .int .i64 0) rfl
      have dR2 := cell_atD hR 2 (v := .int .i64 0) rfl
      have dR3 := cell_atD hR 3 (v := .int .i64 0) rfl
      have dR4 := cell_atD hR 4 (v := .slice none 0 0) rfl
      have dR5 := cell_atD hR 5 (v := .slice none 0 0) rfl
      have dR6 := cell_atD hR 6 (v := .int .i64 0) rfl
      have dR7 := cell_atD hR 7 (v := .int .i64 0) rfl
      have dR8 := cell_atD hR 8 (v := .int .i64 0) rfl
      have dR9 := cell_atD hR 9 (v := .slice none 0 0) rfl
      have dR10 := cell_atD hR 10 (v := .slice none 0 0) rfl
      have dR11 := cell_atD hR 11 (v := .int .i64 0) rfl
      have dR12 := cell_atD hR 12 (v := .int .i64 0) rfl
      have fz : ∀ j, w4.frozen? ⟨w.heap.size + 1 + 1, j, none⟩ = false := fun j => by simp [World.frozen?, hR]
      have g1 : (w4.setCell ⟨w.heap.size + 1 + 1, 0, none⟩ (.int .i64 s.ep)).heap[w.heap.size + 1 + 1]? = some (.cells #[.int .i64 s.ep, .int .i64 0, .int .i64 0, .int .i64 0, .slice none 0 0, .slice none 0 0, .int .i64 0, .int .i64 0, .int .i64 0, .slice none 0 0, .slice none 0 0, .int .i64 0, .int .i64 0] 42) := heap_set_self hR 0 _
      have g2 : ((w4.setCell ⟨w.heap.size + 1 + 1, 0, none⟩ (.int .i64 s.ep)).setCell ⟨w.heap.size + 1 + 1, 1, none⟩ (.int .i64 s.a.e)).heap[w.heap.size + 1 + 1]? = some (.cells #[.int .i64 s.ep, .int .i64 s.a.e, .int .i64 0, .int .i64 0, .slice none 0 0, .slice none 0 0, .int .i64 0, .int .i64 0, .int .i64 0, .slice none 0 0, .slice none 0 0, .int .i64 0, .int .i64 0] 42) := heap_set_self g1 1 _
      have g3 : (((w4.setCell ⟨w.heap.size + 1 + 1, 0, none⟩ (.int .i64 s.ep)).setCell ⟨w.heap.size + 1 + 1, 1, none⟩ (.int .i64 s.a.e)).setCell ⟨w.heap.size + 1 + 1, 2, none⟩ (.int .i64 s.a.b)).heap[w.heap.size + 1 + 1]? = some (.cells #[.int .i64 s.ep, .int .i64 s.a.e, .int .i64 s.a.b, .int .i64 0, .slice none 0 0, .slice none 0 0, .int .i64 0, .int .i64 0, .int .i64 0, .slice none 0 0, .slice none 0 0, .int .i64 0, .int .i64 0] 42) := heap_set_self g2 2 _
      have g4 : ((((w4.setCell ⟨w.heap.size + 1 + 1, 0, none⟩ (.int .i64 s.ep)).setCell ⟨w.heap.size + 1 + 1, 1, none⟩ (.int .i64 s.a.e)).setCell ⟨w.heap.size + 1 + 1, 2, none⟩ (.int .i64 s.a.b)).setCell ⟨w.heap.size + 1 + 1, 3, none⟩ (.int .i64 s.a.k)).heap[w.heap.size + 1 + 1]? = some (.cells #[.int .i64 s.ep, .int .i64 s.a.e, .int .i64 s.a.b, .int .i64 s.a.k, .slice none 0 0, .slice none 0 0, .int .i64 0, .int .i64 0, .int .i64 0, .slice none 0 0, .slice none 0 0, .int .i64 0, .int .i64 0] 42) := heap_set_self g3 3 _
      have g5 : (((((w4.setCell ⟨w.heap.size + 1 + 1, 0, none⟩ (.int .i64 s.ep)).setCell ⟨w.heap.size + 1 + 1, 1, none⟩ (.int .i64 s.a.e)).setCell ⟨w.heap.size + 1 + 1, 2, none⟩ (.int .i64 s.a.b)).setCell ⟨w.heap.size + 1 + 1, 3, none⟩ (.int .i64 s.a.k)).setCell ⟨w.heap.size + 1 + 1, 4, none⟩ (.slice b1 s.a.M.length p1)).heap[w.heap.size + 1 + 1]? = some (.cells #[.int .i64 s.ep, .int .i64 s.a.e, .int .i64 s.a.b, .int .i64 s.a.k, .slice b1 s.a.M.length p1, .slice none 0 0, .int .i64 0, .int .i64 0, .int .i64 0, .slice none 0 0, .slice none 0 0, .int .i64 0, .int .i64 0] 42) := heap_set_self g4 4 _
      have g6 : ((((((w4.setCell ⟨w.heap.size + 1 + 1, 0, none⟩ (.int .i64 s.ep)).setCell ⟨w.heap.size + 1 + 1, 1, none⟩ (.int .i64 s.a.e)).setCell ⟨w.heap.size + 1 + 1, 2, none⟩ (.int .i64 s.a.b)).setCell ⟨w.heap.size + 1 + 1, 3, none⟩ (.int .i64 s.a.k)).setCell ⟨w.heap.size + 1 + 1, 4, none⟩ (.slice b1 s.a.M.length p1)).setCell ⟨w.heap.size + 1 + 1, 5, none⟩ (.slice b2 s.a.C.length p2)).heap[w.heap.size + 1 + 1]? = some (.cells #[.int .i64 s.ep, .int .i64 s.a.e, .int .i64 s.a.b, .int .i64 s.a.k, .slice b1 s.a.M.length p1, .slice b2 s.a.C.length p2, .int .i64 0, .int .i64 0, .int .i64 0, .slice none 0 0, .slice none 0 0, .int .i64 0, .int .i64 0] 42) := heap_set_self g5 5 _
      have g7 : (((((((w4.setCell ⟨w.heap.size + 1 + 1, 0, none⟩ (.int .i64 s.ep)).setCell ⟨w.heap.size + 1 + 1, 1, none⟩ (.int .i64 s.a.e)).setCell ⟨w.heap.size + 1 + 1, 2, none⟩ (.int .i64 s.a.b)).setCell ⟨w.heap.size + 1 + 1, 3, none⟩ (.int .i64 s.a.k)).setCell ⟨w.heap.size + 1 + 1, 4, none⟩ (.slice b1 s.a.M.length p1)).setCell ⟨w.heap.size + 1 + 1, 5, none⟩ (.slice b2 s.a.C.length p2)).setCell ⟨w.heap.size + 1 + 1, 6, none⟩ (.int .i64 s.n.e)).heap[w.heap.size + 1 + 1]? = some (.cells #[.int .i64 s.ep, .int .i64 s.a.e, .int .i64 s.a.b, .int .i64 s.a.k, .slice b1 s.a.M.length p1, .slice b2 s.a.C.length p2, .int .i64 s.n.e, .int .i64 0, .int .i64 0, .slice none 0 0, .slice none 0 0, .int .i64 0, .int .i64 0] 42) := heap_set_self g6 6 _
      have g8 : ((((((((w4.setCell ⟨w.heap.size + 1 + 1, 0, none⟩ (.int .i64 s.ep)).setCell ⟨w.heap.size + 1 + 1, 1, none⟩ (.int .i64 s.a.e)).setCell ⟨w.heap.size + 1 + 1, 2, none⟩ (.int .i64 s.a.b)).setCell ⟨w.heap.size + 1 + 1, 3, none⟩ (.int .i64 s.a.k)).setCell ⟨w.heap.size + 1 + 1, 4, none⟩ (.slice b1 s.a.M.length p1)).setCell ⟨w.heap.size + 1 + 1, 5, none⟩ (.slice b2 s.a.C.length p2)).setCell ⟨w.heap.size + 1 + 1, 6, none⟩ (.int .i64 s.n.e)).setCell ⟨w.heap.size + 1 + 1, 7, none⟩ (.int .i64 s.n.b)).heap[w.heap.size + 1 + 1]? = some (.cells #[.int .i64 s.ep, .int .i64 s.a.e, .int .i64 s.a.b, .int .i64 s.a.k, .slice b1 s.a.M.length p1, .slice b2 s.a.C.length p2, .int .i64 s.n.e, .int .i64 s.n.b, .int .i64 0, .slice none 0 0, .slice none 0 0, .int .i64 0, .int .i64 0] 42) := heap_set_self g7 7 _
      have g9 : (((((((((w4.setCell ⟨w.heap.size + 1 + 1, 0, none⟩ (.int .i64 s.ep)).setCell ⟨w.heap.size + 1 + 1, 1, none⟩ (.int .i64 s.a.e)).setCell ⟨w.heap.size + 1 + 1, 2, none⟩ (.int .i64 s.a.b)).setCell ⟨w.heap.size + 1 + 1, 3, none⟩ (.int .i64 s.a.k)).setCell ⟨w.heap.size + 1 + 1, 4, none⟩ (.slice b1 s.a.M.length p1)).setCell ⟨w.heap.size + 1 + 1, 5, none⟩ (.slice b2 s.a.C.length p2)).setCell ⟨w.heap.size + 1 + 1, 6, none⟩ (.int .i64 s.n.e)).setCell ⟨w.heap.size + 1 + 1, 7, none⟩ (.int .i64 s.n.b)).setCell ⟨w.heap.size + 1 + 1, 8, none⟩ (.int .i64 s.n.k)).heap[w.heap.size + 1 + 1]? = some (.cells #[.int .i64 s.ep, .int .i64 s.a.e, .int .i64 s.a.b, .int .i64 s.a.k, .slice b1 s.a.M.length p1, .slice b2 s.a.C.length p2, .int .i64 s.n.e, .int .i64 s.n.b, .int .i64 s.n.k, .slice none 0 0, .slice none 0 0, .int .i64 0, .int .i64 0] 42) := heap_set_self g8 8 _
      have g10 : ((((((((((w4.setCell ⟨w.heap.size + 1 + 1, 0, none⟩ (.int .i64 s.ep)).setCell ⟨w.heap.size + 1 + 1, 1, none⟩ (.int .i64 s.a.e)).setCell ⟨w.heap.size + 1 + 1, 2, none⟩ (.int .i64 s.a.b)).setCell ⟨w.heap.size + 1 + 1, 3, none⟩ (.int .i64 s.a.k)).setCell ⟨w.heap.size + 1 + 1, 4, none⟩ (.slice b1 s.a.M.length p1)).setCell ⟨w.heap.size + 1 + 1, 5, none⟩ (.slice b2 s.a.C.length p2)).setCell ⟨w.heap.size + 1 + 1, 6, none⟩ (.int .i64 s.n.e)).setCell ⟨w.heap.size + 1 + 1, 7, none⟩ (.int .i64 s.n.b)).setCell ⟨w.heap.size + 1 + 1, 8, none⟩ (.int .i64 s.n.k)).setCell ⟨w.heap.size + 1 + 1, 9, none⟩ (.slice b3 s.n.M.length p3)).heap[w.heap.size + 1 + 1]? = some (.cells #[.int .i64 s.ep, .int .i64 s.a.e, .int .i64 s.a.b, .int .i64 s.a.k, .slice b1 s.a.M.length p1, .slice b2 s.a.C.length p2, .int .i64 s.n.e, .int .i64 s.n.b, .int .i64 s.n.k, .slice b3 s.n.M.length p3, .slice none 0 0, .int .i64 0, .int .i64 0] 42) := heap_set_self g9 9 _
      have g11 : (((((((((((w4.setCell ⟨w.heap.size + 1 + 1, 0, none⟩ (.int .i64 s.ep)).setCell ⟨w.heap.size + 1 + 1, 1, none⟩ (.int .i64 s.a.e)).setCell ⟨w.heap.size + 1 + 1, 2, none⟩ (.int .i64 s.a.b)).setCell ⟨w.heap.size + 1 + 1, 3, none⟩ (.int .i64 s.a.k)).setCell ⟨w.heap.size + 1 + 1, 4, none⟩ (.slice b1 s.a.M.length p1)).setCell ⟨w.heap.size + 1 + 1, 5, none⟩ (.slice b2 s.a.C.length p2)).setCell ⟨w.heap.size + 1 + 1, 6, none⟩ (.int .i64 s.n.e)).setCell ⟨w.heap.size + 1 + 1, 7, none⟩ (.int .i64 s.n.b)).setCell ⟨w.heap.size + 1 + 1, 8, none⟩ (.int .i64 s.n.k)).setCell ⟨w.heap.size + 1 + 1, 9, none⟩ (.slice b3 s.n.M.length p3)).setCell ⟨w.heap.size + 1 + 1, 10, none⟩ (.slice b4 s.n.C.length p4)).heap[w.heap.size + 1 + 1]? = some (.cells #[.int .i64 s.ep, .int .i64 s.a.e, .int .i64 s.a.b, .int .i64 s.a.k, .slice b1 s.a.M.length p1, .slice b2 s.a.C.length p2, .int .i64 s.n.e, .int .i64 s.n.b, .int .i64 s.n.k, .slice b3 s.n.M.length p3, .slice b4 s.n.C.length p4, .int .i64 0, .int .i64 0] 42) := heap_set_self g10 10 _
      have g12 : ((((((((((((w4.setCell ⟨w.heap.size + 1 + 1, 0, none⟩ (.int .i64 s.ep)).setCell ⟨w.heap.size + 1 + 1, 1, none⟩ (.int .i64 s.a.e)).setCell ⟨w.heap.size + 1 + 1, 2, none⟩ (.int .i64 s.a.b)).setCell ⟨w.heap.size + 1 + 1, 3, none⟩ (.int .i64 s.a.k)).setCell ⟨w.heap.size + 1 + 1, 4, none⟩ (.slice b1 s.a.M.length p1)).setCell ⟨w.heap.size + 1 + 1, 5, none⟩ (.slice b2 s.a.C.length p2)).setCell ⟨w.heap.size + 1 + 1, 6, none⟩ (.int .i64 s.n.e)).setCell ⟨w.heap.size + 1 + 1, 7, none⟩ (.int .i64 s.n.b)).setCell ⟨w.heap.size + 1 + 1, 8, none⟩ (.int .i64 s.n.k)).setCell ⟨w.heap.size + 1 + 1, 9, none⟩ (.slice b3 s.n.M.length p3)).setCell ⟨w.heap.size + 1 + 1, 10, none⟩ (.slice b4 s.n.C.length p4)).setCell ⟨w.heap.size + 1 + 1, 11, none⟩ (.int .i64 s.s0)).heap[w.heap.size + 1 + 1]? = some (.cells #[.int .i64 s.ep, .int .i64 s.a.e, .int .i64 s.a.b, .int .i64 s.a.k, .slice b1 s.a.M.length p1, .slice b2 s.a.C.length p2, .int .i64 s.n.e, .int .i64 s.n.b, .int .i64 s.n.k, .slice b3 s.n.M.length p3, .slice b4 s.n.C.length p4, .int .i64 s.s0, .int .i64 0] 42) := heap_set_self g11 11 _
      have g13 : (((((((((((((w4.setCell ⟨w.heap.size + 1 + 1, 0, none⟩ (.int .i64 s.ep)).setCell ⟨w.heap.size + 1 + 1, 1, none⟩ (.int .i64 s.a.e)).setCell ⟨w.heap.size + 1 + 1, 2, none⟩ (.int .i64 s.a.b)).setCell ⟨w.heap.size + 1 + 1, 3, none⟩ (.int .i64 s.a.k)).setCell ⟨w.heap.size + 1 + 1, 4, none⟩ (.slice b1 s.a.M.length p1)).setCell ⟨w.heap.size + 1 + 1, 5, none⟩ (.slice b2 s.a.C.length p2)).setCell ⟨w.heap.size + 1 + 1, 6, none⟩ (.int .i64 s.n.e)).setCell ⟨w.heap.size + 1 + 1, 7, none⟩ (.int .i64 s.n.b)).setCell ⟨w.heap.size + 1 + 1, 8, none⟩ (.int .i64 s.n.k)).setCell ⟨w.heap.size + 1 + 1, 9, none⟩ (.slice b3 s.n.M.length p3)).setCell ⟨w.heap.size + 1 + 1, 10, none⟩ (.slice b4 s.n.C.length p4)).setCell ⟨w.heap.size + 1 + 1, 11, none⟩ (.int .i64 s.s0)).setCell ⟨w.heap.size + 1 + 1, 12, none⟩ (.int .i64 s.s1)).heap[w.heap.size + 1 + 1]? = some (.cells #[.int .i64 s.ep, .int .i64 s.a.e, .int .i64 s.a.b, .int .i64 s.a.k, .slice b1 s.a.M.length p1, .slice b2 s.a.C.length p2, .int .i64 s.n.e, .int .i64 s.n.b, .int .i64 s.n.k, .slice b3 s.n.M.length p3, .slice b4 s.n.C.length p4, .int .i64 s.s0, .int .i64 s.s1] 42) := heap_set_self g12 12 _
      have GI := Lib.hid g13
      have GO := Lib.hid (show Only (w.heap.size + 1 + 1) w4 (((((((((((((w4.setCell ⟨w.heap.size + 1 + 1, 0, none⟩ (.int .i64 s.ep)).setCell ⟨w.heap.size + 1 + 1, 1, none⟩ (.int .i64 s.a.e)).setCell ⟨w.heap.size + 1 + 1, 2, none⟩ (.int .i64 s.a.b)).setCell ⟨w.heap.size + 1 + 1, 3, none⟩ (.int .i64 s.a.k)).setCell ⟨w.heap.size + 1 + 1, 4, none⟩ (.slice b1 s.a.M.length p1)).setCell ⟨w.heap.size + 1 + 1, 5, none⟩ (.slice b2 s.a.C.length p2)).setCell ⟨w.heap.size + 1 + 1, 6, none⟩ (.int .i64 s.n.e)).setCell ⟨w.heap.size + 1 + 1, 7, none⟩ (.int .i64 s.n.b)).setCell ⟨w.heap.size + 1 + 1, 8, none⟩ (.int .i64 s.n.k)).setCell ⟨w.heap.size + 1 + 1, 9, none⟩ (.slice b3 s.n.M.length p3)).setCell ⟨w.heap.size + 1 + 1, 10, none⟩ (.slice b4 s.n.C.length p4)).setCell ⟨w.heap.size + 1 + 1, 11, none⟩ (.int .i64 s.s0)).setCell ⟨w.heap.size + 1 + 1, 12, none⟩ (.int .i64 s.s1)) from ((((((((((((((Only.refl _ _).set 0 _).set 1 _).set 2 _).set 3 _).set 4 _).set 5 _).set 6 _).set 7 _).set 8 _).set 9 _).set 10 _).set 11 _).set 12 _))
      clear g1 g2 g3 g4 g5 g6 g7 g8 g9 g10 g11 g12 g13
      have HB := Lib.hid hb
      have HZ := Lib.hid hz
      clear hN hC hR hb hz
      go_wp2_with fail
      generalize (((((((((((((w4.setCell ⟨w.heap.size + 1 + 1, 0, none⟩ (.int .i64 s.ep)).setCell ⟨w.heap.size + 1 + 1, 1, none⟩ (.int .i64 s.a.e)).setCell ⟨w.heap.size + 1 + 1, 2, none⟩ (.int .i64 s.a.b)).setCell ⟨w.heap.size + 1 + 1, 3, none⟩ (.int .i64 s.a.k)).setCell ⟨w.heap.size + 1 + 1, 4, none⟩ (.slice b1 s.a.M.length p1)).setCell ⟨w.heap.size + 1 + 1, 5, none⟩ (.slice b2 s.a.C.length p2)).setCell ⟨w.heap.size + 1 + 1, 6, none⟩ (.int .i64 s.n.e)).setCell ⟨w.heap.size + 1 + 1, 7, none⟩ (.int .i64 s.n.b)).setCell ⟨w.heap.size + 1 + 1, 8, none⟩ (.int .i64 s.n.k)).setCell ⟨w.heap.size + 1 + 1, 9, none⟩ (.slice b3 s.n.M.length p3)).setCell ⟨w.heap.size + 1 + 1, 10, none⟩ (.slice b4 s.n.C.length p4)).setCell ⟨w.heap.size + 1 + 1, 11, none⟩ (.int .i64 s.s0)).setCell ⟨w.heap.size + 1 + 1, 12, none⟩ (.int .i64 s.s1)) = wf at *
      have fi := GI.out
      have s0 := cell_atD fi 0 (v := .int .i64 s.ep) rfl
      have s1 := cell_atD fi 1 (v := .int .i64 s.a.e) rfl
      have s2 := cell_atD fi 2 (v := .int .i64 s.a.b) rfl
      have s3 := cell_atD fi 3 (v := .int .i64 s.a.k) rfl
      have s4 := cell_atD fi 4 (v := .slice b1 s.a.M.length p1) rfl
      have s5 := cell_atD fi 5 (v := .slice b2 s.a.C.length p2) rfl
      have s6 := cell_atD fi 6 (v := .int .i64 s.n.e) rfl
      have s7 := cell_atD fi 7 (v := .int .i64 s.n.b) rfl
      have s8 := cell_atD fi 8 (v := .int .i64 s.n.k) rfl
      have s9 := cell_atD fi 9 (v := .slice b3 s.n.M.length p3) rfl
      have s10 := cell_atD fi 10 (v := .slice b4 s.n.C.length p4) rfl
      have s11 := cell_atD fi 11 (v := .int .i64 s.s0) rfl
      have s12 := cell_atD fi 12 (v := .int .i64 s.s1) rfl
      clear fi
      refine bodyPost_ret (v := .agg #[.int .i64 s.ep, .int .i64 s.a.e, .int .i64 s.a.b, .int .i64 s.a.k, .slice b1 s.a.M.length p1, .slice b2 s.a.C.length p2, .int .i64 s.n.e, .int .i64 s.n.b, .int .i64 s.n.k, .slice b3 s.n.M.length p3, .slice b4 s.n.C.length p4, .int .i64 s.s0, .int .i64 s.s1]) (by simp [results, Try.results88, go_sem, s0, s1, s2, s3, s4, s5, s6, s7, s8, s9, s10, s11, s12]) rfl ?_
      have hz := HZ.out
      have hf : Below w.heap.size w wf := HB.out.trans (GO.out.below (B := w.heap.size) (by omega) (by omega))
      rw [hd]
      skip
      exact ⟨_, rfl, ⟨_, _, _, _, rfl, R1.out.only GO.out (by omega), R2.out.only GO.out (by omega), h3, h4⟩, hf⟩
    · have hd := do_two s c gm (by simpa using ge)
      clear gm
      obtain ⟨hN, hC, hR, hb, hz⟩ := HX.out
      clear HX
      have dC0 := cell_atD hC 0 (v := .int .i64 2) rfl
      have dC1 := cell_atD hC 1 (v := .int .i64 c.e) rfl
      have dC2 := cell_atD hC 2 (v := .int .i64 c.b) rfl
      have dC3 := cell_atD hC 3 (v := .int .i64 c.k) rfl
      have dC4 := cell_atD hC 4 (v := .slice a5 c.M.length q5) rfl
      have dC5 := cell_atD hC 5 (v := .slice a6 c.C.length q6) rfl
      have dN0 := cell_atD hN 0 (v := .int .i64 s.ep) rfl
      have dN1 := cell_atD hN 1 (v := .int .i64 s.a.e) rfl
      have dN2 := cell_atD hN 2 (v := .int .i64 s.a.b) rfl
      have dN3 := cell_atD hN 3 (v := .int .i64 s.a.k) rfl
      have dN4 := cell_atD hN 4 (v := .slice b1 s.a.M.length p1) rfl
      have dN5 := cell_atD hN 5 (v := .slice b2 s.a.C.length p2) rfl
      have dN6 := cell_atD hN 6 (v := .int .i64 s.n.e) rfl
      have dN7 := cell_atD hN 7 (v := .int .i64 s.n.b) rfl
      have dN8 := cell_atD hN 8 (v := .int .i64 s.n.k) rfl
      have dN9 := cell_atD hN 9 (v := .slice b3 s.n.M.length p3) rfl
      have dN10 := cell_atD hN 10 (v := .slice b4 s.n.C.length p4) rfl
      have dN11 := cell_atD hN 11 (v := .int .i64 s.s0) rfl
      have dN12 := cell_atD hN 12 (v := .int .i64 s.s1) rfl
      have HX := Lib.hid (And.intro hN (And.intro hC (And.intro hR (And.intro hb (hz)))))
      clear hN hC hR hb hz
      have c2 := oconf' s.n _ _ w4 R2.out.at_ h4
      go_upto_region 9 with fail
      go_wp2_with fail
      refine Calls.mono c2 ?_
      rintro ev w5 ⟨e1, n1, e2, n2, rfl, r3, hb5⟩
      clear c2 dC0 dC1 dC2 dC3 dC4 dC5 dN0 dN1 dN2 dN3 dN4 dN5 dN6 dN7 dN8 dN9 dN10 dN11 dN12
      have r3 := r3.base HX.out.2.2.2.2
      obtain ⟨hN, hC, hR, hb, hz⟩ := HX.out
      have kN := below_at hb5 (lt_heap hN) hN
      have kC := below_at hb5 (lt_heap hC) hC
      have kR := below_at hb5 (lt_heap hR) hR
      have kz : w.heap.size + 3 ≤ w5.heap.size := by have := hb5.size; omega
      have kb : Below w.heap.size w w5 := hb.trans (hb5.mono (by omega))
      clear HX hN hC hR hb hz
      have hN := kN
      have hC := kC
      have hR := kR
      have hb := kb
      have hz := kz
      clear kN kC kR kb kz
      have r2 := R2.out.below hb5
      clear hb5 R1 R2
      have R3 := Lib.hid r3
      have R2 := Lib.hid r2
      clear r3 r2
      have dN0 := cell_atD hN 0 (v := .int .i64 s.ep) rfl
      have dN1 := cell_atD hN 1 (v := .int .i64 s.a.e) rfl
      have dN2 := cell_atD hN 2 (v := .int .i64 s.a.b) rfl
      have dN3 := cell_atD hN 3 (v := .int .i64 s.a.k) rfl
      have dN4 := cell_atD hN 4 (v := .slice b1 s.a.M.length p1) rfl
      have dN5 := cell_atD hN 5 (v := .slice b2 s.a.C.length p2) rfl
      have dN6 := cell_atD hN 6 (v := .int .i64 s.n.e) rfl
      have dN7 := cell_atD hN 7 (v := .int .i64 s.n.b) rfl
      have dN8 := cell_atD hN 8 (v := .int .i64 s.n.k) rfl
      have dN9 := cell_atD hN 9 (v := .slice b3 s.n.M.length p3) rfl
      have dN10 := cell_atD hN 10 (v := .slice b4 s.n.C.length p4) rfl
      have dN11 := cell_atD hN 11 (v := .int .i64 s.s0) rfl
      have dN12 := cell_atD hN 12 (v := .int .i64 s.s1) rfl
      have fz : ∀ j, w5.frozen? ⟨w.heap.size, j, none⟩ = false := fun j => by simp [World.frozen?, hN]
      have g1 : (w5.setCell ⟨w.heap.size, 1, none⟩ (.int .i64 s.n.e)).heap[w.heap.size]? = some (.cells #[.int .i64 s.ep, .int .i64 s.n.e, .int .i64 s.a.b, .int .i64 s.a.k, .slice b1 s.a.M.length p1, .slice b2 s.a.C.length p2, .int .i64 s.n.e, .int .i64 s.n.b, .int .i64 s.n.k, .slice b3 s.n.M.length p3, .slice b4 s.n.C.length p4, .int .i64 s.s0, .int .i64 s.s1] 42) := heap_set_self hN 1 _
      have g2 : ((w5.setCell ⟨w.heap.size, 1, none⟩ (.int .i64 s.n.e)).setCell ⟨w.heap.size, 2, none⟩ (.int .i64 s.n.b)).heap[w.heap.size]? = some (.cells #[.int .i64 s.ep, .int .i64 s.n.e, .int .i64 s.n.b, .int .i64 s.a.k, .slice b1 s.a.M.length p1, .slice b2 s.a.C.length p2, .int .i64 s.n.e, .int .i64 s.n.b, .int .i64 s.n.k, .slice b3 s.n.M.length p3, .slice b4 s.n.C.length p4, .int .i64 s.s0, .int .i64 s.s1] 42) := heap_set_self g1 2 _
      have g3 : (((w5.setCell ⟨w.heap.size, 1, none⟩ (.int .i64 s.n.e)).setCell ⟨w.heap.size, 2, none⟩ (.int .i64 s.n.b)).setCell ⟨w.heap.size, 3, none⟩ (.int .i64 s.n.k)).heap[w.heap.size]? = some (.cells #[.int .i64 s.ep, .int .i64 s.n.e, .int .i64 s.n.b, .int .i64 s.n.k, .slice b1 s.a.M.length p1, .slice b2 s.a.C.length p2, .int .i64 s.n.e, .int .i64 s.n.b, .int .i64 s.n.k, .slice b3 s.n.M.length p3, .slice b4 s.n.C.length p4, .int .i64 s.s0, .int .i64 s.s1] 42) := heap_set_self g2 3 _
      have g4 : ((((w5.setCell ⟨w.heap.size, 1, none⟩ (.int .i64 s.n.e)).setCell ⟨w.heap.size, 2, none⟩ (.int .i64 s.n.b)).setCell ⟨w.heap.size, 3, none⟩ (.int .i64 s.n.k)).setCell ⟨w.heap.size, 4, none⟩ (.slice e1 s.n.M.length n1)).heap[w.heap.size]? = some (.cells #[.int .i64 s.ep, .int .i64 s.n.e, .int .i64 s.n.b, .int .i64 s.n.k, .slice e1 s.n.M.length n1, .slice b2 s.a.C.length p2, .int .i64 s.n.e, .int .i64 s.n.b, .int .i64 s.n.k, .slice b3 s.n.M.length p3, .slice b4 s.n.C.length p4, .int .i64 s.s0, .int .i64 s.s1] 42) := heap_set_self g3 4 _
      have g5 : (((((w5.setCell ⟨w.heap.size, 1, none⟩ (.int .i64 s.n.e)).setCell ⟨w.heap.size, 2, none⟩ (.int .i64 s.n.b)).setCell ⟨w.heap.size, 3, none⟩ (.int .i64 s.n.k)).setCell ⟨w.heap.size, 4, none⟩ (.slice e1 s.n.M.length n1)).setCell ⟨w.heap.size, 5, none⟩ (.slice e2 s.n.C.length n2)).heap[w.heap.size]? = some (.cells #[.int .i64 s.ep, .int .i64 s.n.e, .int .i64 s.n.b, .int .i64 s.n.k, .slice e1 s.n.M.length n1, .slice e2 s.n.C.length n2, .int .i64 s.n.e, .int .i64 s.n.b, .int .i64 s.n.k, .slice b3 s.n.M.length p3, .slice b4 s.n.C.length p4, .int .i64 s.s0, .int .i64 s.s1] 42) := heap_set_self g4 5 _
      have GI := Lib.hid g5
      have GO := Lib.hid (show Only (w.heap.size) w5 (((((w5.setCell ⟨w.heap.size, 1, none⟩ (.int .i64 s.n.e)).setCell ⟨w.heap.size, 2, none⟩ (.int .i64 s.n.b)).setCell ⟨w.heap.size, 3, none⟩ (.int .i64 s.n.k)).setCell ⟨w.heap.size, 4, none⟩ (.slice e1 s.n.M.length n1)).setCell ⟨w.heap.size, 5, none⟩ (.slice e2 s.n.C.length n2)) from ((((((Only.refl _ _).set 1 _).set 2 _).set 3 _).set 4 _).set 5 _))
      clear g1 g2 g3 g4 g5
      have HX := Lib.hid (And.intro hN (And.intro hC (And.intro hR (And.intro hb (hz)))))
      clear hN hC hR hb hz
      go_upto_region 10 with fail
      generalize (((((w5.setCell ⟨w.heap.size, 1, none⟩ (.int .i64 s.n.e)).setCell ⟨w.heap.size, 2, none⟩ (.int .i64 s.n.b)).setCell ⟨w.heap.size, 3, none⟩ (.int .i64 s.n.k)).setCell ⟨w.heap.size, 4, none⟩ (.slice e1 s.n.M.length n1)).setCell ⟨w.heap.size, 5, none⟩ (.slice e2 s.n.C.length n2)) = w6 at *
      clear fz dN0 dN1 dN2 dN3 dN4 dN5 dN6 dN7 dN8 dN9 dN10 dN11 dN12
      obtain ⟨hN, hC, hR, hb, hz⟩ := HX.out
      have kN := GI.out
      have kC : w6.heap[w.heap.size + 1]? = some _ := (GO.out.block _ (lt_heap hC) (by omega)).trans hC
      have kR : w6.heap[w.heap.size + 1 + 1]? = some _ := (GO.out.block _ (lt_heap hR) (by omega)).trans hR
      have kb : Below w.heap.size w w6 := hb.trans (GO.out.below (B := w.heap.size) (by omega) (by omega))
      have kz : w.heap.size + 3 ≤ w6.heap.size := by have := GO.out.size; omega
      have GOa := GO.out
      clear HX GI GO hN hC hR hb hz
      have hN := kN
      have hC := kC
      have hR := kR
      have hb := kb
      have hz := kz
      clear kN kC kR kb kz
      have r3 := R3.out.only GOa (by omega)
      have r2 := R2.out.only GOa (by omega)
      clear R3 R2 GOa
      have R3 := Lib.hid r3
      have R2 := Lib.hid r2
      clear r3 r2
      have dN0 := cell_atD hN 0 (v := .int .i64 s.ep) rfl
      have dN1 := cell_atD hN 1 (v := .int .i64 s.n.e) rfl
      have dN2 := cell_atD hN 2 (v := .int .i64 s.n.b) rfl
      have dN3 := cell_atD hN 3 (v := .int .i64 s.n.k) rfl
      have dN4 := cell_atD hN 4 (v := .slice e1 s.n.M.length n1) rfl
      have dN5 := cell_atD hN 5 (v := .slice e2 s.n.C.length n2) rfl
      have dN6 := cell_atD hN 6 (v := .int .i64 s.n.e) rfl
      have dN7 := cell_atD hN 7 (v := .int .i64 s.n.b) rfl
      have dN8 := cell_atD hN 8 (v := .int .i64 s.n.k) rfl
      have dN9 := cell_atD hN 9 (v := .slice b3 s.n.M.length p3) rfl
      have dN10 := cell_atD hN 10 (v := .slice b4 s.n.C.length p4) rfl
      have dN11 := cell_atD hN 11 (v := .int .i64 s.s0) rfl
      have dN12 := cell_atD hN 12 (v := .int .i64 s.s1) rfl
      have dR0 := cell_atD hR 0 (v := .int .i64 0) rfl
      have dR1 := cell_atD hR 1 (v := .int .i64 0) rfl
      have dR2 := cell_atD hR 2 (v := .int .i64 0) rfl
      have dR3 := cell_atD hR 3 (v := .int .i64 0) rfl
      have dR4 := cell_atD hR 4 (v := .slice none 0 0) rfl
      have dR5 := cell_atD hR 5 (v := .slice none 0 0) rfl
      have dR6 := cell_atD hR 6 (v := .int .i64 0) rfl
      have dR7 := cell_atD hR 7 (v := .int .i64 0) rfl
      have dR8 := cell_atD hR 8 (v := .int .i64 0) rfl
      have dR9 := cell_atD hR 9 (v := .slice none 0 0) rfl
      have dR10 := cell_atD hR 10 (v := .slice none 0 0) rfl
      have dR11 := cell_atD hR 11 (v := .int .i64 0) rfl
      have dR12 := cell_atD hR 12 (v := .int .i64 0) rfl
      have fz : ∀ j, w6.frozen? ⟨w.heap.size + 1 + 1, j, none⟩ = false := fun j => by simp [World.frozen?, hR]
      have g1 : (w6.setCell ⟨w.heap.size + 1 + 1, 0, none⟩ (.int .i64 s.ep)).heap[w.heap.size + 1 + 1]? = some (.cells #[.int .i64 s.ep, .int .i64 0, .int .i64 0, .int .i64 0, .slice none 0 0, .slice none 0 0, .int .i64 0, .int .i64 0, .int .i64 0, .slice none 0 0, .slice none 0 0, .int .i64 0, .int .i64 0] 42) := heap_set_self hR 0 _
      have g2 : ((w6.setCell ⟨w.heap.size + 1 + 1, 0, none⟩ (.int .i64 s.ep)).setCell ⟨w.heap.size + 1 + 1, 1, none⟩ (.int .i64 s.n.e)).heap[w.heap.size + 1 + 1]? = some (.cells #[.int .i64 s.ep, .int .i64 s.n.e, .int .i64 0, .int .i64 0, .slice none 0 0, .slice none 0 0, .int .i64 0, .int .i64 0, .int .i64 0, .slice none 0 0, .slice none 0 0, .int .i64 0, .int .i64 0] 42) := heap_set_self g1 1 _
      have g3 : (((w6.setCell ⟨w.heap.size + 1 + 1, 0, none⟩ (.int .i64 s.ep)).setCell ⟨w.heap.size + 1 + 1, 1, none⟩ (.int .i64 s.n.e)).setCell ⟨w.heap.size + 1 + 1, 2, none⟩ (.int .i64 s.n.b)).heap[w.heap.size + 1 + 1]? = some (.cells #[.int .i64 s.ep, .int .i64 s.n.e, .int .i64 s.n.b, .int .i64 0, .slice none 0 0, .slice none 0 0, .int .i64 0, .int .i64 0, .int .i64 0, .slice none 0 0, .slice none 0 0, .int .i64 0, .int .i64 0] 42) := heap_set_self g2 2 _
      have g4 : ((((w6.setCell ⟨w.heap.size + 1 + 1, 0, none⟩ (.int .i64 s.ep)).setCell ⟨w.heap.size + 1 + 1, 1, none⟩ (.int .i64 s.n.e)).setCell ⟨w.heap.size + 1 + 1, 2, none⟩ (.int .i64 s.n.b)).setCell ⟨w.heap.size + 1 + 1, 3, none⟩ (.int .i64 s.n.k)).heap[w.heap.size + 1 + 1]? = some (.cells #[.int .i64 s.ep, .int .i64 s.n.e, .int .i64 s.n.b, .int .i64 s.n.k, .slice none 0 0, .slice none 0 0, .int .i64 0, .int .i64 0, .int .i64 0, .slice none 0 0, .slice none 0 0, .int .i64 0, .int .i64 0] 42) := heap_set_self g3 3 _
      have g5 : (((((w6.setCell ⟨w.heap.size + 1 + 1, 0, none⟩ (.int .i64 s.ep)).setCell ⟨w.heap.size + 1 + 1, 1, none⟩ (.int .i64 s.n.e)).setCell ⟨w.heap.size + 1 + 1, 2, none⟩ (.int .i64 s.n.b)).setCell ⟨w.heap.size + 1 + 1, 3, none⟩ (.int .i64 s.n.k)).setCell ⟨w.heap.size + 1 + 1, 4, none⟩ (.slice e1 s.n.M.length n1)).heap[w.heap.size + 1 + 1]? = some (.cells #[.int .i64 s.ep, .int .i64 s.n.e, .int .i64 s.n.b, .int .i64 s.n.k, .slice e1 s.n.M.length n1, .slice none 0 0, .int .i64 0, .int .i64 0, .int .i64 0, .slice none 0 0, .slice none 0 0, .int .i64 0, .int .i64 0] 42) := heap_set_self g4 4 _
      have g6 : ((((((w6.setCell ⟨w.heap.size + 1 + 1, 0, none⟩ (.int .i64 s.ep)).setCell ⟨w.heap.size + 1 + 1, 1, none⟩ (.int .i64 s.n.e)).setCell ⟨w.heap.size + 1 + 1, 2, none⟩ (.int .i64 s.n.b)).setCell ⟨w.heap.size + 1 + 1, 3, none⟩ (.int .i64 s.n.k)).setCell ⟨w.heap.size + 1 + 1, 4, none⟩ (.slice e1 s.n.M.length n1)).setCell ⟨w.heap.size + 1 + 1, 5, none⟩ (.slice e2 s.n.C.length n2)).heap[w.heap.size + 1 + 1]? = some (.cells #[.int .i64 s.ep, .int .i64 s.n.e, .int .i64 s.n.b, .int .i64 s.n.k, .slice e1 s.n.M.length n1, .slice e2 s.n.C.length n2, .int .i64 0, .int .i64 0, .int .i64 0, .slice none 0 0, .slice none 0 0, .int .i64 0, .int .i64 0] 42) := heap_set_self g5 5 _
      have g7 : (((((((w6.setCell ⟨w.heap.size + 1 + 1, 0, none⟩ (.int .i64 s.ep)).setCell ⟨w.heap.size + 1 + 1, 1, none⟩ (.int .i64 s.n.e)).setCell ⟨w.heap.size + 1 + 1, 2, none⟩ (.int .i64 s.n.b)).setCell ⟨w.heap.size + 1 + 1, 3, none⟩ (.int .i64 s.n.k)).setCell ⟨w.heap.size + 1 + 1, 4, none⟩ (.slice e1 s.n.M.length n1)).setCell ⟨w.heap.size + 1 + 1, 5, none⟩ (.slice e2 s.n.C.length n2)).setCell ⟨w.heap.size + 1 + 1, 6, none⟩ (.int .i64 s.n.e)).heap[w.heap.size + 1 + 1]? = some (.cells #[.int .i64 s.ep, .int .i64 s.n.e, .int .i64 s.n.b, .int .i64 s.n.k, .slice e1 s.n.M.length n1, .slice e2 s.n.C.length n2, .int .i64 s.n.e, .int .i64 0, .int .i64 0, .slice none 0 0, .slice none 0 0, .int .i64 0, .int .i64 0] 42) := heap_set_self g6 6 _
      have g8 : ((((((((w6.setCell ⟨w.heap.size + 1 + 1, 0, none⟩ (.int .i64 s.ep)).setCell ⟨w.heap.size + 1 + 1, 1, none⟩ (.int .i64 s.n.e)).setCell ⟨w.heap.size + 1 + 1, 2, none⟩ (.int .i64 s.n.b)).setCell ⟨w.heap.size + 1 + 1, 3, none⟩ (.int .i64 s.n.k)).setCell ⟨w.heap.size + 1 + 1, 4, none⟩ (.slice e1 s.n.M.length n1)).setCell ⟨w.heap.size + 1 + 1, 5, none⟩ (.slice e2 s.n.C.length n2)).setCell ⟨w.heap.size + 1 + 1, 6, none⟩ (.int .i64 s.n.e)).setCell ⟨w.heap.size + 1 + 1, 7, none⟩ (.int .i64 s.n.b)).heap[w.heap.size + 1 + 1]? = some (.cells #[.int .i64 s.ep, .int .i64 s.n.e, .int .i64 s.n.b, .int .i64 s.n.k, .slice e1 s.n.M.length n1, .slice e2 s.n.C.length n2, .int .i64 s.n.e, .int .i64 s.n.b, .int .i64 0, .slice none 0 0, .slice none 0 0, .int .i64 0, .int .i64 0] 42) := heap_set_self g7 7 _
      have g9 : (((((((((w6.setCell ⟨w.heap.size + 1 + 1, 0, none⟩ (.int .i64 s.ep)).setCell ⟨w.heap.size + 1 + 1, 1, none⟩ (.int .i64 s.n.e)).setCell ⟨w.heap.size + 1 + 1, 2, none⟩ (.int .i64 s.n.b)).setCell ⟨w.heap.size + 1 + 1, 3, none⟩ (.int .i64 s.n.k)).setCell ⟨w.heap.size + 1 + 1, 4, none⟩ (.slice e1 s.n.M.length n1)).setCell ⟨w.heap.size + 1 + 1, 5, none⟩ (.slice e2 s.n.C.length n2)).setCell ⟨w.heap.size + 1 + 1, 6, none⟩ (.int .i64 s.n.e)).setCell ⟨w.heap.size + 1 + 1, 7, none⟩ (.int .i64 s.n.b)).setCell ⟨w.heap.size + 1 + 1, 8, none⟩ (.int .i64 s.n.k)).heap[w.heap.size + 1 + 1]? = some (.cells #[.int .i64 s.ep, .int .i64 s.n.e, .int .i64 s.n.b, .int .i64 s.n.k, .slice e1 s.n.M.length n1, .slice e2 s.n.C.length n2, .int .i64 s.n.e, .int .i64 s.n.b, .int .i64 s.n.k, .slice none 0 0, .slice none 0 0, .int .i64 0, .int .i64 0] 42) := heap_set_self g8 8 _
      have g10 : ((((((((((w6.setCell ⟨w.heap.size + 1 + 1, 0, none⟩ (.int .i64 s.ep)).setCell ⟨w.heap.size + 1 + 1, 1, none⟩ (.int .i64 s.n.e)).setCell ⟨w.heap.size + 1 + 1, 2, none⟩ (.int .i64 s.n.b)).setCell ⟨w.heap.size + 1 + 1, 3, none⟩ (.int .i64 s.n.k)).setCell ⟨w.heap.size + 1 + 1, 4, none⟩ (.slice e1 s.n.M.length n1)).setCell ⟨w.heap.size + 1 + 1, 5, none⟩ (.slice e2 s.n.C.length n2)).setCell ⟨w.heap.size + 1 + 1, 6, none⟩ (.int .i64 s.n.e)).setCell ⟨w.heap.size + 1 + 1, 7, none⟩ (.int .i64 s.n.b)).setCell ⟨w.heap.size + 1 + 1, 8, none⟩ (.int .i64 s.n.k)).setCell ⟨w.heap.size + 1 + 1, 9, none⟩ (.slice b3 s.n.M.length p3)).heap[w.heap.size + 1 + 1]? = some (.cells #[.int .i64 s.ep, .int .i64 s.n.e, .int .i64 s.n.b, .int .i64 s.n.k, .slice e1 s.n.M.length n1, .slice e2 s.n.C.length n2, .int .i64 s.n.e, .int .i64 s.n.b, .int .i64 s.n.k, .slice b3 s.n.M.length p3, .slice none 0 0, .int .i64 0, .int .i64 0] 42) := heap_set_self g9 9 _
      have g11 : (((((((((((w6.setCell ⟨w.heap.size + 1 + 1, 0, none⟩ (.int .i64 s.ep)).setCell ⟨w.heap.size + 1 + 1, 1, none⟩ (.int .i64 s.n.e)).setCell ⟨w.heap.size + 1 + 1, 2, none⟩ (.int .i64 s.n.b)).setCell ⟨w.heap.size + 1 + 1, 3, none⟩ (.int .i64 s.n.k)).setCell ⟨w.heap.size + 1 + 1, 4, none⟩ (.slice e1 s.n.M.length n1)).setCell ⟨w.heap.size + 1 + 1, 5, none⟩ (.slice e2 s.n.C.length n2)).setCell ⟨w.heap.size + 1 + 1, 6, none⟩ (.int .i64 s.n.e)).setCell ⟨w.heap.size + 1 + 1, 7, none⟩ (.int .i64 s.n.b)).setCell ⟨w.heap.size + 1 + 1, 8, none⟩ (.int .i64 s.n.k)).setCell ⟨w.heap.size + 1 + 1, 9, none⟩ (.slice b3 s.n.M.length p3)).setCell ⟨w.heap.size + 1 + 1, 10, none⟩ (.slice b4 s.n.C.length p4)).heap[w.heap.size + 1 + 1]? = some (.cells #[.int .i64 s.ep, .int .i64 s.n.e, .int .i64 s.n.b, .int .i64 s.n.k, .slice e1 s.n.M.length n1, .slice e2 s.n.C.length n2, .int .i64 s.n.e, .int .i64 s.n.b, .int .i64 s.n.k, .slice b3 s.n.M.length p3, .slice b4 s.n.C.length p4, .int .i64 0, .int .i64 0] 42) := heap_set_self g10 10 _
      have g12 : ((((((((((((w6.setCell ⟨w.heap.size + 1 + 1, 0, none⟩ (.int .i64 s.ep)).setCell ⟨w.heap.size + 1 + 1, 1, none⟩ (.int .i64 s.n.e)).setCell ⟨w.heap.size + 1 + 1, 2, none⟩ (.int .i64 s.n.b)).setCell ⟨w.heap.size + 1 + 1, 3, none⟩ (.int .i64 s.n.k)).setCell ⟨w.heap.size + 1 + 1, 4, none⟩ (.slice e1 s.n.M.length n1)).setCell ⟨w.heap.size + 1 + 1, 5, none⟩ (.slice e2 s.n.C.length n2)).setCell ⟨w.heap.size + 1 + 1, 6, none⟩ (.int .i64 s.n.e)).setCell ⟨w.heap.size + 1 + 1, 7, none⟩ (.int .i64 s.n.b)).setCell ⟨w.heap.size + 1 + 1, 8, none⟩ (.int .i64 s.n.k)).setCell ⟨w.heap.size + 1 + 1, 9, none⟩ (.slice b3 s.n.M.length p3)).setCell ⟨w.heap.size + 1 + 1, 10, none⟩ (.slice b4 s.n.C.length p4)).setCell ⟨w.heap.size + 1 + 1, 11, none⟩ (.int .i64 s.s0)).heap[w.heap.size + 1 + 1]? = some (.cells #[.int .i64 s.ep, .int .i64 s.n.e, .int .i64 s.n.b, .int .i64 s.n.k, .slice e1 s.n.M.length n1, .slice e2 s.n.C.length n2, .int .i64 s.n.e, .int .i64 s.n.b, .int .i64 s.n.k, .slice b3 s.n.M.length p3, .slice b4 s.n.C.length p4, .int .i64 s.s0, .int .i64 0] 42) := heap_set_self g11 11 _
      have g13 : (((((((((((((w6.setCell ⟨w.heap.size + 1 + 1, 0, none⟩ (.int .i64 s.ep)).setCell ⟨w.heap.size + 1 + 1, 1, none⟩ (.int .i64 s.n.e)).setCell ⟨w.heap.size + 1 + 1, 2, none⟩ (.int .i64 s.n.b)).setCell ⟨w.heap.size + 1 + 1, 3, none⟩ (.int .i64 s.n.k)).setCell ⟨w.heap.size + 1 + 1, 4, none⟩ (.slice e1 s.n.M.length n1)).setCell ⟨w.heap.size + 1 + 1, 5, none⟩ (.slice e2 s.n.C.length n2)).setCell ⟨w.heap.size + 1 + 1, 6, none⟩ (.int .i64 s.n.e)).setCell ⟨w.heap.size + 1 + 1, 7, none⟩ (.int .i64 s.n.b)).setCell ⟨w.heap.size + 1 + 1, 8, none⟩ (.int .i64 s.n.k)).setCell ⟨w.heap.size + 1 + 1, 9, none⟩ (.slice b3 s.n.M.length p3)).setCell ⟨w.heap.size + 1 + 1, 10, none⟩ (.slice b4 s.n.C.length p4)).setCell ⟨w.heap.size + 1 + 1, 11, none⟩ (.int .i64 s.s0)).setCell ⟨w.heap.size + 1 + 1, 12, none⟩ (.int .i64 s.s1)).heap[w.heap.size + 1 + 1]? = some (.cells #[.int .i64 s.ep, .int .i64 s.n.e, .int .i64 s.n.b, .int .i64 s.n.k, .slice e1 s.n.M.length n1, .slice e2 s.n.C.length n2, .int .i64 s.n.e, .int .i64 s.n.b, .int .i64 s.n.k, .slice b3 s.n.M.length p3, .slice b4 s.n.C.length p4, .int .i64 s.s0, .int .i64 s.s1] 42) := heap_set_self g12 12 _
      have GI := Lib.hid g13
      have GO := Lib.hid (show Only (w.heap.size + 1 + 1) w6 (((((((((((((w6.setCell ⟨w.heap.size + 1 + 1, 0, none⟩ (.int .i64 s.ep)).setCell ⟨w.heap.size + 1 + 1, 1, none⟩ (.int .i64 s.n.e)).setCell ⟨w.heap.size + 1 + 1, 2, none⟩ (.int .i64 s.n.b)).setCell ⟨w.heap.size + 1 + 1, 3, none⟩ (.int .i64 s.n.k)).setCell ⟨w.heap.size + 1 + 1, 4, none⟩ (.slice e1 s.n.M.length n1)).setCell ⟨w.heap.size + 1 + 1, 5, none⟩ (.slice e2 s.n.C.length n2)).setCell ⟨w.heap.size + 1 + 1, 6, none⟩ (.int .i64 s.n.e)).setCell ⟨w.heap.size + 1 + 1, 7, none⟩ (.int .i64 s.n.b)).setCell ⟨w.heap.size + 1 + 1, 8, none⟩ (.int .i64 s.n.k)).setCell ⟨w.heap.size + 1 + 1, 9, none⟩ (.slice b3 s.n.M.length p3)).setCell ⟨w.heap.size + 1 + 1, 10, none⟩ (.slice b4 s.n.C.length p4)).setCell ⟨w.heap.size + 1 + 1, 11, none⟩ (.int .i64 s.s0)).setCell ⟨w.heap.size + 1 + 1, 12, none⟩ (.int .i64 s.s1)) from ((((((((((((((Only.refl _ _).set 0 _).set 1 _).set 2 _).set 3 _).set 4 _).set 5 _).set 6 _).set 7 _).set 8 _).set 9 _).set 10 _).set 11 _).set 12 _))
      clear g1 g2 g3 g4 g5 g6 g7 g8 g9 g10 g11 g12 g13
      have HB := Lib.hid hb
      have HZ := Lib.hid hz
      clear hN hC hR hb hz
      go_wp2_with fail
      generalize (((((((((((((w6.setCell ⟨w.heap.size + 1 + 1, 0, none⟩ (.int .i64 s.ep)).setCell ⟨w.heap.size + 1 + 1, 1, none⟩ (.int .i64 s.n.e)).setCell ⟨w.heap.size + 1 + 1, 2, none⟩ (.int .i64 s.n.b)).setCell ⟨w.heap.size + 1 + 1, 3, none⟩ (.int .i64 s.n.k)).setCell ⟨w.heap.size + 1 + 1, 4, none⟩ (.slice e1 s.n.M.length n1)).setCell ⟨w.heap.size + 1 + 1, 5, none⟩ (.slice e2 s.n.C.length n2)).setCell ⟨w.heap.size + 1 + 1, 6, none⟩ (.int .i64 s.n.e)).setCell ⟨w.heap.size + 1 + 1, 7, none⟩ (.int .i64 s.n.b)).setCell ⟨w.heap.size + 1 + 1, 8, none⟩ (.int .i64 s.n.k)).setCell ⟨w.heap.size + 1 + 1, 9, none⟩ (.slice b3 s.n.M.length p3)).setCell ⟨w.heap.size + 1 + 1, 10, none⟩ (.slice b4 s.n.C.length p4)).setCell ⟨w.heap.size + 1 + 1, 11, none⟩ (.int .i64 s.s0)).setCell ⟨w.heap.size + 1 + 1, 12, none⟩ (.int .i64 s.s1)) = wf at *
      have fi := GI.out
      have s0 := cell_atD fi 0 (v := .int .i64 s.ep) rfl
      have s1 := cell_atD fi 1 (v := .int .i64 s.n.e) rfl
      have s2 := cell_atD fi 2 (v := .int .i64 s.n.b) rfl
      have s3 := cell_atD fi 3 (v := .int .i64 s.n.k) rfl
      have s4 := cell_atD fi 4 (v := .slice e1 s.n.M.length n1) rfl
      have s5 := cell_atD fi 5 (v := .slice e2 s.n.C.length n2) rfl
      have s6 := cell_atD fi 6 (v := .int .i64 s.n.e) rfl
      have s7 := cell_atD fi 7 (v := .int .i64 s.n.b) rfl
      have s8 := cell_atD fi 8 (v := .int .i64 s.n.k) rfl
      have s9 := cell_atD fi 9 (v := .slice b3 s.n.M.length p3) rfl
      have s10 := cell_atD fi 10 (v := .slice b4 s.n.C.length p4) rfl
      have s11 := cell_atD fi 11 (v := .int .i64 s.s0) rfl
      have s12 := cell_atD fi 12 (v := .int .i64 s.s1) rfl
      clear fi
      refine bodyPost_ret (v := .agg #[.int .i64 s.ep, .int .i64 s.n.e, .int .i64 s.n.b, .int .i64 s.n.k, .slice e1 s.n.M.length n1, .slice e2 s.n.C.length n2, .int .i64 s.n.e, .int .i64 s.n.b, .int .i64 s.n.k, .slice b3 s.n.M.length p3, .slice b4 s.n.C.length p4, .int .i64 s.s0, .int .i64 s.s1]) (by simp [results, Try.results88, go_sem, s0, s1, s2, s3, s4, s5, s6, s7, s8, s9, s10, s11, s12]) rfl ?_
      have hz := HZ.out
      have hf : Below w.heap.size w wf := HB.out.trans (GO.out.below (B := w.heap.size) (by omega) (by omega))
      rw [hd]
      exact ⟨_, rfl, ⟨_, _, _, _, rfl, R3.out.only GO.out (by omega), R2.out.only GO.out (by omega), h4, h4⟩, hf⟩
  have x0 : x = 0 := may_kind gm x1 x2
  subst x0
  have hd := do_none s c
  clear gm
  obtain ⟨hN, hC, hR, hb, hz⟩ := HX.out
  clear HX
  have dC0 := cell_atD hC 0 (v := .int .i64 0) rfl
  have dC1 := cell_atD hC 1 (v := .int .i64 c.e) rfl
  have dC2 := cell_atD hC 2 (v := .int .i64 c.b) rfl
  have dC3 := cell_atD hC 3 (v := .int .i64 c.k) rfl
  have dC4 := cell_atD hC 4 (v := .slice a5 c.M.length q5) rfl
  have dC5 := cell_atD hC 5 (v := .slice a6 c.C.length q6) rfl
  have dN0 := cell_atD hN 0 (v := .int .i64 s.ep) rfl
  have dN1 := cell_atD hN 1 (v := .int .i64 s.a.e) rfl
  have dN2 := cell_atD hN 2 (v := .int .i64 s.a.b) rfl
  have dN3 := cell_atD hN 3 (v := .int .i64 s.a.k) rfl
  have dN4 := cell_atD hN 4 (v := .slice b1 s.a.M.length p1) rfl
  have dN5 := cell_atD hN 5 (v := .slice b2 s.a.C.length p2) rfl
  have dN6 := cell_atD hN 6 (v := .int .i64 s.n.e) rfl
  have dN7 := cell_atD hN 7 (v := .int .i64 s.n.b) rfl
  have dN8 := cell_atD hN 8 (v := .int .i64 s.n.k) rfl
  have dN9 := cell_atD hN 9 (v := .slice b3 s.n.M.length p3) rfl
  have dN10 := cell_atD hN 10 (v := .slice b4 s.n.C.length p4) rfl
  have dN11 := cell_atD hN 11 (v := .int .i64 s.s0) rfl
  have dN12 := cell_atD hN 12 (v := .int .i64 s.s1) rfl
  have HX := Lib.hid (And.intro hN (And.intro hC (And.intro hR (And.intro hb (hz)))))
  clear hN hC hR hb hz
  go_upto_region 10 with fail
  obtain ⟨hN, hC, hR, hb, hz⟩ := HX.out
  clear HX dC0 dC1 dC2 dC3 dC4 dC5 dN0 dN1 dN2 dN3 dN4 dN5 dN6 dN7 dN8 dN9 dN10 dN11 dN12
  have dN0 := cell_atD hN 0 (v := .int .i64 s.ep) rfl
  have dN1 := cell_atD hN 1 (v := .int .i64 s.a.e) rfl
  have dN2 := cell_atD hN 2 (v := .int .i64 s.a.b) rfl
  have dN3 := cell_atD hN 3 (v := .int .i64 s.a.k) rfl
  have dN4 := cell_atD hN 4 (v := .slice b1 s.a.M.length p1) rfl
  have dN5 := cell_atD hN 5 (v := .slice b2 s.a.C.length p2) rfl
  have dN6 := cell_atD hN 6 (v := .int .i64 s.n.e) rfl
  have dN7 := cell_atD hN 7 (v := .int .i64 s.n.b) rfl
  have dN8 := cell_atD hN 8 (v := .int .i64 s.n.k) rfl
  have dN9 := cell_atD hN 9 (v := .slice b3 s.n.M.length p3) rfl
  have dN10 := cell_atD hN 10 (v := .slice b4 s.n.C.length p4) rfl
  have dN11 := cell_atD hN 11 (v := .int .i64 s.s0) rfl
  have dN12 := cell_atD hN 12 (v := .int .i64 s.s1) rfl
  have dR0 := cell_atD hR 0 (v := .int .i64 0) rfl
  have dR1 := cell_atD hR 1 (v := .int .i64 0) rfl
  have dR2 := cell_atD hR 2 (v := .int .i64 0) rfl
  have dR3 := cell_atD hR 3 (v := .int .i64 0) rfl
  have dR4 := cell_atD hR 4 (v := .slice none 0 0) rfl
  have dR5 := cell_atD hR 5 (v := .slice none 0 0) rfl
  have dR6 := cell_atD hR 6 (v := .int .i64 0) rfl
  have dR7 := cell_atD hR 7 (v := .int .i64 0) rfl
  have dR8 := cell_atD hR 8 (v := .int .i64 0) rfl
  have dR9 := cell_atD hR 9 (v := .slice none 0 0) rfl
  have dR10 := cell_atD hR 10 (v := .slice none 0 0) rfl
  have dR11 := cell_atD hR 11 (v := .int .i64 0) rfl
  have dR12 := cell_atD hR 12 (v := .int .i64 0) rfl
  have fz : ∀ j, w4.frozen? ⟨w.heap.size + 1 + 1, j, none⟩ = false := fun j => by simp [World.frozen?, hR]
  have g1 : (w4.setCell ⟨w.heap.size + 1 + 1, 0, none⟩ (.int .i64 s.ep)).heap[w.heap.size + 1 + 1]? = some (.cells #[.int .i64 s.ep, .int .i64 0, .int .i64 0, .int .i64 0, .slice none 0 0, .slice none 0 0, .int .i64 0, .int .i64 0, .int .i64 0, .slice none 0 0, .slice none 0 0, .int .i64 0, .int .i64 0] 42) := heap_set_self hR 0 _
  have g2 : ((w4.setCell ⟨w.heap.size + 1 + 1, 0, none⟩ (.int .i64 s.ep)).setCell ⟨w.heap.size + 1 + 1, 1, none⟩ (.int .i64 s.a.e)).heap[w.heap.size + 1 + 1]? = some (.cells #[.int .i64 s.ep, .int .i64 s.a.e, .int .i64 0, .int .i64 0, .slice none 0 0, .slice none 0 0, .int .i64 0, .int .i64 0, .int .i64 0, .slice none 0 0, .slice none 0 0, .int .i64 0, .int .i64 0] 42) := heap_set_self g1 1 _
  have g3 : (((w4.setCell ⟨w.heap.size + 1 + 1, 0, none⟩ (.int .i64 s.ep)).setCell ⟨w.heap.size + 1 + 1, 1, none⟩ (.int .i64 s.a.e)).setCell ⟨w.heap.size + 1 + 1, 2, none⟩ (.int .i64 s.a.b)).heap[w.heap.size + 1 + 1]? = some (.cells #[.int .i64 s.ep, .int .i64 s.a.e, .int .i64 s.a.b, .int .i64 0, .slice none 0 0, .slice none 0 0, .int .i64 0, .int .i64 0, .int .i64 0, .slice none 0 0, .slice none 0 0, .int .i64 0, .int .i64 0] 42) := heap_set_self g2 2 _
  have g4 : ((((w4.setCell ⟨w.heap.size + 1 + 1, 0, none⟩ (.int .i64 s.ep)).setCell ⟨w.heap.size + 1 + 1, 1, none⟩ (.int .i64 s.a.e)).setCell ⟨w.heap.size + 1 + 1, 2, none⟩ (.int .i64 s.a.b)).setCell ⟨w.heap.size + 1 + 1, 3, none⟩ (.int .i64 s.a.k)).heap[w.heap.size + 1 + 1]? = some (.cells #[.int .i64 s.ep, .int .i64 s.a.e, .int .i64 s.a.b, .int .i64 s.a.k, .slice none 0 0, .slice none 0 0, .int .i64 0, .int .i64 0, .int .i64 0, .slice none 0 0, .slice none 0 0, .int .i64 0, .int .i64 0] 42) := heap_set_self g3 3 _
  have g5 : (((((w4.setCell ⟨w.heap.size + 1 + 1, 0, none⟩ (.int .i64 s.ep)).setCell ⟨w.heap.size + 1 + 1, 1, none⟩ (.int .i64 s.a.e)).setCell ⟨w.heap.size + 1 + 1, 2, none⟩ (.int .i64 s.a.b)).setCell ⟨w.heap.size + 1 + 1, 3, none⟩ (.int .i64 s.a.k)).setCell ⟨w.heap.size + 1 + 1, 4, none⟩ (.slice b1 s.a.M.length p1)).heap[w.heap.size + 1 + 1]? = some (.cells #[.int .i64 s.ep, .int .i64 s.a.e, .int .i64 s.a.b, .int .i64 s.a.k, .slice b1 s.a.M.length p1, .slice none 0 0, .int .i64 0, .int .i64 0, .int .i64 0, .slice none 0 0, .slice none 0 0, .int .i64 0, .int .i64 0] 42) := heap_set_self g4 4 _
  have g6 : ((((((w4.setCell ⟨w.heap.size + 1 + 1, 0, none⟩ (.int .i64 s.ep)).setCell ⟨w.heap.size + 1 + 1, 1, none⟩ (.int .i64 s.a.e)).setCell ⟨w.heap.size + 1 + 1, 2, none⟩ (.int .i64 s.a.b)).setCell ⟨w.heap.size + 1 + 1, 3, none⟩ (.int .i64 s.a.k)).setCell ⟨w.heap.size + 1 + 1, 4, none⟩ (.slice b1 s.a.M.length p1)).setCell ⟨w.heap.size + 1 + 1, 5, none⟩ (.slice b2 s.a.C.length p2)).heap[w.heap.size + 1 + 1]? = some (.cells #[.int .i64 s.ep, .int .i64 s.a.e, .int .i64 s.a.b, .int .i64 s.a.k, .slice b1 s.a.M.length p1, .slice b2 s.a.C.length p2, .int .i64 0, .int .i64 0, .int .i64 0, .slice none 0 0, .slice none 0 0, .int .i64 0, .int .i64 0] 42) := heap_set_self g5 5 _
  have g7 : (((((((w4.setCell ⟨w.heap.size + 1 + 1, 0, none⟩ (.int .i64 s.ep)).setCell ⟨w.heap.size + 1 + 1, 1, none⟩ (.int .i64 s.a.e)).setCell ⟨w.heap.size + 1 + 1, 2, none⟩ (.int .i64 s.a.b)).setCell ⟨w.heap.size + 1 + 1, 3, none⟩ (.int .i64 s.a.k)).setCell ⟨w.heap.size + 1 + 1, 4, none⟩ (.slice b1 s.a.M.length p1)).setCell ⟨w.heap.size + 1 + 1, 5, none⟩ (.slice b2 s.a.C.length p2)).setCell ⟨w.heap.size + 1 + 1, 6, none⟩ (.int .i64 s.n.e)).heap[w.heap.size + 1 + 1]? = some (.cells #[.int .i64 s.ep, .int .i64 s.a.e, .int .i64 s.a.b, .int .i64 s.a.k, .slice b1 s.a.M.length p1, .slice b2 s.a.C.length p2, .int .i64 s.n.e, .int .i64 0, .int .i64 0, .slice none 0 0, .slice none 0 0, .int .i64 0, .int .i64 0] 42) := heap_set_self g6 6 _
  have g8 : ((((((((w4.setCell ⟨w.heap.size + 1 + 1, 0, none⟩ (.int .i64 s.ep)).setCell ⟨w.heap.size + 1 + 1, 1, none⟩ (.int .i64 s.a.e)).setCell ⟨w.heap.size + 1 + 1, 2, none⟩ (.int .i64 s.a.b)).setCell ⟨w.heap.size + 1 + 1, 3, none⟩ (.int .i64 s.a.k)).setCell ⟨w.heap.size + 1 + 1, 4, none⟩ (.slice b1 s.a.M.length p1)).setCell ⟨w.heap.size + 1 + 1, 5, none⟩ (.slice b2 s.a.C.length p2)).setCell ⟨w.heap.size + 1 + 1, 6, none⟩ (.int .i64 s.n.e)).setCell ⟨w.heap.size + 1 + 1, 7, none⟩ (.int .i64 s.n.b)).heap[w.heap.size + 1 + 1]? = some (.cells #[.int .i64 s.ep, .int .i64 s.a.e, .int .i64 s.a.b, .int .i64 s.a.k, .slice b1 s.a.M.length p1, .slice b2 s.a.C.length p2, .int .i64 s.n.e, .int .i64 s.n.b, .int .i64 0, .slice none 0 0, .slice none 0 0, .int .i64 0, .int .i64 0] 42) := heap_set_self g7 7 _
  have g9 : (((((((((w4.setCell ⟨w.heap.size + 1 + 1, 0, none⟩ (.int .i64 s.ep)).setCell ⟨w.heap.size + 1 + 1, 1, none⟩ (.int .i64 s.a.e)).setCell ⟨w.heap.size + 1 + 1, 2, none⟩ (.int .i64 s.a.b)).setCell ⟨w.heap.size + 1 + 1, 3, none⟩ (.int .i64 s.a.k)).setCell ⟨w.heap.size + 1 + 1, 4, none⟩ (.slice b1 s.a.M.length p1)).setCell ⟨w.heap.size + 1 + 1, 5, none⟩ (.slice b2 s.a.C.length p2)).setCell ⟨w.heap.size + 1 + 1, 6, none⟩ (.int .i64 s.n.e)).setCell ⟨w.heap.size + 1 + 1, 7, none⟩ (.int .i64 s.n.b)).setCell ⟨w.heap.size + 1 + 1, 8, none⟩ (.int .i64 s.n.k)).heap[w.heap.size + 1 + 1]? = some (.cells #[.int .i64 s.ep, .int .i64 s.a.e, .int .i64 s.a.b, .int .i64 s.a.k, .slice b1 s.a.M.length p1, .slice b2 s.a.C.length p2, .int .i64 s.n.e, .int .i64 s.n.b, .int .i64 s.n.k, .slice none 0 0, .slice none 0 0, .int .i64 0, .int .i64 0] 42) := heap_set_self g8 8 _
  have g10 : ((((((((((w4.setCell ⟨w.heap.size + 1 + 1, 0, none⟩ (.int .i64 s.ep)).setCell ⟨w.heap.size + 1 + 1, 1, none⟩ (.int .i64 s.a.e)).setCell ⟨w.heap.size + 1 + 1, 2, none⟩ (.int .i64 s.a.b)).setCell ⟨w.heap.size + 1 + 1, 3, none⟩ (.int .i64 s.a.k)).setCell ⟨w.heap.size + 1 + 1, 4, none⟩ (.slice b1 s.a.M.length p1)).setCell ⟨w.heap.size + 1 + 1, 5, none⟩ (.slice b2 s.a.C.length p2)).setCell ⟨w.heap.size + 1 + 1, 6, none⟩ (.int .i64 s.n.e)).setCell ⟨w.heap.size + 1 + 1, 7, none⟩ (.int .i64 s.n.b)).setCell ⟨w.heap.size + 1 + 1, 8, none⟩ (.int .i64 s.n.k)).setCell ⟨w.heap.size + 1 + 1, 9, none⟩ (.slice b3 s.n.M.length p3)).heap[w.heap.size + 1 + 1]? = some (.cells #[.int .i64 s.ep, .int .i64 s.a.e, .int .i64 s.a.b, .int .i64 s.a.k, .slice b1 s.a.M.length p1, .slice b2 s.a.C.length p2, .int .i64 s.n.e, .int .i64 s.n.b, .int .i64 s.n.k, .slice b3 s.n.M.length p3, .slice none 0 0, .int .i64 0, .int .i64 0] 42) := heap_set_self g9 9 _
  have g11 : (((((((((((w4.setCell ⟨w.heap.size + 1 + 1, 0, none⟩ (.int .i64 s.ep)).setCell ⟨w.heap.size + 1 + 1, 1, none⟩ (.int .i64 s.a.e)).setCell ⟨w.heap.size + 1 + 1, 2, none⟩ (.int .i64 s.a.b)).setCell ⟨w.heap.size + 1 + 1, 3, none⟩ (.int .i64 s.a.k)).setCell ⟨w.heap.size + 1 + 1, 4, none⟩ (.slice b1 s.a.M.length p1)).setCell ⟨w.heap.size + 1 + 1, 5, none⟩ (.slice b2 s.a.C.length p2)).setCell ⟨w.heap.size + 1 + 1, 6, none⟩ (.int .i64 s.n.e)).setCell ⟨w.heap.size + 1 + 1, 7, none⟩ (.int .i64 s.n.b)).setCell ⟨w.heap.size + 1 + 1, 8, none⟩ (.int .i64 s.n.k)).setCell ⟨w.heap.size + 1 + 1, 9, none⟩ (.slice b3 s.n.M.length p3)).setCell ⟨w.heap.size + 1 + 1, 10, none⟩ (.slice b4 s.n.C.length p4)).heap[w.heap.size + 1 + 1]? = some (.cells #[.int .i64 s.ep, .int .i64 s.a.e, .int .i64 s.a.b, .int .i64 s.a.k, .slice b1 s.a.M.length p1, .slice b2 s.a.C.length p2, .int .i64 s.n.e, .int .i64 s.n.b, .int .i64 s.n.k, .slice b3 s.n.M.length p3, .slice b4 s.n.C.length p4, .int .i64 0, .int .i64 0] 42) := heap_set_self g10 10 _
  have g12 : ((((((((((((w4.setCell ⟨w.heap.size + 1 + 1, 0, none⟩ (.int .i64 s.ep)).setCell ⟨w.heap.size + 1 + 1, 1, none⟩ (.int .i64 s.a.e)).setCell ⟨w.heap.size + 1 + 1, 2, none⟩ (.int .i64 s.a.b)).setCell ⟨w.heap.size + 1 + 1, 3, none⟩ (.int .i64 s.a.k)).setCell ⟨w.heap.size + 1 + 1, 4, none⟩ (.slice b1 s.a.M.length p1)).setCell ⟨w.heap.size + 1 + 1, 5, none⟩ (.slice b2 s.a.C.length p2)).setCell ⟨w.heap.size + 1 + 1, 6, none⟩ (.int .i64 s.n.e)).setCell ⟨w.heap.size + 1 + 1, 7, none⟩ (.int .i64 s.n.b)).setCell ⟨w.heap.size + 1 + 1, 8, none⟩ (.int .i64 s.n.k)).setCell ⟨w.heap.size + 1 + 1, 9, none⟩ (.slice b3 s.n.M.length p3)).setCell ⟨w.heap.size + 1 + 1, 10, none⟩ (.slice b4 s.n.C.length p4)).setCell ⟨w.heap.size + 1 + 1, 11, none⟩ (.int .i64 s.s0)).heap[w.heap.size + 1 + 1]? = some (.cells #[.int .i64 s.ep, .int .i64 s.a.e, .int .i64 s.a.b, .int .i64 s.a.k, .slice b1 s.a.M.length p1, .slice b2 s.a.C.length p2, .int .i64 s.n.e, .int .i64 s.n.b, .int .i64 s.n.k, .slice b3 s.n.M.length p3, .slice b4 s.n.C.length p4, .int .i64 s.s0, .int .i64 0] 42) := heap_set_self g11 11 _
  have g13 : (((((((((((((w4.setCell ⟨w.heap.size + 1 + 1, 0, none⟩ (.int .i64 s.ep)).setCell ⟨w.heap.size + 1 + 1, 1, none⟩ (.int .i64 s.a.e)).setCell ⟨w.heap.size + 1 + 1, 2, none⟩ (.int .i64 s.a.b)).setCell ⟨w.heap.size + 1 + 1, 3, none⟩ (.int .i64 s.a.k)).setCell ⟨w.heap.size + 1 + 1, 4, none⟩ (.slice b1 s.a.M.length p1)).setCell ⟨w.heap.size + 1 + 1, 5, none⟩ (.slice b2 s.a.C.length p2)).setCell ⟨w.heap.size + 1 + 1, 6, none⟩ (.int .i64 s.n.e)).setCell ⟨w.heap.size + 1 + 1, 7, none⟩ (.int .i64 s.n.b)).setCell ⟨w.heap.size + 1 + 1, 8, none⟩ (.int .i64 s.n.k)).setCell ⟨w.heap.size + 1 + 1, 9, none⟩ (.slice b3 s.n.M.length p3)).setCell ⟨w.heap.size + 1 + 1, 10, none⟩ (.slice b4 s.n.C.length p4)).setCell ⟨w.heap.size + 1 + 1, 11, none⟩ (.int .i64 s.s0)).setCell ⟨w.heap.size + 1 + 1, 12, none⟩ (.int .i64 s.s1)).heap[w.heap.size + 1 + 1]? = some (.cells #[.int .i64 s.ep, .int .i64 s.a.e, .int .i64 s.a.b, .int .i64 s.a.k, .slice b1 s.a.M.length p1, .slice b2 s.a.C.length p2, .int .i64 s.n.e, .int .i64 s.n.b, .int .i64 s.n.k, .slice b3 s.n.M.length p3, .slice b4 s.n.C.length p4, .int .i64 s.s0, .int .i64 s.s1] 42) := heap_set_self g12 12 _
  have GI := Lib.hid g13
  have GO := Lib.hid (show Only (w.heap.size + 1 + 1) w4 (((((((((((((w4.setCell ⟨w.heap.size + 1 + 1, 0, none⟩ (.int .i64 s.ep)).setCell ⟨w.heap.size + 1 + 1, 1, none⟩ (.int .i64 s.a.e)).setCell ⟨w.heap.size + 1 + 1, 2, none⟩ (.int .i64 s.a.b)).setCell ⟨w.heap.size + 1 + 1, 3, none⟩ (.int .i64 s.a.k)).setCell ⟨w.heap.size + 1 + 1, 4, none⟩ (.slice b1 s.a.M.length p1)).setCell ⟨w.heap.size + 1 + 1, 5, none⟩ (.slice b2 s.a.C.length p2)).setCell ⟨w.heap.size + 1 + 1, 6, none⟩ (.int .i64 s.n.e)).setCell ⟨w.heap.size + 1 + 1, 7, none⟩ (.int .i64 s.n.b)).setCell ⟨w.heap.size + 1 + 1, 8, none⟩ (.int .i64 s.n.k)).setCell ⟨w.heap.size + 1 + 1, 9, none⟩ (.slice b3 s.n.M.length p3)).setCell ⟨w.heap.size + 1 + 1, 10, none⟩ (.slice b4 s.n.C.length p4)).setCell ⟨w.heap.size + 1 + 1, 11, none⟩ (.int .i64 s.s0)).setCell ⟨w.heap.size + 1 + 1, 12, none⟩ (.int .i64 s.s1)) from ((((((((((((((Only.refl _ _).set 0 _).set 1 _).set 2 _).set 3 _).set 4 _).set 5 _).set 6 _).set 7 _).set 8 _).set 9 _).set 10 _).set 11 _).set 12 _))
  clear g1 g2 g3 g4 g5 g6 g7 g8 g9 g10 g11 g12 g13
  have HB := Lib.hid hb
  have HZ := Lib.hid hz
  clear hN hC hR hb hz
  go_wp2_with fail
  generalize (((((((((((((w4.setCell ⟨w.heap.size + 1 + 1, 0, none⟩ (.int .i64 s.ep)).setCell ⟨w.heap.size + 1 + 1, 1, none⟩ (.int .i64 s.a.e)).setCell ⟨w.heap.size + 1 + 1, 2, none⟩ (.int .i64 s.a.b)).setCell ⟨w.heap.size + 1 + 1, 3, none⟩ (.int .i64 s.a.k)).setCell ⟨w.heap.size + 1 + 1, 4, none⟩ (.slice b1 s.a.M.length p1)).setCell ⟨w.heap.size + 1 + 1, 5, none⟩ (.slice b2 s.a.C.length p2)).setCell ⟨w.heap.size + 1 + 1, 6, none⟩ (.int .i64 s.n.e)).setCell ⟨w.heap.size + 1 + 1, 7, none⟩ (.int .i64 s.n.b)).setCell ⟨w.heap.size + 1 + 1, 8, none⟩ (.int .i64 s.n.k)).setCell ⟨w.heap.size + 1 + 1, 9, none⟩ (.slice b3 s.n.M.length p3)).setCell ⟨w.heap.size + 1 + 1, 10, none⟩ (.slice b4 s.n.C.length p4)).setCell ⟨w.heap.size + 1 + 1, 11, none⟩ (.int .i64 s.s0)).setCell ⟨w.heap.size + 1 + 1, 12, none⟩ (.int .i64 s.s1)) = wf at *
  have fi := GI.out
  have s0 := cell_atD fi 0 (v := .int .i64 s.ep) rfl
  have s1 := cell_atD fi 1 (v := .int .i64 s.a.e) rfl
  have s2 := cell_atD fi 2 (v := .int .i64 s.a.b) rfl
  have s3 := cell_atD fi 3 (v := .int .i64 s.a.k) rfl
  have s4 := cell_atD fi 4 (v := .slice b1 s.a.M.length p1) rfl
  have s5 := cell_atD fi 5 (v := .slice b2 s.a.C.length p2) rfl
  have s6 := cell_atD fi 6 (v := .int .i64 s.n.e) rfl
  have s7 := cell_atD fi 7 (v := .int .i64 s.n.b) rfl
  have s8 := cell_atD fi 8 (v := .int .i64 s.n.k) rfl
  have s9 := cell_atD fi 9 (v := .slice b3 s.n.M.length p3) rfl
  have s10 := cell_atD fi 10 (v := .slice b4 s.n.C.length p4) rfl
  have s11 := cell_atD fi 11 (v := .int .i64 s.s0) rfl
  have s12 := cell_atD fi 12 (v := .int .i64 s.s1) rfl
  clear fi
  refine bodyPost_ret (v := .agg #[.int .i64 s.ep, .int .i64 s.a.e, .int .i64 s.a.b, .int .i64 s.a.k, .slice b1 s.a.M.length p1, .slice b2 s.a.C.length p2, .int .i64 s.n.e, .int .i64 s.n.b, .int .i64 s.n.k, .slice b3 s.n.M.length p3, .slice b4 s.n.C.length p4, .int .i64 s.s0, .int .i64 s.s1]) (by simp [results, Try.results88, go_sem, s0, s1, s2, s3, s4, s5, s6, s7, s8, s9, s10, s11, s12]) rfl ?_
  have hz := HZ.out
  have hf : Below w.heap.size w wf := HB.out.trans (GO.out.below (B := w.heap.size) (by omega) (by omega))
  rw [hd]
  skip
  exact ⟨_, rfl, ⟨_, _, _, _, rfl, R1.out.only GO.out (by omega), R2.out.only GO.out (by omega), h3, h4⟩, hf⟩
end Go.Proofs.Ytjaaddjbmimjoaa
