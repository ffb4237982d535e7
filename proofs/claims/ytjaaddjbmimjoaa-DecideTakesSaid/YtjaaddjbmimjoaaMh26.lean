/-
  Several texts, laid together.
-/
import Derived.Test.YtjaaddjbmimjoaaMh11
/-
  The state behind a wish: decide.prepare.
-/

namespace Go.Proofs.Ytjaaddjbmimjoaa
open Go.RowKit
set_option linter.unusedVariables false
set_option linter.unusedSimpArgs false

theorem four_blocks (w : World) (a b c d : Obj) : ((((w.alloc a).alloc b).alloc c).alloc d).heap[w.heap.size]? = some a ∧ ((((w.alloc a).alloc b).alloc c).alloc d).heap[w.heap.size + 1]? = some b ∧ ((((w.alloc a).alloc b).alloc c).alloc d).heap[w.heap.size + 1 + 1]? = some c ∧ ((((w.alloc a).alloc b).alloc c).alloc d).heap[w.heap.size + 1 + 1 + 1]? = some d ∧ Below w.heap.size w ((((w.alloc a).alloc b).alloc c).alloc d) ∧ ((((w.alloc a).alloc b).alloc c).alloc d).heap.size = w.heap.size + 4 := by
  refine ⟨alloc_far (alloc_far (alloc_far (heap_alloc_self w a))), alloc_far (alloc_far ?_), alloc_far ?_, ?_, ((((Below.refl _ _).alloc (Nat.le_refl _) _).alloc (by simp) _).alloc (by simp; omega) _).alloc (by simp; omega) _, by simp⟩
  · simpa using heap_alloc_self (w.alloc a) b
  · simpa using heap_alloc_self ((w.alloc a).alloc b) c
  · simpa using heap_alloc_self (((w.alloc a).alloc b).alloc c) d
def prepS (s : DS) (c : CF) : DS :=
  if c.b = 5 then (if c.k ≤ s.s0 ∨ s.ep ≥ 1048576 then s else ⟨s.ep + 1, c.k, s.s1, s.a, ⟨s.ep + 1, c.b, c.k, c.M, c.C⟩⟩)
  else (if c.k ≤ s.s1 ∨ s.ep ≥ 1048576 then s else ⟨s.ep + 1, s.s0, c.k, s.a, ⟨s.ep + 1, c.b, c.k, c.M, c.C⟩⟩)
theorem prep5_new (s : DS) (e n : Int) (M C : List Int) (h1 : s.s0 < n) (h2 : s.ep < 1048576) : prepS s ⟨e, 5, n, M, C⟩ = ⟨s.ep + 1, n, s.s1, s.a, ⟨s.ep + 1, 5, n, M, C⟩⟩ := by
  simp only [prepS, if_true]
  rw [if_neg (by omega)]
theorem prep6_new (s : DS) (e n : Int) (M C : List Int) (h1 : s.s1 < n) (h2 : s.ep < 1048576) : prepS s ⟨e, 6, n, M, C⟩ = ⟨s.ep + 1, s.s0, n, s.a, ⟨s.ep + 1, 6, n, M, C⟩⟩ := by
  simp only [prepS, if_neg (show ¬ ((6 : Int) = 5) by decide)]
  rw [if_neg (by omega)]
theorem prep5_same (s : DS) (e n : Int) (M C : List Int) (h : n ≤ s.s0 ∨ 1048576 ≤ s.ep) : prepS s ⟨e, 5, n, M, C⟩ = s := by
  simp only [prepS, if_true]
  rw [if_pos (by omega)]
theorem prep6_same (s : DS) (e n : Int) (M C : List Int) (h : n ≤ s.s1 ∨ 1048576 ≤ s.ep) : prepS s ⟨e, 6, n, M, C⟩ = s := by
  simp only [prepS, if_neg (show ¬ ((6 : Int) = 5) by decide)]
  rw [if_pos (by omega)]
set_option maxHeartbeats 1600000 in
set_option maxRecDepth 20000 in
theorem dprep5 (s : DS) (e n : Int) (M C : List Int) (a1 a2 a3 a4 a5 a6 : Option Addr) (q1 q2 q3 q4 q5 q6 : Nat) (w : World) (base : Nat) (hbase : base ≤ w.heap.size) (h1 : CFO s.a base w (.slice a1 s.a.M.length q1) (.slice a2 s.a.C.length q2)) (h2 : CFO s.n base w (.slice a3 s.n.M.length q3) (.slice a4 s.n.C.length q4)) (h3 : short s.a) (h4 : short s.n) (h5 : CFat ⟨e, 5, n, M, C⟩ w (.slice a5 M.length q5) (.slice a6 C.length q6)) (h6 : short ⟨e, 5, n, M, C⟩) (h0 : 0 ≤ s.ep) :
    Calls Try.prog 110 #[.agg (stA s.ep s.a (.slice a1 s.a.M.length q1) (.slice a2 s.a.C.length q2) s.n (.slice a3 s.n.M.length q3) (.slice a4 s.n.C.length q4) s.s0 s.s1), .agg #[.int .i64 e, .int .i64 5, .int .i64 n, .slice a5 M.length q5, .slice a6 C.length q6]] w fun ev w' => ∃ v', ev = .returned v' ∧ SVB (prepS s ⟨e, 5, n, M, C⟩) base w' v' ∧ Below w.heap.size w w' := by
  unfold stA
  obtain ⟨hN, hC, hR, hS, hb, hz⟩ := four_blocks w (.cells #[.int .i64 s.ep, .int .i64 s.a.e, .int .i64 s.a.b, .int .i64 s.a.k, .slice a1 s.a.M.length q1, .slice a2 s.a.C.length q2, .int .i64 s.n.e, .int .i64 s.n.b, .int .i64 s.n.k, .slice a3 s.n.M.length q3, .slice a4 s.n.C.length q4, .int .i64 s.s0, .int .i64 s.s1] 42) (.cells #[.int .i64 e, .int .i64 5, .int .i64 n, .slice a5 M.length q5, .slice a6 C.length q6] 24) (.cells #[.int .i64 0, .int .i64 0, .int .i64 0, .int .i64 0, .slice none 0 0, .slice none 0 0, .int .i64 0, .int .i64 0, .int .i64 0, .slice none 0 0, .slice none 0 0, .int .i64 0, .int .i64 0] 42) (.cells #[.int .i64 s.s0, .int .i64 s.s1] 40)
  go_enter Try.func110, Try.ntmps110
  go_upto_region 2 with fail
  generalize (((w.alloc (.cells #[.int .i64 s.ep, .int .i64 s.a.e, .int .i64 s.a.b, .int .i64 s.a.k, .slice a1 s.a.M.length q1, .slice a2 s.a.C.length q2, .int .i64 s.n.e, .int .i64 s.n.b, .int .i64 s.n.k, .slice a3 s.n.M.length q3, .slice a4 s.n.C.length q4, .int .i64 s.s0, .int .i64 s.s1] 42)).alloc (.cells #[.int .i64 e, .int .i64 5, .int .i64 n, .slice a5 M.length q5, .slice a6 C.length q6] 24)).alloc (.cells #[.int .i64 0, .int .i64 0, .int .i64 0, .int .i64 0, .slice none 0 0, .slice none 0 0, .int .i64 0, .int .i64 0, .int .i64 0, .slice none 0 0, .slice none 0 0, .int .i64 0, .int .i64 0] 42)).alloc (.cells #[.int .i64 s.s0, .int .i64 s.s1] 40) = w1 at *
  have hz := Nat.le_of_eq hz.symm
  have HX := Lib.hid (And.intro hN (And.intro hC (And.intro hR (And.intro hS (And.intro hb hz)))))
  have d0 := cell_atD hN 0 (v := .int .i64 s.ep) rfl
  have d1 := cell_atD hN 1 (v := .int .i64 s.a.e) rfl
  have d2 := cell_atD hN 2 (v := .int .i64 s.a.b) rfl
  have d3 := cell_atD hN 3 (v := .int .i64 s.a.k) rfl
  have d4 := cell_atD hN 4 (v := .slice a1 s.a.M.length q1) rfl
  have d5 := cell_atD hN 5 (v := .slice a2 s.a.C.length q2) rfl
  have d6 := cell_atD hN 6 (v := .int .i64 s.n.e) rfl
  have d7 := cell_atD hN 7 (v := .int .i64 s.n.b) rfl
  have d8 := cell_atD hN 8 (v := .int .i64 s.n.k) rfl
  have d9 := cell_atD hN 9 (v := .slice a3 s.n.M.length q3) rfl
  have d10 := cell_atD hN 10 (v := .slice a4 s.n.C.length q4) rfl
  have d11 := cell_atD hN 11 (v := .int .i64 s.s0) rfl
  have d12 := cell_atD hN 12 (v := .int .i64 s.s1) rfl
  have e0 := cell_atD hC 0 (v := .int .i64 e) rfl
  have e1 := cell_atD hC 1 (v := .int .i64 5) rfl
  have e2 := cell_atD hC 2 (v := .int .i64 n) rfl
  have e3 := cell_atD hC 3 (v := .slice a5 M.length q5) rfl
  have e4 := cell_atD hC 4 (v := .slice a6 C.length q6) rfl
  have f0 := cell_atD hS 0 (v := .int .i64 s.s0) rfl
  have f1 := cell_atD hS 1 (v := .int .i64 s.s1) rfl
  clear hN hC hR hS hb hz
  go_upto_region 3 with fail
  rcases g1 : decide (n ≤ s.s0)
  · have g1' : ¬ (n ≤ s.s0) := by simpa using g1
    rcases g2 : decide (s.ep ≥ 1048576)
    · have g2' : ¬ (s.ep ≥ 1048576) := by simpa using g2
      go_quiet (fail)
      clear d0 d1 d2 d3 d4 d5 d6 d7 d8 d9 d10 d11 d12 e0 e1 e2 e3 e4 f0 f1
      generalize hw2 : w1.drewN _ = w2
      obtain ⟨iN, iC, iR, iS, ib, iz⟩ := HX.out
      have e2 : w2.heap = w1.heap := by subst hw2; rfl
      have hN := iN
      have hC := iC
      have hR := iR
      have hS := iS
      rw [← e2] at hN hC hR hS
      have hb : Below w.heap.size w w2 := by subst hw2; exact ⟨ib.os, ib.tape, ib.output, ib.size, ib.block⟩
      have hz : w.heap.size + 4 ≤ w2.heap.size := by subst hw2; exact iz
      clear HX iN iC iR iS ib iz hw2 e2
      go_upto_region 5 with fail
      have dC0 := cell_atD hC 0 (v := .int .i64 e) rfl
      have dC1 := cell_atD hC 1 (v := .int .i64 5) rfl
      have dC2 := cell_atD hC 2 (v := .int .i64 n) rfl
      have dC3 := cell_atD hC 3 (v := .slice a5 M.length q5) rfl
      have dC4 := cell_atD hC 4 (v := .slice a6 C.length q6) rfl
      have dS0 := cell_atD hS 0 (v := .int .i64 s.s0) rfl
      have dS1 := cell_atD hS 1 (v := .int .i64 s.s1) rfl
      have fz : ∀ j, w2.frozen? ⟨w.heap.size + 1 + 1 + 1, j, none⟩ = false := fun j => by simp [World.frozen?, hS]
      have g1 : (w2.setCell ⟨w.heap.size + 1 + 1 + 1, 0, none⟩ (.int .i64 n)).heap[w.heap.size + 1 + 1 + 1]? = some (.cells #[.int .i64 n, .int .i64 s.s1] 40) := heap_set_self hS 0 _
      have GI := Lib.hid g1
      have GO := Lib.hid (show Only (w.heap.size + 1 + 1 + 1) w2 (w2.setCell ⟨w.heap.size + 1 + 1 + 1, 0, none⟩ (.int .i64 n)) from ((Only.refl _ _).set 0 _))
      clear g1
      have HX := Lib.hid (And.intro hN (And.intro hC (And.intro hR (And.intro hS (And.intro hb (hz))))))
      clear hN hC hR hS hb hz
      go_upto_region 6 with fail
      generalize (w2.setCell ⟨w.heap.size + 1 + 1 + 1, 0, none⟩ (.int .i64 n)) = w3 at *
      clear fz dC0 dC1 dC2 dC3 dC4 dS0 dS1
      obtain ⟨hN, hC, hR, hS, hb, hz⟩ := HX.out
      have kN : w3.heap[w.heap.size]? = some _ := (GO.out.block _ (lt_heap hN) (by omega)).trans hN
      have kC : w3.heap[w.heap.size + 1]? = some _ := (GO.out.block _ (lt_heap hC) (by omega)).trans hC
      have kR : w3.heap[w.heap.size + 1 + 1]? = some _ := (GO.out.block _ (lt_heap hR) (by omega)).trans hR
      have kS := GI.out
      have kb : Below w.heap.size w w3 := hb.trans (GO.out.below (B := w.heap.size) (by omega) (by omega))
      have kz : w.heap.size + 4 ≤ w3.heap.size := by have := GO.out.size; omega
      clear HX GI GO hN hC hR hS hb hz
      have hN := kN
      have hC := kC
      have hR := kR
      have hS := kS
      have hb := kb
      have hz := kz
      clear kN kC kR kS kb kz
      have dS0 := cell_atD hS 0 (v := .int .i64 n) rfl
      have dS1 := cell_atD hS 1 (v := .int .i64 s.s1) rfl
      have dN0 := cell_atD hN 0 (v := .int .i64 s.ep) rfl
      have dN1 := cell_atD hN 1 (v := .int .i64 s.a.e) rfl
      have dN2 := cell_atD hN 2 (v := .int .i64 s.a.b) rfl
      have dN3 := cell_atD hN 3 (v := .int .i64 s.a.k) rfl
      have dN4 := cell_atD hN 4 (v := .slice a1 s.a.M.length q1) rfl
      have dN5 := cell_atD hN 5 (v := .slice a2 s.a.C.length q2) rfl
      have dN6 := cell_atD hN 6 (v := .int .i64 s.n.e) rfl
      have dN7 := cell_atD hN 7 (v := .int .i64 s.n.b) rfl
      have dN8 := cell_atD hN 8 (v := .int .i64 s.n.k) rfl
      have dN9 := cell_atD hN 9 (v := .slice a3 s.n.M.length q3) rfl
      have dN10 := cell_atD hN 10 (v := .slice a4 s.n.C.length q4) rfl
      have dN11 := cell_atD hN 11 (v := .int .i64 s.s0) rfl
      have dN12 := cell_atD hN 12 (v := .int .i64 s.s1) rfl
      have fz : ∀ j, w3.frozen? ⟨w.heap.size, j, none⟩ = false := fun j => by simp [World.frozen?, hN]
      have g1 : (w3.setCell ⟨w.heap.size, 11, none⟩ (.int .i64 n)).heap[w.heap.size]? = some (.cells #[.int .i64 s.ep, .int .i64 s.a.e, .int .i64 s.a.b, .int .i64 s.a.k, .slice a1 s.a.M.length q1, .slice a2 s.a.C.length q2, .int .i64 s.n.e, .int .i64 s.n.b, .int .i64 s.n.k, .slice a3 s.n.M.length q3, .slice a4 s.n.C.length q4, .int .i64 n, .int .i64 s.s1] 42) := heap_set_self hN 11 _
      have g2 : ((w3.setCell ⟨w.heap.size, 11, none⟩ (.int .i64 n)).setCell ⟨w.heap.size, 12, none⟩ (.int .i64 s.s1)).heap[w.heap.size]? = some (.cells #[.int .i64 s.ep, .int .i64 s.a.e, .int .i64 s.a.b, .int .i64 s.a.k, .slice a1 s.a.M.length q1, .slice a2 s.a.C.length q2, .int .i64 s.n.e, .int .i64 s.n.b, .int .i64 s.n.k, .slice a3 s.n.M.length q3, .slice a4 s.n.C.length q4, .int .i64 n, .int .i64 s.s1] 42) := heap_set_self g1 12 _
      have GI := Lib.hid g2
      have GO := Lib.hid (show Only (w.heap.size) w3 ((w3.setCell ⟨w.heap.size, 11, none⟩ (.int .i64 n)).setCell ⟨w.heap.size, 12, none⟩ (.int .i64 s.s1)) from (((Only.refl _ _).set 11 _).set 12 _))
      clear g1 g2
      have HX := Lib.hid (And.intro hN (And.intro hC (And.intro hR (And.intro hS (And.intro hb (hz))))))
      clear hN hC hR hS hb hz
      go_upto_region 7 with fail
      generalize ((w3.setCell ⟨w.heap.size, 11, none⟩ (.int .i64 n)).setCell ⟨w.heap.size, 12, none⟩ (.int .i64 s.s1)) = w4 at *
      clear fz dS0 dS1 dN0 dN1 dN2 dN3 dN4 dN5 dN6 dN7 dN8 dN9 dN10 dN11 dN12
      obtain ⟨hN, hC, hR, hS, hb, hz⟩ := HX.out
      have kN := GI.out
      have kC : w4.heap[w.heap.size + 1]? = some _ := (GO.out.block _ (lt_heap hC) (by omega)).trans hC
      have kR : w4.heap[w.heap.size + 1 + 1]? = some _ := (GO.out.block _ (lt_heap hR) (by omega)).trans hR
      have kS : w4.heap[w.heap.size + 1 + 1 + 1]? = some _ := (GO.out.block _ (lt_heap hS) (by omega)).trans hS
      have kb : Below w.heap.size w w4 := hb.trans (GO.out.below (B := w.heap.size) (by omega) (by omega))
      have kz : w.heap.size + 4 ≤ w4.heap.size := by have := GO.out.size; omega
      clear HX GI GO hN hC hR hS hb hz
      have hN := kN
      have hC := kC
      have hR := kR
      have hS := kS
      have hb := kb
      have hz := kz
      clear kN kC kR kS kb kz
      have dN0 := cell_atD hN 0 (v := .int .i64 s.ep) rfl
      have dN1 := cell_atD hN 1 (v := .int .i64 s.a.e) rfl
      have dN2 := cell_atD hN 2 (v := .int .i64 s.a.b) rfl
      have dN3 := cell_atD hN 3 (v := .int .i64 s.a.k) rfl
      have dN4 := cell_atD hN 4 (v := .slice a1 s.a.M.length q1) rfl
      have dN5 := cell_atD hN 5 (v := .slice a2 s.a.C.length q2) rfl
      have dN6 := cell_atD hN 6 (v := .int .i64 s.n.e) rfl
      have dN7 := cell_atD hN 7 (v := .int .i64 s.n.b) rfl
      have dN8 := cell_atD hN 8 (v := .int .i64 s.n.k) rfl
      have dN9 := cell_atD hN 9 (v := .slice a3 s.n.M.length q3) rfl
      have dN10 := cell_atD hN 10 (v := .slice a4 s.n.C.length q4) rfl
      have dN11 := cell_atD hN 11 (v := .int .i64 n) rfl
      have dN12 := cell_atD hN 12 (v := .int .i64 s.s1) rfl
      have fz : ∀ j, w4.frozen? ⟨w.heap.size, j, none⟩ = false := fun j => by simp [World.frozen?, hN]
      have g1 : (w4.setCell ⟨w.heap.size, 0, none⟩ (.int .i64 (s.ep + 1))).heap[w.heap.size]? = some (.cells #[.int .i64 (s.ep + 1), .int .i64 s.a.e, .int .i64 s.a.b, .int .i64 s.a.k, .slice a1 s.a.M.length q1, .slice a2 s.a.C.length q2, .int .i64 s.n.e, .int .i64 s.n.b, .int .i64 s.n.k, .slice a3 s.n.M.length q3, .slice a4 s.n.C.length q4, .int .i64 n, .int .i64 s.s1] 42) := heap_set_self hN 0 _
      have GI := Lib.hid g1
      have GO := Lib.hid (show Only (w.heap.size) w4 (w4.setCell ⟨w.heap.size, 0, none⟩ (.int .i64 (s.ep + 1))) from ((Only.refl _ _).set 0 _))
      clear g1
      have HX := Lib.hid (And.intro hN (And.intro hC (And.intro hR (And.intro hS (And.intro hb (hz))))))
      clear hN hC hR hS hb hz
      go_upto_region 8 with fail
      generalize (w4.setCell ⟨w.heap.size, 0, none⟩ (.int .i64 (s.ep + 1))) = w5 at *
      clear fz dN0 dN1 dN2 dN3 dN4 dN5 dN6 dN7 dN8 dN9 dN10 dN11 dN12
      obtain ⟨hN, hC, hR, hS, hb, hz⟩ := HX.out
      have kN := GI.out
      have kC : w5.heap[w.heap.size + 1]? = some _ := (GO.out.block _ (lt_heap hC) (by omega)).trans hC
      have kR : w5.heap[w.heap.size + 1 + 1]? = some _ := (GO.out.block _ (lt_heap hR) (by omega)).trans hR
      have kS : w5.heap[w.heap.size + 1 + 1 + 1]? = some _ := (GO.out.block _ (lt_heap hS) (by omega)).trans hS
      have kb : Below w.heap.size w w5 := hb.trans (GO.out.below (B := w.heap.size) (by omega) (by omega))
      have kz : w.heap.size + 4 ≤ w5.heap.size := by have := GO.out.size; omega
      clear HX GI GO hN hC hR hS hb hz
      have hN := kN
      have hC := kC
      have hR := kR
      have hS := kS
      have hb := kb
      have hz := kz
      clear kN kC kR kS kb kz
      have dC0 := cell_atD hC 0 (v := .int .i64 e) rfl
      have dC1 := cell_atD hC 1 (v := .int .i64 5) rfl
      have dC2 := cell_atD hC 2 (v := .int .i64 n) rfl
      have dC3 := cell_atD hC 3 (v := .slice a5 M.length q5) rfl
      have dC4 := cell_atD hC 4 (v := .slice a6 C.length q6) rfl
      have c1 := oconf' ⟨e, 5, n, M, C⟩ _ _ w5 (h5.below hb) h6
      simp only at c1
      have HX := Lib.hid (And.intro hN (And.intro hC (And.intro hR (And.intro hS (And.intro hb (hz))))))
      clear hN hC hR hS hb hz
      go_wp2_with fail
      refine Calls.mono c1 ?_
      rintro ev w6 ⟨a7, q7, a8, q8, rfl, ho, hb6⟩
      clear c1 dC0 dC1 dC2 dC3 dC4
      obtain ⟨hN, hC, hR, hS, hb, hz⟩ := HX.out
      have ho := ho.base hz
      have kN := below_at hb6 (lt_heap hN) hN
      have kC := below_at hb6 (lt_heap hC) hC
      have kR := below_at hb6 (lt_heap hR) hR
      have kS := below_at hb6 (lt_heap hS) hS
      have kz : w.heap.size + 4 ≤ w6.heap.size := by have := hb6.size; omega
      have kb : Below w.heap.size w w6 := hb.trans (hb6.mono (by omega))
      clear HX hb6 hN hC hR hS hb hz
      have hN := kN
      have hC := kC
      have hR := kR
      have hS := kS
      have hb := kb
      have hz := kz
      clear kN kC kR kS kb kz
      have HO := Lib.hid ho
      clear ho
      have dN0 := cell_atD hN 0 (v := .int .i64 (s.ep + 1)) rfl
      have dN1 := cell_atD hN 1 (v := .int .i64 s.a.e) rfl
      have dN2 := cell_atD hN 2 (v := .int .i64 s.a.b) rfl
      have dN3 := cell_atD hN 3 (v := .int .i64 s.a.k) rfl
      have dN4 := cell_atD hN 4 (v := .slice a1 s.a.M.length q1) rfl
      have dN5 := cell_atD hN 5 (v := .slice a2 s.a.C.length q2) rfl
      have dN6 := cell_atD hN 6 (v := .int .i64 s.n.e) rfl
      have dN7 := cell_atD hN 7 (v := .int .i64 s.n.b) rfl
      have dN8 := cell_atD hN 8 (v := .int .i64 s.n.k) rfl
      have dN9 := cell_atD hN 9 (v := .slice a3 s.n.M.length q3) rfl
      have dN10 := cell_atD hN 10 (v := .slice a4 s.n.C.length q4) rfl
      have dN11 := cell_atD hN 11 (v := .int .i64 n) rfl
      have dN12 := cell_atD hN 12 (v := .int .i64 s.s1) rfl
      have fz : ∀ j, w6.frozen? ⟨w.heap.size, j, none⟩ = false := fun j => by simp [World.frozen?, hN]
      have g1 : (w6.setCell ⟨w.heap.size, 6, none⟩ (.int .i64 e)).heap[w.heap.size]? = some (.cells #[.int .i64 (s.ep + 1), .int .i64 s.a.e, .int .i64 s.a.b, .int .i64 s.a.k, .slice a1 s.a.M.length q1, .slice a2 s.a.C.length q2, .int .i64 e, .int .i64 s.n.b, .int .i64 s.n.k, .slice a3 s.n.M.length q3, .slice a4 s.n.C.length q4, .int .i64 n, .int .i64 s.s1] 42) := heap_set_self hN 6 _
      have g2 : ((w6.setCell ⟨w.heap.size, 6, none⟩ (.int .i64 e)).setCell ⟨w.heap.size, 7, none⟩ (.int .i64 5)).heap[w.heap.size]? = some (.cells #[.int .i64 (s.ep + 1), .int .i64 s.a.e, .int .i64 s.a.b, .int .i64 s.a.k, .slice a1 s.a.M.length q1, .slice a2 s.a.C.length q2, .int .i64 e, .int .i64 5, .int .i64 s.n.k, .slice a3 s.n.M.length q3, .slice a4 s.n.C.length q4, .int .i64 n, .int .i64 s.s1] 42) := heap_set_self g1 7 _
      have g3 : (((w6.setCell ⟨w.heap.size, 6, none⟩ (.int .i64 e)).setCell ⟨w.heap.size, 7, none⟩ (.int .i64 5)).setCell ⟨w.heap.size, 8, none⟩ (.int .i64 n)).heap[w.heap.size]? = some (.cells #[.int .i64 (s.ep + 1), .int .i64 s.a.e, .int .i64 s.a.b, .int .i64 s.a.k, .slice a1 s.a.M.length q1, .slice a2 s.a.C.length q2, .int .i64 e, .int .i64 5, .int .i64 n, .slice a3 s.n.M.length q3, .slice a4 s.n.C.length q4, .int .i64 n, .int .i64 s.s1] 42) := heap_set_self g2 8 _
      have g4 : ((((w6.setCell ⟨w.heap.size, 6, none⟩ (.int .i64 e)).setCell ⟨w.heap.size, 7, none⟩ (.int .i64 5)).setCell ⟨w.heap.size, 8, none⟩ (.int .i64 n)).setCell ⟨w.heap.size, 9, none⟩ (.slice a7 M.length q7)).heap[w.heap.size]? = some (.cells #[.int .i64 (s.ep + 1), .int .i64 s.a.e, .int .i64 s.a.b, .int .i64 s.a.k, .slice a1 s.a.M.length q1, .slice a2 s.a.C.length q2, .int .i64 e, .int .i64 5, .int .i64 n, .slice a7 M.length q7, .slice a4 s.n.C.length q4, .int .i64 n, .int .i64 s.s1] 42) := heap_set_self g3 9 _
      have g5 : (((((w6.setCell ⟨w.heap.size, 6, none⟩ (.int .i64 e)).setCell ⟨w.heap.size, 7, none⟩ (.int .i64 5)).setCell ⟨w.heap.size, 8, none⟩ (.int .i64 n)).setCell ⟨w.heap.size, 9, none⟩ (.slice a7 M.length q7)).setCell ⟨w.heap.size, 10, none⟩ (.slice a8 C.length q8)).heap[w.heap.size]? = some (.cells #[.int .i64 (s.ep + 1), .int .i64 s.a.e, .int .i64 s.a.b, .int .i64 s.a.k, .slice a1 s.a.M.length q1, .slice a2 s.a.C.length q2, .int .i64 e, .int .i64 5, .int .i64 n, .slice a7 M.length q7, .slice a8 C.length q8, .int .i64 n, .int .i64 s.s1] 42) := heap_set_self g4 10 _
      have GI := Lib.hid g5
      have GO := Lib.hid (show Only (w.heap.size) w6 (((((w6.setCell ⟨w.heap.size, 6, none⟩ (.int .i64 e)).setCell ⟨w.heap.size, 7, none⟩ (.int .i64 5)).setCell ⟨w.heap.size, 8, none⟩ (.int .i64 n)).setCell ⟨w.heap.size, 9, none⟩ (.slice a7 M.length q7)).setCell ⟨w.heap.size, 10, none⟩ (.slice a8 C.length q8)) from ((((((Only.refl _ _).set 6 _).set 7 _).set 8 _).set 9 _).set 10 _))
      clear g1 g2 g3 g4 g5
      have HX := Lib.hid (And.intro hN (And.intro hC (And.intro hR (And.intro hS (And.intro hb (hz))))))
      clear hN hC hR hS hb hz
      go_upto_region 9 with fail
      generalize (((((w6.setCell ⟨w.heap.size, 6, none⟩ (.int .i64 e)).setCell ⟨w.heap.size, 7, none⟩ (.int .i64 5)).setCell ⟨w.heap.size, 8, none⟩ (.int .i64 n)).setCell ⟨w.heap.size, 9, none⟩ (.slice a7 M.length q7)).setCell ⟨w.heap.size, 10, none⟩ (.slice a8 C.length q8)) = w7 at *
      clear fz dN0 dN1 dN2 dN3 dN4 dN5 dN6 dN7 dN8 dN9 dN10 dN11 dN12
      obtain ⟨hN, hC, hR, hS, hb, hz⟩ := HX.out
      have kN := GI.out
      have kC : w7.heap[w.heap.size + 1]? = some _ := (GO.out.block _ (lt_heap hC) (by omega)).trans hC
      have kR : w7.heap[w.heap.size + 1 + 1]? = some _ := (GO.out.block _ (lt_heap hR) (by omega)).trans hR
      have kS : w7.heap[w.heap.size + 1 + 1 + 1]? = some _ := (GO.out.block _ (lt_heap hS) (by omega)).trans hS
      have kb : Below w.heap.size w w7 := hb.trans (GO.out.below (B := w.heap.size) (by omega) (by omega))
      have kz : w.heap.size + 4 ≤ w7.heap.size := by have := GO.out.size; omega
      have GO7 := GO.out
      clear HX GI GO hN hC hR hS hb hz
      have hN := kN
      have hC := kC
      have hR := kR
      have hS := kS
      have hb := kb
      have hz := kz
      clear kN kC kR kS kb kz
      have ho : CFO ⟨e, 5, n, M, C⟩ (w.heap.size + 4) w7 (.slice a7 M.length q7) (.slice a8 C.length q8) := HO.out.only GO7 (by omega)
      clear HO GO7
      have HO := Lib.hid ho
      clear ho
      have dN0 := cell_atD hN 0 (v := .int .i64 (s.ep + 1)) rfl
      have dN1 := cell_atD hN 1 (v := .int .i64 s.a.e) rfl
      have dN2 := cell_atD hN 2 (v := .int .i64 s.a.b) rfl
      have dN3 := cell_atD hN 3 (v := .int .i64 s.a.k) rfl
      have dN4 := cell_atD hN 4 (v := .slice a1 s.a.M.length q1) rfl
      have dN5 := cell_atD hN 5 (v := .slice a2 s.a.C.length q2) rfl
      have dN6 := cell_atD hN 6 (v := .int .i64 e) rfl
      have dN7 := cell_atD hN 7 (v := .int .i64 5) rfl
      have dN8 := cell_atD hN 8 (v := .int .i64 n) rfl
      have dN9 := cell_atD hN 9 (v := .slice a7 M.length q7) rfl
      have dN10 := cell_atD hN 10 (v := .slice a8 C.length q8) rfl
      have dN11 := cell_atD hN 11 (v := .int .i64 n) rfl
      have dN12 := cell_atD hN 12 (v := .int .i64 s.s1) rfl
      have fz : ∀ j, w7.frozen? ⟨w.heap.size, j, none⟩ = false := fun j => by simp [World.frozen?, hN]
      have g1 : (w7.setCell ⟨w.heap.size, 6, none⟩ (.int .i64 (s.ep + 1))).heap[w.heap.size]? = some (.cells #[.int .i64 (s.ep + 1), .int .i64 s.a.e, .int .i64 s.a.b, .int .i64 s.a.k, .slice a1 s.a.M.length q1, .slice a2 s.a.C.length q2, .int .i64 (s.ep + 1), .int .i64 5, .int .i64 n, .slice a7 M.length q7, .slice a8 C.length q8, .int .i64 n, .int .i64 s.s1] 42) := heap_set_self hN 6 _
      have GI := Lib.hid g1
      have GO := Lib.hid (show Only (w.heap.size) w7 (w7.setCell ⟨w.heap.size, 6, none⟩ (.int .i64 (s.ep + 1))) from ((Only.refl _ _).set 6 _))
      clear g1
      have HX := Lib.hid (And.intro hN (And.intro hC (And.intro hR (And.intro hS (And.intro hb (hz))))))
      clear hN hC hR hS hb hz
      go_upto_region 10 with fail
      generalize (w7.setCell ⟨w.heap.size, 6, none⟩ (.int .i64 (s.ep + 1))) = w8 at *
      clear fz dN0 dN1 dN2 dN3 dN4 dN5 dN6 dN7 dN8 dN9 dN10 dN11 dN12
      obtain ⟨hN, hC, hR, hS, hb, hz⟩ := HX.out
      have kN := GI.out
      have kC : w8.heap[w.heap.size + 1]? = some _ := (GO.out.block _ (lt_heap hC) (by omega)).trans hC
      have kR : w8.heap[w.heap.size + 1 + 1]? = some _ := (GO.out.block _ (lt_heap hR) (by omega)).trans hR
      have kS : w8.heap[w.heap.size + 1 + 1 + 1]? = some _ := (GO.out.block _ (lt_heap hS) (by omega)).trans hS
      have kb : Below w.heap.size w w8 := hb.trans (GO.out.below (B := w.heap.size) (by omega) (by omega))
      have kz : w.heap.size + 4 ≤ w8.heap.size := by have := GO.out.size; omega
      have GO8 := GO.out
      clear HX GI GO hN hC hR hS hb hz
      have hN := kN
      have hC := kC
      have hR := kR
      have hS := kS
      have hb := kb
      have hz := kz
      clear kN kC kR kS kb kz
      have ho : CFO ⟨e, 5, n, M, C⟩ (w.heap.size + 4) w8 (.slice a7 M.length q7) (.slice a8 C.length q8) := HO.out.only GO8 (by omega)
      clear HO GO8
      have HO := Lib.hid ho
      clear ho
      have dN0 := cell_atD hN 0 (v := .int .i64 (s.ep + 1)) rfl
      have dN1 := cell_atD hN 1 (v := .int .i64 s.a.e) rfl
      have dN2 := cell_atD hN 2 (v := .int .i64 s.a.b) rfl
      have dN3 := cell_atD hN 3 (v := .int .i64 s.a.k) rfl
      have dN4 := cell_atD hN 4 (v := .slice a1 s.a.M.length q1) rfl
      have dN5 := cell_atD hN 5 (v := .slice a2 s.a.C.length q2) rfl
      have dN6 := cell_atD hN 6 (v := .int .i64 (s.ep + 1)) rfl
      have dN7 := cell_atD hN 7 (v := .int .i64 5) rfl
      have dN8 := cell_atD hN 8 (v := .int .i64 n) rfl
      have dN9 := cell_atD hN 9 (v := .slice a7 M.length q7) rfl
      have dN10 := cell_atD hN 10 (v := .slice a8 C.length q8) rfl
      have dN11 := cell_atD hN 11 (v := .int .i64 n) rfl
      have dN12 := cell_atD hN 12 (v := .int .i64 s.s1) rfl
      have dR0 := cell_atD hR 0 (v := .int .i64 0) rfl
      have dR1 := cell_atD hR 1 (v := .int .i64 0) rfl
      have dR2 := cell_atD hR 2 (v := .int .i64 0) rfl
      have dR3 := cell_atD hR 3 (v := .int .i64 0) rfl
      have dR4 := cell_atD hR 4 (v := .slice none 0 0) rfl
      have dR5 := cell_atD hR 5 (v := .slice none 0 0) rfl
      have dR6 := cell_atD hR 6 (v := .int .i64 0) rfl
      have dR7 := cell_atD hR 7 (v := .int .i64 0) rfl
      have dR8 := cell_atD hR 8 (v := .int .i64 0) rfl
      have dR9 := cell_atD hR 9 (v := .slice none 0 0) rfl
      have dR10 := cell_atD hR 10 (v := .slice none 0 0) rfl
      have dR11 := cell_atD hR 11 (v := .int .i64 0) rfl
      have dR12 := cell_atD hR 12 (v := .int .i64 0) rfl
      have fz : ∀ j, w8.frozen? ⟨w.heap.size + 1 + 1, j, none⟩ = false := fun j => by simp [World.frozen?, hR]
      have g1 : (w8.setCell ⟨w.heap.size + 1 + 1, 0, none⟩ (.int .i64 (s.ep + 1))).heap[w.heap.size + 1 + 1]? = some (.cells #[.int .i64 (s.ep + 1), .int .i64 0, .int .i64 0, .int .i64 0, .slice none 0 0, .slice none 0 0, .int .i64 0, .int .i64 0, .int .i64 0, .slice none 0 0, .slice none 0 0, .int .i64 0, .int .i64 0] 42) := heap_set_self hR 0 _
      have g2 : ((w8.setCell ⟨w.heap.size + 1 + 1, 0, none⟩ (.int .i64 (s.ep + 1))).setCell ⟨w.heap.size + 1 + 1, 1, none⟩ (.int .i64 s.a.e)).heap[w.heap.size + 1 + 1]? = some (.cells #[.int .i64 (s.ep + 1), .int .i64 s.a.e, .int .i64 0, .int .i64 0, .slice none 0 0, .slice none 0 0, .int .i64 0, .int .i64 0, .int .i64 0, .slice none 0 0, .slice none 0 0, .int .i64 0, .int .i64 0] 42) := heap_set_self g1 1 _
      have g3 : (((w8.setCell ⟨w.heap.size + 1 + 1, 0, none⟩ (.int .i64 (s.ep + 1))).setCell ⟨w.heap.size + 1 + 1, 1, none⟩ (.int .i64 s.a.e)).setCell ⟨w.heap.size + 1 + 1, 2, none⟩ (.int .i64 s.a.b)).heap[w.heap.size + 1 + 1]? = some (.cells #[.int .i64 (s.ep + 1), .int .i64 s.a.e, .int .i64 s.a.b, .int .i64 0, .slice none 0 0, .slice none 0 0, .int .i64 0, .int .i64 0, .int .i64 0, .slice none 0 0, .slice none 0 0, .int .i64 0, .int .i64 0] 42) := heap_set_self g2 2 _
      have g4 : ((((w8.setCell ⟨w.heap.size + 1 + 1, 0, none⟩ (.int .i64 (s.ep + 1))).setCell ⟨w.heap.size + 1 + 1, 1, none⟩ (.int .i64 s.a.e)).setCell ⟨w.heap.size + 1 + 1, 2, none⟩ (.int .i64 s.a.b)).setCell ⟨w.heap.size + 1 + 1, 3, none⟩ (.int .i64 s.a.k)).heap[w.heap.size + 1 + 1]? = some (.cells #[.int .i64 (s.ep + 1), .int .i64 s.a.e, .int .i64 s.a.b, .int .i64 s.a.k, .slice none 0 0, .slice none 0 0, .int .i64 0, .int .i64 0, .int .i64 0, .slice none 0 0, .slice none 0 0, .int .i64 0, .int .i64 0] 42) := heap_set_self g3 3 _
      have g5 : (((((w8.setCell ⟨w.heap.size + 1 + 1, 0, none⟩ (.int .i64 (s.ep + 1))).setCell ⟨w.heap.size + 1 + 1, 1, none⟩ (.int .i64 s.a.e)).setCell ⟨w.heap.size + 1 + 1, 2, none⟩ (.int .i64 s.a.b)).setCell ⟨w.heap.size + 1 + 1, 3, none⟩ (.int .i64 s.a.k)).setCell ⟨w.heap.size + 1 + 1, 4, none⟩ (.slice a1 s.a.M.length q1)).heap[w.heap.size + 1 + 1]? = some (.cells #[.int .i64 (s.ep + 1), .int .i64 s.a.e, .int .i64 s.a.b, .int .i64 s.a.k, .slice a1 s.a.M.length q1, .slice none 0 0, .int .i64 0, .int .i64 0, .int .i64 0, .slice none 0 0, .slice none 0 0, .int .i64 0, .int .i64 0] 42) := heap_set_self g4 4 _
      have g6 : ((((((w8.setCell ⟨w.heap.size + 1 + 1, 0, none⟩ (.int .i64 (s.ep + 1))).setCell ⟨w.heap.size + 1 + 1, 1, none⟩ (.int .i64 s.a.e)).setCell ⟨w.heap.size + 1 + 1, 2, none⟩ (.int .i64 s.a.b)).setCell ⟨w.heap.size + 1 + 1, 3, none⟩ (.int .i64 s.a.k)).setCell ⟨w.heap.size + 1 + 1, 4, none⟩ (.slice a1 s.a.M.length q1)).setCell ⟨w.heap.size + 1 + 1, 5, none⟩ (.slice a2 s.a.C.length q2)).heap[w.heap.size + 1 + 1]? = some (.cells #[.int .i64 (s.ep + 1), .int .i64 s.a.e, .int .i64 s.a.b, .int .i64 s.a.k, .slice a1 s.a.M.length q1, .slice a2 s.a.C.length q2, .int .i64 0, .int .i64 0, .int .i64 0, .slice none 0 0, .slice none 0 0, .int .i64 0, .int .i64 0] 42) := heap_set_self g5 5 _
      have g7 : (((((((w8.setCell ⟨w.heap.size + 1 + 1, 0, none⟩ (.int .i64 (s.ep + 1))).setCell ⟨w.heap.size + 1 + 1, 1, none⟩ (.int .i64 s.a.e)).setCell ⟨w.heap.size + 1 + 1, 2, none⟩ (.int .i64 s.a.b)).setCell ⟨w.heap.size + 1 + 1, 3, none⟩ (.int .i64 s.a.k)).setCell ⟨w.heap.size + 1 + 1, 4, none⟩ (.slice a1 s.a.M.length q1)).setCell ⟨w.heap.size + 1 + 1, 5, none⟩ (.slice a2 s.a.C.length q2)).setCell ⟨w.heap.size + 1 + 1, 6, none⟩ (.int .i64 (s.ep + 1))).heap[w.heap.size + 1 + 1]? = some (.cells #[.int .i64 (s.ep + 1), .int .i64 s.a.e, .int .i64 s.a.b, .int .i64 s.a.k, .slice a1 s.a.M.length q1, .slice a2 s.a.C.length q2, .int .i64 (s.ep + 1), .int .i64 0, .int .i64 0, .slice none 0 0, .slice none 0 0, .int .i64 0, .int .i64 0] 42) := heap_set_self g6 6 _
      have g8 : ((((((((w8.setCell ⟨w.heap.size + 1 + 1, 0, none⟩ (.int .i64 (s.ep + 1))).setCell ⟨w.heap.size + 1 + 1, 1, none⟩ (.int .i64 s.a.e)).setCell ⟨w.heap.size + 1 + 1, 2, none⟩ (.int .i64 s.a.b)).setCell ⟨w.heap.size + 1 + 1, 3, none⟩ (.int .i64 s.a.k)).setCell ⟨w.heap.size + 1 + 1, 4, none⟩ (.slice a1 s.a.M.length q1)).setCell ⟨w.heap.size + 1 + 1, 5, none⟩ (.slice a2 s.a.C.length q2)).setCell ⟨w.heap.size + 1 + 1, 6, none⟩ (.int .i64 (s.ep + 1))).setCell ⟨w.heap.size + 1 + 1, 7, none⟩ (.int .i64 5)).heap[w.heap.size + 1 + 1]? = some (.cells #[.int .i64 (s.ep + 1), .int .i64 s.a.e, .int .i64 s.a.b, .int .i64 s.a.k, .slice a1 s.a.M.length q1, .slice a2 s.a.C.length q2, .int .i64 (s.ep + 1), .int .i64 5, .int .i64 0, .slice none 0 0, .slice none 0 0, .int .i64 0, .int .i64 0] 42) := heap_set_self g7 7 _
      have g9 : (((((((((w8.setCell ⟨w.heap.size + 1 + 1, 0, none⟩ (.int .i64 (s.ep + 1))).setCell ⟨w.heap.size + 1 + 1, 1, none⟩ (.int .i64 s.a.e)).setCell ⟨w.heap.size + 1 + 1, 2, none⟩ (.int .i64 s.a.b)).setCell ⟨w.heap.size + 1 + 1, 3, none⟩ (.int .i64 s.a.k)).setCell ⟨w.heap.size + 1 + 1, 4, none⟩ (.slice a1 s.a.M.length q1)).setCell ⟨w.heap.size + 1 + 1, 5, none⟩ (.slice a2 s.a.C.length q2)).setCell ⟨w.heap.size + 1 + 1, 6, none⟩ (.int .i64 (s.ep + 1))).setCell ⟨w.heap.size + 1 + 1, 7, none⟩ (.int .i64 5)).setCell ⟨w.heap.size + 1 + 1, 8, none⟩ (.int .i64 n)).heap[w.heap.size + 1 + 1]? = some (.cells #[.int .i64 (s.ep + 1), .int .i64 s.a.e, .int .i64 s.a.b, .int .i64 s.a.k, .slice a1 s.a.M.length q1, .slice a2 s.a.C.length q2, .int .i64 (s.ep + 1), .int .i64 5, .int .i64 n, .slice none 0 0, .slice none 0 0, .int .i64 0, .int .i64 0] 42) := heap_set_self g8 8 _
      have g10 : ((((((((((w8.setCell ⟨w.heap.size + 1 + 1, 0, none⟩ (.int .i64 (s.ep + 1))).setCell ⟨w.heap.size + 1 + 1, 1, none⟩ (.int .i64 s.a.e)).setCell ⟨w.heap.size + 1 + 1, 2, none⟩ (.int .i64 s.a.b)).setCell ⟨w.heap.size + 1 + 1, 3, none⟩ (.int .i64 s.a.k)).setCell ⟨w.heap.size + 1 + 1, 4, none⟩ (.slice a1 s.a.M.length q1)).setCell ⟨w.heap.size + 1 + 1, 5, none⟩ (.slice a2 s.a.C.length q2)).setCell ⟨w.heap.size + 1 + 1, 6, none⟩ (.int .i64 (s.ep + 1))).setCell ⟨w.heap.size + 1 + 1, 7, none⟩ (.int .i64 5)).setCell ⟨w.heap.size + 1 + 1, 8, none⟩ (.int .i64 n)).setCell ⟨w.heap.size + 1 + 1, 9, none⟩ (.slice a7 M.length q7)).heap[w.heap.size + 1 + 1]? = some (.cells #[.int .i64 (s.ep + 1), .int .i64 s.a.e, .int .i64 s.a.b, .int .i64 s.a.k, .slice a1 s.a.M.length q1, .slice a2 s.a.C.length q2, .int .i64 (s.ep + 1), .int .i64 5, .int .i64 n, .slice a7 M.length q7, .slice none 0 0, .int .i64 0, .int .i64 0] 42) := heap_set_self g9 9 _
      have g11 : (((((((((((w8.setCell ⟨w.heap.size + 1 + 1, 0, none⟩ (.int .i64 (s.ep + 1))).setCell ⟨w.heap.size + 1 + 1, 1, none⟩ (.int .i64 s.a.e)).setCell ⟨w.heap.size + 1 + 1, 2, none⟩ (.int .i64 s.a.b)).setCell ⟨w.heap.size + 1 + 1, 3, none⟩ (.int .i64 s.a.k)).setCell ⟨w.heap.size + 1 + 1, 4, none⟩ (.slice a1 s.a.M.length q1)).setCell ⟨w.heap.size + 1 + 1, 5, none⟩ (.slice a2 s.a.C.length q2)).setCell ⟨w.heap.size + 1 + 1, 6, none⟩ (.int .i64 (s.ep + 1))).setCell ⟨w.heap.size + 1 + 1, 7, none⟩ (.int .i64 5)).setCell ⟨w.heap.size + 1 + 1, 8, none⟩ (.int .i64 n)).setCell ⟨w.heap.size + 1 + 1, 9, none⟩ (.slice a7 M.length q7)).setCell ⟨w.heap.size + 1 + 1, 10, none⟩ (.slice a8 C.length q8)).heap[w.heap.size + 1 + 1]? = some (.cells #[.int .i64 (s.ep + 1), .int .i64 s.a.e, .int .i64 s.a.b, .int .i64 s.a.k, .slice a1 s.a.M.length q1, .slice a2 s.a.C.length q2, .int .i64 (s.ep + 1), .int .i64 5, .int .i64 n, .slice a7 M.length q7, .slice a8 C.length q8, .int .i64 0, .int .i64 0] 42) := heap_set_self g10 10 _
      have g12 : ((((((((((((w8.setCell ⟨w.heap.size + 1 + 1, 0, none⟩ (.int .i64 (s.ep + 1))).setCell ⟨w.heap.size + 1 + 1, 1, none⟩ (.int .i64 s.a.e)).setCell ⟨w.heap.size + 1 + 1, 2, none⟩ (.int .i64 s.a.b)).setCell ⟨w.heap.size + 1 + 1, 3, none⟩ (.int .i64 s.a.k)).setCell ⟨w.heap.size + 1 + 1, 4, none⟩ (.slice a1 s.a.M.length q1)).setCell ⟨w.heap.size + 1 + 1, 5, none⟩ (.slice a2 s.a.C.length q2)).setCell ⟨w.heap.size + 1 + 1, 6, none⟩ (.int .i64 (s.ep + 1))).setCell ⟨w.heap.size + 1 + 1, 7, none⟩ (.int .i64 5)).setCell ⟨w.heap.size + 1 + 1, 8, none⟩ (.int .i64 n)).setCell ⟨w.heap.size + 1 + 1, 9, none⟩ (.slice a7 M.length q7)).setCell ⟨w.heap.size + 1 + 1, 10, none⟩ (.slice a8 C.length q8)).setCell ⟨w.heap.size + 1 + 1, 11, none⟩ (.int .i64 n)).heap[w.heap.size + 1 + 1]? = some (.cells #[.int .i64 (s.ep + 1), .int .i64 s.a.e, .int .i64 s.a.b, .int .i64 s.a.k, .slice a1 s.a.M.length q1, .slice a2 s.a.C.length q2, .int .i64 (s.ep + 1), .int .i64 5, .int .i64 n, .slice a7 M.length q7, .slice a8 C.length q8, .int .i64 n, .int .i64 0] 42) := heap_set_self g11 11 _
      have g13 : (((((((((((((w8.setCell ⟨w.heap.size + 1 + 1, 0, none⟩ (.int .i64 (s.ep + 1))).setCell ⟨w.heap.size + 1 + 1, 1, none⟩ (.int .i64 s.a.e)).setCell ⟨w.heap.size + 1 + 1, 2, none⟩ (.int .i64 s.a.b)).setCell ⟨w.heap.size + 1 + 1, 3, none⟩ (.int .i64 s.a.k)).setCell ⟨w.heap.size + 1 + 1, 4, none⟩ (.slice a1 s.a.M.length q1)).setCell ⟨w.heap.size + 1 + 1, 5, none⟩ (.slice a2 s.a.C.length q2)).setCell ⟨w.heap.size + 1 + 1, 6, none⟩ (.int .i64 (s.ep + 1))).setCell ⟨w.heap.size + 1 + 1, 7, none⟩ (.int .i64 5)).setCell ⟨w.heap.size + 1 + 1, 8, none⟩ (.int .i64 n)).setCell ⟨w.heap.size + 1 + 1, 9, none⟩ (.slice a7 M.length q7)).setCell ⟨w.heap.size + 1 + 1, 10, none⟩ (.slice a8 C.length q8)).setCell ⟨w.heap.size + 1 + 1, 11, none⟩ (.int .i64 n)).setCell ⟨w.heap.size + 1 + 1, 12, none⟩ (.int .i64 s.s1)).heap[w.heap.size + 1 + 1]? = some (.cells #[.int .i64 (s.ep + 1), .int .i64 s.a.e, .int .i64 s.a.b, .int .i64 s.a.k, .slice a1 s.a.M.length q1, .slice a2 s.a.C.length q2, .int .i64 (s.ep + 1), .int .i64 5, .int .i64 n, .slice a7 M.length q7, .slice a8 C.length q8, .int .i64 n, .int .i64 s.s1] 42) := heap_set_self g12 12 _
      have GI := Lib.hid g13
      have GO := Lib.hid (show Only (w.heap.size + 1 + 1) w8 (((((((((((((w8.setCell ⟨w.heap.size + 1 + 1, 0, none⟩ (.int .i64 (s.ep + 1))).setCell ⟨w.heap.size + 1 + 1, 1, none⟩ (.int .i64 s.a.e)).setCell ⟨w.heap.size + 1 + 1, 2, none⟩ (.int .i64 s.a.b)).setCell ⟨w.heap.size + 1 + 1, 3, none⟩ (.int .i64 s.a.k)).setCell ⟨w.heap.size + 1 + 1, 4, none⟩ (.slice a1 s.a.M.length q1)).setCell ⟨w.heap.size + 1 + 1, 5, none⟩ (.slice a2 s.a.C.length q2)).setCell ⟨w.heap.size + 1 + 1, 6, none⟩ (.int .i64 (s.ep + 1))).setCell ⟨w.heap.size + 1 + 1, 7, none⟩ (.int .i64 5)).setCell ⟨w.heap.size + 1 + 1, 8, none⟩ (.int .i64 n)).setCell ⟨w.heap.size + 1 + 1, 9, none⟩ (.slice a7 M.length q7)).setCell ⟨w.heap.size + 1 + 1, 10, none⟩ (.slice a8 C.length q8)).setCell ⟨w.heap.size + 1 + 1, 11, none⟩ (.int .i64 n)).setCell ⟨w.heap.size + 1 + 1, 12, none⟩ (.int .i64 s.s1)) from ((((((((((((((Only.refl _ _).set 0 _).set 1 _).set 2 _).set 3 _).set 4 _).set 5 _).set 6 _).set 7 _).set 8 _).set 9 _).set 10 _).set 11 _).set 12 _))
      clear g1 g2 g3 g4 g5 g6 g7 g8 g9 g10 g11 g12 g13
      have HB := Lib.hid hb
      have HZ := Lib.hid hz
      clear hN hC hR hS hb hz
      go_wp2_with fail
      generalize (((((((((((((w8.setCell ⟨w.heap.size + 1 + 1, 0, none⟩ (.int .i64 (s.ep + 1))).setCell ⟨w.heap.size + 1 + 1, 1, none⟩ (.int .i64 s.a.e)).setCell ⟨w.heap.size + 1 + 1, 2, none⟩ (.int .i64 s.a.b)).setCell ⟨w.heap.size + 1 + 1, 3, none⟩ (.int .i64 s.a.k)).setCell ⟨w.heap.size + 1 + 1, 4, none⟩ (.slice a1 s.a.M.length q1)).setCell ⟨w.heap.size + 1 + 1, 5, none⟩ (.slice a2 s.a.C.length q2)).setCell ⟨w.heap.size + 1 + 1, 6, none⟩ (.int .i64 (s.ep + 1))).setCell ⟨w.heap.size + 1 + 1, 7, none⟩ (.int .i64 5)).setCell ⟨w.heap.size + 1 + 1, 8, none⟩ (.int .i64 n)).setCell ⟨w.heap.size + 1 + 1, 9, none⟩ (.slice a7 M.length q7)).setCell ⟨w.heap.size + 1 + 1, 10, none⟩ (.slice a8 C.length q8)).setCell ⟨w.heap.size + 1 + 1, 11, none⟩ (.int .i64 n)).setCell ⟨w.heap.size + 1 + 1, 12, none⟩ (.int .i64 s.s1)) = wf at *
      have fi := GI.out
      have s0 := cell_atD fi 0 (v := .int .i64 (s.ep + 1)) rfl
      have s1 := cell_atD fi 1 (v := .int .i64 s.a.e) rfl
      have s2 := cell_atD fi 2 (v := .int .i64 s.a.b) rfl
      have s3 := cell_atD fi 3 (v := .int .i64 s.a.k) rfl
      have s4 := cell_atD fi 4 (v := .slice a1 s.a.M.length q1) rfl
      have s5 := cell_atD fi 5 (v := .slice a2 s.a.C.length q2) rfl
      have s6 := cell_atD fi 6 (v := .int .i64 (s.ep + 1)) rfl
      have s7 := cell_atD fi 7 (v := .int .i64 5) rfl
      have s8 := cell_atD fi 8 (v := .int .i64 n) rfl
      have s9 := cell_atD fi 9 (v := .slice a7 M.length q7) rfl
      have s10 := cell_atD fi 10 (v := .slice a8 C.length q8) rfl
      have s11 := cell_atD fi 11 (v := .int .i64 n) rfl
      have s12 := cell_atD fi 12 (v := .int .i64 s.s1) rfl
      clear fi
      refine bodyPost_ret (v := .agg #[.int .i64 (s.ep + 1), .int .i64 s.a.e, .int .i64 s.a.b, .int .i64 s.a.k, .slice a1 s.a.M.length q1, .slice a2 s.a.C.length q2, .int .i64 (s.ep + 1), .int .i64 5, .int .i64 n, .slice a7 M.length q7, .slice a8 C.length q8, .int .i64 n, .int .i64 s.s1]) (by simp [results, Try.results110, go_sem, s0, s1, s2, s3, s4, s5, s6, s7, s8, s9, s10, s11, s12]) rfl ?_
      have hz := HZ.out
      have hf : Below w.heap.size w wf := HB.out.trans (GO.out.below (B := w.heap.size) (by omega) (by omega))
      rw [prep5_new s e n M C (by omega) (by omega)]
      have ho := (HO.out.only GO.out (by omega)).base (show base ≤ w.heap.size + 4 by omega)
      exact ⟨_, rfl, ⟨_, _, _, _, rfl, h1.below hf, ho, h3, h6⟩, hf⟩
    · have g2' : s.ep ≥ 1048576 := by simpa using g2
      go_quiet (fail)
      clear d0 d1 d2 d3 d4 d5 d6 d7 d8 d9 d10 d11 d12 e0 e1 e2 e3 e4 f0 f1
      generalize hw2 : w1.drewN _ = w2
      obtain ⟨iN, iC, iR, iS, ib, iz⟩ := HX.out
      have e2 : w2.heap = w1.heap := by subst hw2; rfl
      have hN := iN
      have hC := iC
      have hR := iR
      have hS := iS
      rw [← e2] at hN hC hR hS
      have hb : Below w.heap.size w w2 := by subst hw2; exact ⟨ib.os, ib.tape, ib.output, ib.size, ib.block⟩
      have hz : w.heap.size + 4 ≤ w2.heap.size := by subst hw2; exact iz
      clear HX iN iC iR iS ib iz hw2 e2
      go_upto_region 4 with fail
      have dN0 := cell_atD hN 0 (v := .int .i64 s.ep) rfl
      have dN1 := cell_atD hN 1 (v := .int .i64 s.a.e) rfl
      have dN2 := cell_atD hN 2 (v := .int .i64 s.a.b) rfl
      have dN3 := cell_atD hN 3 (v := .int .i64 s.a.k) rfl
      have dN4 := cell_atD hN 4 (v := .slice a1 s.a.M.length q1) rfl
      have dN5 := cell_atD hN 5 (v := .slice a2 s.a.C.length q2) rfl
      have dN6 := cell_atD hN 6 (v := .int .i64 s.n.e) rfl
      have dN7 := cell_atD hN 7 (v := .int .i64 s.n.b) rfl
      have dN8 := cell_atD hN 8 (v := .int .i64 s.n.k) rfl
      have dN9 := cell_atD hN 9 (v := .slice a3 s.n.M.length q3) rfl
      have dN10 := cell_atD hN 10 (v := .slice a4 s.n.C.length q4) rfl
      have dN11 := cell_atD hN 11 (v := .int .i64 s.s0) rfl
      have dN12 := cell_atD hN 12 (v := .int .i64 s.s1) rfl
      have dR0 := cell_atD hR 0 (v := .int .i64 0) rfl
      have dR1 := cell_atD hR 1 (v := .int .i64 0) rfl
      have dR2 := cell_atD hR 2 (v := .int .i64 0) rfl
      have dR3 := cell_atD hR 3 (v := .int .i64 0) rfl
      have dR4 := cell_atD hR 4 (v := .slice none 0 0) rfl
      have dR5 := cell_atD hR 5 (v := .slice none 0 0) rfl
      have dR6 := cell_atD hR 6 (v := .int .i64 0) rfl
      have dR7 := cell_atD hR 7 (v := .int .i64 0) rfl
      have dR8 := cell_atD hR 8 (v := .int .i64 0) rfl
      have dR9 := cell_atD hR 9 (v := .slice none 0 0) rfl
      have dR10 := cell_atD hR 10 (v := .slice none 0 0) rfl
      have dR11 := cell_atD hR 11 (v := .int .i64 0) rfl
      have dR12 := cell_atD hR 12 (v := .int .i64 0) rfl
      have fz : ∀ j, w2.frozen? ⟨w.heap.size + 1 + 1, j, none⟩ = false := fun j => by simp [World.frozen?, hR]
      have g1 : (w2.setCell ⟨w.heap.size + 1 + 1, 0, none⟩ (.int .i64 s.ep)).heap[w.heap.size + 1 + 1]? = some (.cells #[.int .i64 s.ep, .int .i64 0, .int .i64 0, .int .i64 0, .slice none 0 0, .slice none 0 0, .int .i64 0, .int .i64 0, .int .i64 0, .slice none 0 0, .slice none 0 0, .int .i64 0, .int .i64 0] 42) := heap_set_self hR 0 _
      have g2 : ((w2.setCell ⟨w.heap.size + 1 + 1, 0, none⟩ (.int .i64 s.ep)).setCell ⟨w.heap.size + 1 + 1, 1, none⟩ (.int .i64 s.a.e)).heap[w.heap.size + 1 + 1]? = some (.cells #[.int .i64 s.ep, .int .i64 s.a.e, .int .i64 0, .int .i64 0, .slice none 0 0, .slice none 0 0, .int .i64 0, .int .i64 0, .int .i64 0, .slice none 0 0, .slice none 0 0, .int .i64 0, .int .i64 0] 42) := heap_set_self g1 1 _
      have g3 : (((w2.setCell ⟨w.heap.size + 1 + 1, 0, none⟩ (.int .i64 s.ep)).setCell ⟨w.heap.size + 1 + 1, 1, none⟩ (.int .i64 s.a.e)).setCell ⟨w.heap.size + 1 + 1, 2, none⟩ (.int .i64 s.a.b)).heap[w.heap.size + 1 + 1]? = some (.cells #[.int .i64 s.ep, .int .i64 s.a.e, .int .i64 s.a.b, .int .i64 0, .slice none 0 0, .slice none 0 0, .int .i64 0, .int .i64 0, .int .i64 0, .slice none 0 0, .slice none 0 0, .int .i64 0, .int .i64 0] 42) := heap_set_self g2 2 _
      have g4 : ((((w2.setCell ⟨w.heap.size + 1 + 1, 0, none⟩ (.int .i64 s.ep)).setCell ⟨w.heap.size + 1 + 1, 1, none⟩ (.int .i64 s.a.e)).setCell ⟨w.heap.size + 1 + 1, 2, none⟩ (.int .i64 s.a.b)).setCell ⟨w.heap.size + 1 + 1, 3, none⟩ (.int .i64 s.a.k)).heap[w.heap.size + 1 + 1]? = some (.cells #[.int .i64 s.ep, .int .i64 s.a.e, .int .i64 s.a.b, .int .i64 s.a.k, .slice none 0 0, .slice none 0 0, .int .i64 0, .int .i64 0, .int .i64 0, .slice none 0 0, .slice none 0 0, .int .i64 0, .int .i64 0] 42) := heap_set_self g3 3 _
      have g5 : (((((w2.setCell ⟨w.heap.size + 1 + 1, 0, none⟩ (.int .i64 s.ep)).setCell ⟨w.heap.size + 1 + 1, 1, none⟩ (.int .i64 s.a.e)).setCell ⟨w.heap.size + 1 + 1, 2, none⟩ (.int .i64 s.a.b)).setCell ⟨w.heap.size + 1 + 1, 3, none⟩ (.int .i64 s.a.k)).setCell ⟨w.heap.size + 1 + 1, 4, none⟩ (.slice a1 s.a.M.length q1)).heap[w.heap.size + 1 + 1]? = some (.cells #[.int .i64 s.ep, .int .i64 s.a.e, .int .i64 s.a.b, .int .i64 s.a.k, .slice a1 s.a.M.length q1, .slice none 0 0, .int .i64 0, .int .i64 0, .int .i64 0, .slice none 0 0, .slice none 0 0, .int .i64 0, .int .i64 0] 42) := heap_set_self g4 4 _
      have g6 : ((((((w2.setCell ⟨w.heap.size + 1 + 1, 0, none⟩ (.int .i64 s.ep)).setCell ⟨w.heap.size + 1 + 1, 1, none⟩ (.int .i64 s.a.e)).setCell ⟨w.heap.size + 1 + 1, 2, none⟩ (.int .i64 s.a.b)).setCell ⟨w.heap.size + 1 + 1, 3, none⟩ (.int .i64 s.a.k)).setCell ⟨w.heap.size + 1 + 1, 4, none⟩ (.slice a1 s.a.M.length q1)).setCell ⟨w.heap.size + 1 + 1, 5, none⟩ (.slice a2 s.a.C.length q2)).heap[w.heap.size + 1 + 1]? = some (.cells #[.int .i64 s.ep, .int .i64 s.a.e, .int .i64 s.a.b, .int .i64 s.a.k, .slice a1 s.a.M.length q1, .slice a2 s.a.C.length q2, .int .i64 0, .int .i64 0, .int .i64 0, .slice none 0 0, .slice none 0 0, .int .i64 0, .int .i64 0] 42) := heap_set_self g5 5 _
      have g7 : (((((((w2.setCell ⟨w.heap.size + 1 + 1, 0, none⟩ (.int .i64 s.ep)).setCell ⟨w.heap.size + 1 + 1, 1, none⟩ (.int .i64 s.a.e)).setCell ⟨w.heap.size + 1 + 1, 2, none⟩ (.int .i64 s.a.b)).setCell ⟨w.heap.size + 1 + 1, 3, none⟩ (.int .i64 s.a.k)).setCell ⟨w.heap.size + 1 + 1, 4, none⟩ (.slice a1 s.a.M.length q1)).setCell ⟨w.heap.size + 1 + 1, 5, none⟩ (.slice a2 s.a.C.length q2)).setCell ⟨w.heap.size + 1 + 1, 6, none⟩ (.int .i64 s.n.e)).heap[w.heap.size + 1 + 1]? = some (.cells #[.int .i64 s.ep, .int .i64 s.a.e, .int .i64 s.a.b, .int .i64 s.a.k, .slice a1 s.a.M.length q1, .slice a2 s.a.C.length q2, .int .i64 s.n.e, .int .i64 0, .int .i64 0, .slice none 0 0, .slice none 0 0, .int .i64 0, .int .i64 0] 42) := heap_set_self g6 6 _
      have g8 : ((((((((w2.setCell ⟨w.heap.size + 1 + 1, 0, none⟩ (.int .i64 s.ep)).setCell ⟨w.heap.size + 1 + 1, 1, none⟩ (.int .i64 s.a.e)).setCell ⟨w.heap.size + 1 + 1, 2, none⟩ (.int .i64 s.a.b)).setCell ⟨w.heap.size + 1 + 1, 3, none⟩ (.int .i64 s.a.k)).setCell ⟨w.heap.size + 1 + 1, 4, none⟩ (.slice a1 s.a.M.length q1)).setCell ⟨w.heap.size + 1 + 1, 5, none⟩ (.slice a2 s.a.C.length q2)).setCell ⟨w.heap.size + 1 + 1, 6, none⟩ (.int .i64 s.n.e)).setCell ⟨w.heap.size + 1 + 1, 7, none⟩ (.int .i64 s.n.b)).heap[w.heap.size + 1 + 1]? = some (.cells #[.int .i64 s.ep, .int .i64 s.a.e, .int .i64 s.a.b, .int .i64 s.a.k, .slice a1 s.a.M.length q1, .slice a2 s.a.C.length q2, .int .i64 s.n.e, .int .i64 s.n.b, .int .i64 0, .slice none 0 0, .slice none 0 0, .int .i64 0, .int .i64 0] 42) := heap_set_self g7 7 _
      have g9 : (((((((((w2.setCell ⟨w.heap.size + 1 + 1, 0, none⟩ (.int .i64 s.ep)).setCell ⟨w.heap.size + 1 + 1, 1, none⟩ (.int .i64 s.a.e)).setCell ⟨w.heap.size + 1 + 1, 2, none⟩ (.int .i64 s.a.b)).setCell ⟨w.heap.size + 1 + 1, 3, none⟩ (.int .i64 s.a.k)).setCell ⟨w.heap.size + 1 + 1, 4, none⟩ (.slice a1 s.a.M.length q1)).setCell ⟨w.heap.size + 1 + 1, 5, none⟩ (.slice a2 s.a.C.length q2)).setCell ⟨w.heap.size + 1 + 1, 6, none⟩ (.int .i64 s.n.e)).setCell ⟨w.heap.size + 1 + 1, 7, none⟩ (.int .i64 s.n.b)).setCell ⟨w.heap.size + 1 + 1, 8, none⟩ (.int .i64 s.n.k)).heap[w.heap.size + 1 + 1]? = some (.cells #[.int .i64 s.ep, .int .i64 s.a.e, .int .i64 s.a.b, .int .i64 s.a.k, .slice a1 s.a.M.length q1, .slice a2 s.a.C.length q2, .int .i64 s.n.e, .int .i64 s.n.b, .int .i64 s.n.k, .slice none 0 0, .slice none 0 0, .int .i64 0, .int .i64 0] 42) := heap_set_self g8 8 _
      have g10 : ((((((((((w2.setCell ⟨w.heap.size + 1 + 1, 0, none⟩ (.int .i64 s.ep)).setCell ⟨w.heap.size + 1 + 1, 1, none⟩ (.int .i64 s.a.e)).setCell ⟨w.heap.size + 1 + 1, 2, none⟩ (.int .i64 s.a.b)).setCell ⟨w.heap.size + 1 + 1, 3, none⟩ (.int .i64 s.a.k)).setCell ⟨w.heap.size + 1 + 1, 4, none⟩ (.slice a1 s.a.M.length q1)).setCell ⟨w.heap.size + 1 + 1, 5, none⟩ (.slice a2 s.a.C.length q2)).setCell ⟨w.heap.size + 1 + 1, 6, none⟩ (.int .i64 s.n.e)).setCell ⟨w.heap.size + 1 + 1, 7, none⟩ (.int .i64 s.n.b)).setCell ⟨w.heap.size + 1 + 1, 8, none⟩ (.int .i64 s.n.k)).setCell ⟨w.heap.size + 1 + 1, 9, none⟩ (.slice a3 s.n.M.length q3)).heap[w.heap.size + 1 + 1]? = some (.cells #[.int .i64 s.ep, .int .i64 s.a.e, .int .i64 s.a.b, .int .i64 s.a.k, .slice a1 s.a.M.length q1, .slice a2 s.a.C.length q2, .int .i64 s.n.e, .int .i64 s.n.b, .int .i64 s.n.k, .slice a3 s.n.M.length q3, .slice none 0 0, .int .i64 0, .int .i64 0] 42) := heap_set_self g9 9 _
      have g11 : (((((((((((w2.setCell ⟨w.heap.size + 1 + 1, 0, none⟩ (.int .i64 s.ep)).setCell ⟨w.heap.size + 1 + 1, 1, none⟩ (.int .i64 s.a.e)).setCell ⟨w.heap.size + 1 + 1, 2, none⟩ (.int .i64 s.a.b)).setCell ⟨w.heap.size + 1 + 1, 3, none⟩ (.int .i64 s.a.k)).setCell ⟨w.heap.size + 1 + 1, 4, none⟩ (.slice a1 s.a.M.length q1)).setCell ⟨w.heap.size + 1 + 1, 5, none⟩ (.slice a2 s.a.C.length q2)).setCell ⟨w.heap.size + 1 + 1, 6, none⟩ (.int .i64 s.n.e)).setCell ⟨w.heap.size + 1 + 1, 7, none⟩ (.int .i64 s.n.b)).setCell ⟨w.heap.size + 1 + 1, 8, none⟩ (.int .i64 s.n.k)).setCell ⟨w.heap.size + 1 + 1, 9, none⟩ (.slice a3 s.n.M.length q3)).setCell ⟨w.heap.size + 1 + 1, 10, none⟩ (.slice a4 s.n.C.length q4)).heap[w.heap.size + 1 + 1]? = some (.cells #[.int .i64 s.ep, .int .i64 s.a.e, .int .i64 s.a.b, .int .i64 s.a.k, .slice a1 s.a.M.length q1, .slice a2 s.a.C.length q2, .int .i64 s.n.e, .int .i64 s.n.b, .int .i64 s.n.k, .slice a3 s.n.M.length q3, .slice a4 s.n.C.length q4, .int .i64 0, .int .i64 0] 42) := heap_set_self g10 10 _
      have g12 : ((((((((((((w2.setCell ⟨w.heap.size + 1 + 1, 0, none⟩ (.int .i64 s.ep)).setCell ⟨w.heap.size + 1 + 1, 1, none⟩ (.int .i64 s.a.e)).setCell ⟨w.heap.size + 1 + 1, 2, none⟩ (.int .i64 s.a.b)).setCell ⟨w.heap.size + 1 + 1, 3, none⟩ (.int .i64 s.a.k)).setCell ⟨w.heap.size + 1 + 1, 4, none⟩ (.slice a1 s.a.M.length q1)).setCell ⟨w.heap.size + 1 + 1, 5, none⟩ (.slice a2 s.a.C.length q2)).setCell ⟨w.heap.size + 1 + 1, 6, none⟩ (.int .i64 s.n.e)).setCell ⟨w.heap.size + 1 + 1, 7, none⟩ (.int .i64 s.n.b)).setCell ⟨w.heap.size + 1 + 1, 8, none⟩ (.int .i64 s.n.k)).setCell ⟨w.heap.size + 1 + 1, 9, none⟩ (.slice a3 s.n.M.length q3)).setCell ⟨w.heap.size + 1 + 1, 10, none⟩ (.slice a4 s.n.C.length q4)).setCell ⟨w.heap.size + 1 + 1, 11, none⟩ (.int .i64 s.s0)).heap[w.heap.size + 1 + 1]? = some (.cells #[.int .i64 s.ep, .int .i64 s.a.e, .int .i64 s.a.b, .int .i64 s.a.k, .slice a1 s.a.M.length q1, .slice a2 s.a.C.length q2, .int .i64 s.n.e, .int .i64 s.n.b, .int .i64 s.n.k, .slice a3 s.n.M.length q3, .slice a4 s.n.C.length q4, .int .i64 s.s0, .int .i64 0] 42) := heap_set_self g11 11 _
      have g13 : (((((((((((((w2.setCell ⟨w.heap.size + 1 + 1, 0, none⟩ (.int .i64 s.ep)).setCell ⟨w.heap.size + 1 + 1, 1, none⟩ (.int .i64 s.a.e)).setCell ⟨w.heap.size + 1 + 1, 2, none⟩ (.int .i64 s.a.b)).setCell ⟨w.heap.size + 1 + 1, 3, none⟩ (.int .i64 s.a.k)).setCell ⟨w.heap.size + 1 + 1, 4, none⟩ (.slice a1 s.a.M.length q1)).setCell ⟨w.heap.size + 1 + 1, 5, none⟩ (.slice a2 s.a.C.length q2)).setCell ⟨w.heap.size + 1 + 1, 6, none⟩ (.int .i64 s.n.e)).setCell ⟨w.heap.size + 1 + 1, 7, none⟩ (.int .i64 s.n.b)).setCell ⟨w.heap.size + 1 + 1, 8, none⟩ (.int .i64 s.n.k)).setCell ⟨w.heap.size + 1 + 1, 9, none⟩ (.slice a3 s.n.M.length q3)).setCell ⟨w.heap.size + 1 + 1, 10, none⟩ (.slice a4 s.n.C.length q4)).setCell ⟨w.heap.size + 1 + 1, 11, none⟩ (.int .i64 s.s0)).setCell ⟨w.heap.size + 1 + 1, 12, none⟩ (.int .i64 s.s1)).heap[w.heap.size + 1 + 1]? = some (.cells #[.int .i64 s.ep, .int .i64 s.a.e, .int .i64 s.a.b, .int .i64 s.a.k, .slice a1 s.a.M.length q1, .slice a2 s.a.C.length q2, .int .i64 s.n.e, .int .i64 s.n.b, .int .i64 s.n.k, .slice a3 s.n.M.length q3, .slice a4 s.n.C.length q4, .int .i64 s.s0, .int .i64 s.s1] 42) := heap_set_self g12 12 _
      have GI := Lib.hid g13
      have GO := Lib.hid (show Only (w.heap.size + 1 + 1) w2 (((((((((((((w2.setCell ⟨w.heap.size + 1 + 1, 0, none⟩ (.int .i64 s.ep)).setCell ⟨w.heap.size + 1 + 1, 1, none⟩ (.int .i64 s.a.e)).setCell ⟨w.heap.size + 1 + 1, 2, none⟩ (.int .i64 s.a.b)).setCell ⟨w.heap.size + 1 + 1, 3, none⟩ (.int .i64 s.a.k)).setCell ⟨w.heap.size + 1 + 1, 4, none⟩ (.slice a1 s.a.M.length q1)).setCell ⟨w.heap.size + 1 + 1, 5, none⟩ (.slice a2 s.a.C.length q2)).setCell ⟨w.heap.size + 1 + 1, 6, none⟩ (.int .i64 s.n.e)).setCell ⟨w.heap.size + 1 + 1, 7, none⟩ (.int .i64 s.n.b)).setCell ⟨w.heap.size + 1 + 1, 8, none⟩ (.int .i64 s.n.k)).setCell ⟨w.heap.size + 1 + 1, 9, none⟩ (.slice a3 s.n.M.length q3)).setCell ⟨w.heap.size + 1 + 1, 10, none⟩ (.slice a4 s.n.C.length q4)).setCell ⟨w.heap.size + 1 + 1, 11, none⟩ (.int .i64 s.s0)).setCell ⟨w.heap.size + 1 + 1, 12, none⟩ (.int .i64 s.s1)) from ((((((((((((((Only.refl _ _).set 0 _).set 1 _).set 2 _).set 3 _).set 4 _).set 5 _).set 6 _).set 7 _).set 8 _).set 9 _).set 10 _).set 11 _).set 12 _))
      clear g1 g2 g3 g4 g5 g6 g7 g8 g9 g10 g11 g12 g13
      have HB := Lib.hid hb
      have HZ := Lib.hid hz
      clear hN hC hR hS hb hz
      go_wp2_with fail
      generalize (((((((((((((w2.setCell ⟨w.heap.size + 1 + 1, 0, none⟩ (.int .i64 s.ep)).setCell ⟨w.heap.size + 1 + 1, 1, none⟩ (.int .i64 s.a.e)).setCell ⟨w.heap.size + 1 + 1, 2, none⟩ (.int .i64 s.a.b)).setCell ⟨w.heap.size + 1 + 1, 3, none⟩ (.int .i64 s.a.k)).setCell ⟨w.heap.size + 1 + 1, 4, none⟩ (.slice a1 s.a.M.length q1)).setCell ⟨w.heap.size + 1 + 1, 5, none⟩ (.slice a2 s.a.C.length q2)).setCell ⟨w.heap.size + 1 + 1, 6, none⟩ (.int .i64 s.n.e)).setCell ⟨w.heap.size + 1 + 1, 7, none⟩ (.int .i64 s.n.b)).setCell ⟨w.heap.size + 1 + 1, 8, none⟩ (.int .i64 s.n.k)).setCell ⟨w.heap.size + 1 + 1, 9, none⟩ (.slice a3 s.n.M.length q3)).setCell ⟨w.heap.size + 1 + 1, 10, none⟩ (.slice a4 s.n.C.length q4)).setCell ⟨w.heap.size + 1 + 1, 11, none⟩ (.int .i64 s.s0)).setCell ⟨w.heap.size + 1 + 1, 12, none⟩ (.int .i64 s.s1)) = wf at *
      have fi := GI.out
      have s0 := cell_atD fi 0 (v := .int .i64 s.ep) rfl
      have s1 := cell_atD fi 1 (v := .int .i64 s.a.e) rfl
      have s2 := cell_atD fi 2 (v := .int .i64 s.a.b) rfl
      have s3 := cell_atD fi 3 (v := .int .i64 s.a.k) rfl
      have s4 := cell_atD fi 4 (v := .slice a1 s.a.M.length q1) rfl
      have s5 := cell_atD fi 5 (v := .slice a2 s.a.C.length q2) rfl
      have s6 := cell_atD fi 6 (v := .int .i64 s.n.e) rfl
      have s7 := cell_atD fi 7 (v := .int .i64 s.n.b) rfl
      have s8 := cell_atD fi 8 (v := .int .i64 s.n.k) rfl
      have s9 := cell_atD fi 9 (v := .slice a3 s.n.M.length q3) rfl
      have s10 := cell_atD fi 10 (v := .slice a4 s.n.C.length q4) rfl
      have s11 := cell_atD fi 11 (v := .int .i64 s.s0) rfl
      have s12 := cell_atD fi 12 (v := .int .i64 s.s1) rfl
      clear fi
      refine bodyPost_ret (v := .agg #[.int .i64 s.ep, .int .i64 s.a.e, .int .i64 s.a.b, .int .i64 s.a.k, .slice a1 s.a.M.length q1, .slice a2 s.a.C.length q2, .int .i64 s.n.e, .int .i64 s.n.b, .int .i64 s.n.k, .slice a3 s.n.M.length q3, .slice a4 s.n.C.length q4, .int .i64 s.s0, .int .i64 s.s1]) (by simp [results, Try.results110, go_sem, s0, s1, s2, s3, s4, s5, s6, s7, s8, s9, s10, s11, s12]) rfl ?_
      have hz := HZ.out
      have hf : Below w.heap.size w wf := HB.out.trans (GO.out.below (B := w.heap.size) (by omega) (by omega))
      rw [prep5_same s e n M C (by omega)]
      exact ⟨_, rfl, ⟨_, _, _, _, rfl, h1.below hf, h2.below hf, h3, h4⟩, hf⟩
  · have g1' : n ≤ s.s0 := by simpa using g1
    go_quiet (fail)
    clear d0 d1 d2 d3 d4 d5 d6 d7 d8 d9 d10 d11 d12 e0 e1 e2 e3 e4 f0 f1
    generalize hw2 : w1.drewN _ = w2
    obtain ⟨iN, iC, iR, iS, ib, iz⟩ := HX.out
    have e2 : w2.heap = w1.heap := by subst hw2; rfl
    have hN := iN
    have hC := iC
    have hR := iR
    have hS := iS
    rw [← e2] at hN hC hR hS
    have hb : Below w.heap.size w w2 := by subst hw2; exact ⟨ib.os, ib.tape, ib.output, ib.size, ib.block⟩
    have hz : w.heap.size + 4 ≤ w2.heap.size := by subst hw2; exact iz
    clear HX iN iC iR iS ib iz hw2 e2
    go_upto_region 4 with fail
    have dN0 := cell_atD hN 0 (v := .int .i64 s.ep) rfl
    have dN1 := cell_atD hN 1 (v := .int .i64 s.a.e) rfl
    have dN2 := cell_atD hN 2 (v := .int .i64 s.a.b) rfl
    have dN3 := cell_atD hN 3 (v := .int .i64 s.a.k) rfl
    have dN4 := cell_atD hN 4 (v := .slice a1 s.a.M.length q1) rfl
    have dN5 := cell_atD hN 5 (v := .slice a2 s.a.C.length q2) rfl
    have dN6 := cell_atD hN 6 (v := .int .i64 s.n.e) rfl
    have dN7 := cell_atD hN 7 (v := .int .i64 s.n.b) rfl
    have dN8 := cell_atD hN 8 (v := .int .i64 s.n.k) rfl
    have dN9 := cell_atD hN 9 (v := .slice a3 s.n.M.length q3) rfl
    have dN10 := cell_atD hN 10 (v := .slice a4 s.n.C.length q4) rfl
    have dN11 := cell_atD hN 11 (v := .int .i64 s.s0) rfl
    have dN12 := cell_atD hN 12 (v := .int .i64 s.s1) rfl
    have dR0 := cell_atD hR 0 (v := .int .i64 0) rfl
    have dR1 := cell_atD hR 1 (v := .int .i64 0) rfl
    have dR2 := cell_atD hR 2 (v := .int .i64 0) rfl
    have dR3 := cell_atD hR 3 (v := .int .i64 0) rfl
    have dR4 := cell_atD hR 4 (v := .slice none 0 0) rfl
    have dR5 := cell_atD hR 5 (v := .slice none 0 0) rfl
    have dR6 := cell_atD hR 6 (v := .int .i64 0) rfl
    have dR7 := cell_atD hR 7 (v := .int .i64 0) rfl
    have dR8 := cell_atD hR 8 (v := .int .i64 0) rfl
    have dR9 := cell_atD hR 9 (v := .slice none 0 0) rfl
    have dR10 := cell_atD hR 10 (v := .slice none 0 0) rfl
    have dR11 := cell_atD hR 11 (v := .int .i64 0) rfl
    have dR12 := cell_atD hR 12 (v := .int .i64 0) rfl
    have fz : ∀ j, w2.frozen? ⟨w.heap.size + 1 + 1, j, none⟩ = false := fun j => by simp [World.frozen?, hR]
    have g1 : (w2.setCell ⟨w.heap.size + 1 + 1, 0, none⟩ (.int .i64 s.ep)).heap[w.heap.size + 1 + 1]? = some (.cells #[.int .i64 s.ep, .int .i64 0, .int .i64 0, .int .i64 0, .slice none 0 0, .slice none 0 0, .int .i64 0, .int .i64 0, .int .i64 0, .slice none 0 0, .slice none 0 0, .int .i64 0, .int .i64 0] 42) := heap_set_self hR 0 _
    have g2 : ((w2.setCell ⟨w.heap.size + 1 + 1, 0, none⟩ (.int .i64 s.ep)).setCell ⟨w.heap.size + 1 + 1, 1, none⟩ (.int .i64 s.a.e)).heap[w.heap.size + 1 + 1]? = some (.cells #[.int .i64 s.ep, .int .i64 s.a.e, .int .i64 0, .int .i64 0, .slice none 0 0, .slice none 0 0, .int .i64 0, .int .i64 0, .int .i64 0, .slice none 0 0, .slice none 0 0, .int .i64 0, .int .i64 0] 42) := heap_set_self g1 1 _
    have g3 : (((w2.setCell ⟨w.heap.size + 1 + 1, 0, none⟩ (.int .i64 s.ep)).setCell ⟨w.heap.size + 1 + 1, 1, none⟩ (.int .i64 s.a.e)).setCell ⟨w.heap.size + 1 + 1, 2, none⟩ (.int .i64 s.a.b)).heap[w.heap.size + 1 + 1]? = some (.cells #[.int .i64 s.ep, .int .i64 s.a.e, .int .i64 s.a.b, .int .i64 0, .slice none 0 0, .slice none 0 0, .int .i64 0, .int .i64 0, .int .i64 0, .slice none 0 0, .slice none 0 0, .int .i64 0, .int .i64 0] 42) := heap_set_self g2 2 _
    have g4 : ((((w2.setCell ⟨w.heap.size + 1 + 1, 0, none⟩ (.int .i64 s.ep)).setCell ⟨w.heap.size + 1 + 1, 1, none⟩ (.int .i64 s.a.e)).setCell ⟨w.heap.size + 1 + 1, 2, none⟩ (.int .i64 s.a.b)).setCell ⟨w.heap.size + 1 + 1, 3, none⟩ (.int .i64 s.a.k)).heap[w.heap.size + 1 + 1]? = some (.cells #[.int .i64 s.ep, .int .i64 s.a.e, .int .i64 s.a.b, .int .i64 s.a.k, .slice none 0 0, .slice none 0 0, .int .i64 0, .int .i64 0, .int .i64 0, .slice none 0 0, .slice none 0 0, .int .i64 0, .int .i64 0] 42) := heap_set_self g3 3 _
    have g5 : (((((w2.setCell ⟨w.heap.size + 1 + 1, 0, none⟩ (.int .i64 s.ep)).setCell ⟨w.heap.size + 1 + 1, 1, none⟩ (.int .i64 s.a.e)).setCell ⟨w.heap.size + 1 + 1, 2, none⟩ (.int .i64 s.a.b)).setCell ⟨w.heap.size + 1 + 1, 3, none⟩ (.int .i64 s.a.k)).setCell ⟨w.heap.size + 1 + 1, 4, none⟩ (.slice a1 s.a.M.length q1)).heap[w.heap.size + 1 + 1]? = some (.cells #[.int .i64 s.ep, .int .i64 s.a.e, .int .i64 s.a.b, .int .i64 s.a.k, .slice a1 s.a.M.length q1, .slice none 0 0, .int .i64 0, .int .i64 0, .int .i64 0, .slice none 0 0, .slice none 0 0, .int .i64 0, .int .i64 0] 42) := heap_set_self g4 4 _
    have g6 : ((((((w2.setCell ⟨w.heap.size + 1 + 1, 0, none⟩ (.int .i64 s.ep)).setCell ⟨w.heap.size + 1 + 1, 1, none⟩ (.int .i64 s.a.e)).setCell ⟨w.heap.size + 1 + 1, 2, none⟩ (.int .i64 s.a.b)).setCell ⟨w.heap.size + 1 + 1, 3, none⟩ (.int .i64 s.a.k)).setCell ⟨w.heap.size + 1 + 1, 4, none⟩ (.slice a1 s.a.M.length q1)).setCell ⟨w.heap.size + 1 + 1, 5, none⟩ (.slice a2 s.a.C.length q2)).heap[w.heap.size + 1 + 1]? = some (.cells #[.int .i64 s.ep, .int .i64 s.a.e, .int .i64 s.a.b, .int .i64 s.a.k, .slice a1 s.a.M.length q1, .slice a2 s.a.C.length q2, .int .i64 0, .int .i64 0, .int .i64 0, .slice none 0 0, .slice none 0 0, .int .i64 0, .int .i64 0] 42) := heap_set_self g5 5 _
    have g7 : (((((((w2.setCell ⟨w.heap.size + 1 + 1, 0, none⟩ (.int .i64 s.ep)).setCell ⟨w.heap.size + 1 + 1, 1, none⟩ (.int .i64 s.a.e)).setCell ⟨w.heap.size + 1 + 1, 2, none⟩ (.int .i64 s.a.b)).setCell ⟨w.heap.size + 1 + 1, 3, none⟩ (.int .i64 s.a.k)).setCell ⟨w.heap.size + 1 + 1, 4, none⟩ (.slice a1 s.a.M.length q1)).setCell ⟨w.heap.size + 1 + 1, 5, none⟩ (.slice a2 s.a.C.length q2)).setCell ⟨w.heap.size + 1 + 1, 6, none⟩ (.int .i64 s.n.e)).heap[w.heap.size + 1 + 1]? = some (.cells #[.int .i64 s.ep, .int .i64 s.a.e, .int .i64 s.a.b, .int .i64 s.a.k, .slice a1 s.a.M.length q1, .slice a2 s.a.C.length q2, .int .i64 s.n.e, .int .i64 0, .int .i64 0, .slice none 0 0, .slice none 0 0, .int .i64 0, .int .i64 0] 42) := heap_set_self g6 6 _
    have g8 : ((((((((w2.setCell ⟨w.heap.size + 1 + 1, 0, none⟩ (.int .i64 s.ep)).setCell ⟨w.heap.size + 1 + 1, 1, none⟩ (.int .i64 s.a.e)).setCell ⟨w.heap.size + 1 + 1, 2, none⟩ (.int .i64 s.a.b)).setCell ⟨w.heap.size + 1 + 1, 3, none⟩ (.int .i64 s.a.k)).setCell ⟨w.heap.size + 1 + 1, 4, none⟩ (.slice a1 s.a.M.length q1)).setCell ⟨w.heap.size + 1 + 1, 5, none⟩ (.slice a2 s.a.C.length q2)).setCell ⟨w.heap.size + 1 + 1, 6, none⟩ (.int .i64 s.n.e)).setCell ⟨w.heap.size + 1 + 1, 7, none⟩ (.int .i64 s.n.b)).heap[w.heap.size + 1 + 1]? = some (.cells #[.int .i64 s.ep, .int .i64 s.a.e, .int .i64 s.a.b, .int .i64 s.a.k, .slice a1 s.a.M.length q1, .slice a2 s.a.C.length q2, .int .i64 s.n.e, .int .i64 s.n.b, .int .i64 0, .slice none 0 0, .slice none 0 0, .int .i64 0, .int .i64 0] 42) := heap_set_self g7 7 _
    have g9 : (((((((((w2.setCell ⟨w.heap.size + 1 + 1, 0, none⟩ (.int .i64 s.ep)).setCell ⟨w.heap.size + 1 + 1, 1, none⟩ (.int .i64 s.a.e)).setCell ⟨w.heap.size + 1 + 1, 2, none⟩ (.int .i64 s.a.b)).setCell ⟨w.heap.size + 1 + 1, 3, none⟩ (.int .i64 s.a.k)).setCell ⟨w.heap.size + 1 + 1, 4, none⟩ (.slice a1 s.a.M.length q1)).setCell ⟨w.heap.size + 1 + 1, 5, none⟩ (.slice a2 s.a.C.length q2)).setCell ⟨w.heap.size + 1 + 1, 6, none⟩ (.int .i64 s.n.e)).setCell ⟨w.heap.size + 1 + 1, 7, none⟩ (.int .i64 s.n.b)).setCell ⟨w.heap.size + 1 + 1, 8, none⟩ (.int .i64 s.n.k)).heap[w.heap.size + 1 + 1]? = some (.cells #[.int .i64 s.ep, .int .i64 s.a.e, .int .i64 s.a.b, .int .i64 s.a.k, .slice a1 s.a.M.length q1, .slice a2 s.a.C.length q2, .int .i64 s.n.e, .int .i64 s.n.b, .int .i64 s.n.k, .slice none 0 0, .slice none 0 0, .int .i64 0, .int .i64 0] 42) := heap_set_self g8 8 _
    have g10 : ((((((((((w2.setCell ⟨w.heap.size + 1 + 1, 0, none⟩ (.int .i64 s.ep)).setCell ⟨w.heap.size + 1 + 1, 1, none⟩ (.int .i64 s.a.e)).setCell ⟨w.heap.size + 1 + 1, 2, none⟩ (.int .i64 s.a.b)).setCell ⟨w.heap.size + 1 + 1, 3, none⟩ (.int .i64 s.a.k)).setCell ⟨w.heap.size + 1 + 1, 4, none⟩ (.slice a1 s.a.M.length q1)).setCell ⟨w.heap.size + 1 + 1, 5, none⟩ (.slice a2 s.a.C.length q2)).setCell ⟨w.heap.size + 1 + 1, 6, none⟩ (.int .i64 s.n.e)).setCell ⟨w.heap.size + 1 + 1, 7, none⟩ (.int .i64 s.n.b)).setCell ⟨w.heap.size + 1 + 1, 8, none⟩ (.int .i64 s.n.k)).setCell ⟨w.heap.size + 1 + 1, 9, none⟩ (.slice a3 s.n.M.length q3)).heap[w.heap.size + 1 + 1]? = some (.cells #[.int .i64 s.ep, .int .i64 s.a.e, .int .i64 s.a.b, .int .i64 s.a.k, .slice a1 s.a.M.length q1, .slice a2 s.a.C.length q2, .int .i64 s.n.e, .int .i64 s.n.b, .int .i64 s.n.k, .slice a3 s.n.M.length q3, .slice none 0 0, .int .i64 0, .int .i64 0] 42) := heap_set_self g9 9 _
    have g11 : (((((((((((w2.setCell ⟨w.heap.size + 1 + 1, 0, none⟩ (.int .i64 s.ep)).setCell ⟨w.heap.size + 1 + 1, 1, none⟩ (.int .i64 s.a.e)).setCell ⟨w.heap.size + 1 + 1, 2, none⟩ (.int .i64 s.a.b)).setCell ⟨w.heap.size + 1 + 1, 3, none⟩ (.int .i64 s.a.k)).setCell ⟨w.heap.size + 1 + 1, 4, none⟩ (.slice a1 s.a.M.length q1)).setCell ⟨w.heap.size + 1 + 1, 5, none⟩ (.slice a2 s.a.C.length q2)).setCell ⟨w.heap.size + 1 + 1, 6, none⟩ (.int .i64 s.n.e)).setCell ⟨w.heap.size + 1 + 1, 7, none⟩ (.int .i64 s.n.b)).setCell ⟨w.heap.size + 1 + 1, 8, none⟩ (.int .i64 s.n.k)).setCell ⟨w.heap.size + 1 + 1, 9, none⟩ (.slice a3 s.n.M.length q3)).setCell ⟨w.heap.size + 1 + 1, 10, none⟩ (.slice a4 s.n.C.length q4)).heap[w.heap.size + 1 + 1]? = some (.cells #[.int .i64 s.ep, .int .i64 s.a.e, .int .i64 s.a.b, .int .i64 s.a.k, .slice a1 s.a.M.length q1, .slice a2 s.a.C.length q2, .int .i64 s.n.e, .int .i64 s.n.b, .int .i64 s.n.k, .slice a3 s.n.M.length q3, .slice a4 s.n.C.length q4, .int .i64 0, .int .i64 0] 42) := heap_set_self g10 10 _
    have g12 : ((((((((((((w2.setCell ⟨w.heap.size + 1 + 1, 0, none⟩ (.int .i64 s.ep)).setCell ⟨w.heap.size + 1 + 1, 1, none⟩ (.int .i64 s.a.e)).setCell ⟨w.heap.size + 1 + 1, 2, none⟩ (.int .i64 s.a.b)).setCell ⟨w.heap.size + 1 + 1, 3, none⟩ (.int .i64 s.a.k)).setCell ⟨w.heap.size + 1 + 1, 4, none⟩ (.slice a1 s.a.M.length q1)).setCell ⟨w.heap.size + 1 + 1, 5, none⟩ (.slice a2 s.a.C.length q2)).setCell ⟨w.heap.size + 1 + 1, 6, none⟩ (.int .i64 s.n.e)).setCell ⟨w.heap.size + 1 + 1, 7, none⟩ (.int .i64 s.n.b)).setCell ⟨w.heap.size + 1 + 1, 8, none⟩ (.int .i64 s.n.k)).setCell ⟨w.heap.size + 1 + 1, 9, none⟩ (.slice a3 s.n.M.length q3)).setCell ⟨w.heap.size + 1 + 1, 10, none⟩ (.slice a4 s.n.C.length q4)).setCell ⟨w.heap.size + 1 + 1, 11, none⟩ (.int .i64 s.s0)).heap[w.heap.size + 1 + 1]? = some (.cells #[.int .i64 s.ep, .int .i64 s.a.e, .int .i64 s.a.b, .int .i64 s.a.k, .slice a1 s.a.M.length q1, .slice a2 s.a.C.length q2, .int .i64 s.n.e, .int .i64 s.n.b, .int .i64 s.n.k, .slice a3 s.n.M.length q3, .slice a4 s.n.C.length q4, .int .i64 s.s0, .int .i64 0] 42) := heap_set_self g11 11 _
    have g13 : (((((((((((((w2.setCell ⟨w.heap.size + 1 + 1, 0, none⟩ (.int .i64 s.ep)).setCell ⟨w.heap.size + 1 + 1, 1, none⟩ (.int .i64 s.a.e)).setCell ⟨w.heap.size + 1 + 1, 2, none⟩ (.int .i64 s.a.b)).setCell ⟨w.heap.size + 1 + 1, 3, none⟩ (.int .i64 s.a.k)).setCell ⟨w.heap.size + 1 + 1, 4, none⟩ (.slice a1 s.a.M.length q1)).setCell ⟨w.heap.size + 1 + 1, 5, none⟩ (.slice a2 s.a.C.length q2)).setCell ⟨w.heap.size + 1 + 1, 6, none⟩ (.int .i64 s.n.e)).setCell ⟨w.heap.size + 1 + 1, 7, none⟩ (.int .i64 s.n.b)).setCell ⟨w.heap.size + 1 + 1, 8, none⟩ (.int .i64 s.n.k)).setCell ⟨w.heap.size + 1 + 1, 9, none⟩ (.slice a3 s.n.M.length q3)).setCell ⟨w.heap.size + 1 + 1, 10, none⟩ (.slice a4 s.n.C.length q4)).setCell ⟨w.heap.size + 1 + 1, 11, none⟩ (.int .i64 s.s0)).setCell ⟨w.heap.size + 1 + 1, 12, none⟩ (.int .i64 s.s1)).heap[w.heap.size + 1 + 1]? = some (.cells #[.int .i64 s.ep, .int .i64 s.a.e, .int .i64 s.a.b, .int .i64 s.a.k, .slice a1 s.a.M.length q1, .slice a2 s.a.C.length q2, .int .i64 s.n.e, .int .i64 s.n.b, .int .i64 s.n.k, .slice a3 s.n.M.length q3, .slice a4 s.n.C.length q4, .int .i64 s.s0, .int .i64 s.s1] 42) := heap_set_self g12 12 _
    have GI := Lib.hid g13
    have GO := Lib.hid (show Only (w.heap.size + 1 + 1) w2 (((((((((((((w2.setCell ⟨w.heap.size + 1 + 1, 0, none⟩ (.int .i64 s.ep)).setCell ⟨w.heap.size + 1 + 1, 1, none⟩ (.int .i64 s.a.e)).setCell ⟨w.heap.size + 1 + 1, 2, none⟩ (.int .i64 s.a.b)).setCell ⟨w.heap.size + 1 + 1, 3, none⟩ (.int .i64 s.a.k)).setCell ⟨w.heap.size + 1 + 1, 4, none⟩ (.slice a1 s.a.M.length q1)).setCell ⟨w.heap.size + 1 + 1, 5, none⟩ (.slice a2 s.a.C.length q2)).setCell ⟨w.heap.size + 1 + 1, 6, none⟩ (.int .i64 s.n.e)).setCell ⟨w.heap.size + 1 + 1, 7, none⟩ (.int .i64 s.n.b)).setCell ⟨w.heap.size + 1 + 1, 8, none⟩ (.int .i64 s.n.k)).setCell ⟨w.heap.size + 1 + 1, 9, none⟩ (.slice a3 s.n.M.length q3)).setCell ⟨w.heap.size + 1 + 1, 10, none⟩ (.slice a4 s.n.C.length q4)).setCell ⟨w.heap.size + 1 + 1, 11, none⟩ (.int .i64 s.s0)).setCell ⟨w.heap.size + 1 + 1, 12, none⟩ (.int .i64 s.s1)) from ((((((((((((((Only.refl _ _).set 0 _).set 1 _).set 2 _).set 3 _).set 4 _).set 5 _).set 6 _).set 7 _).set 8 _).set 9 _).set 10 _).set 11 _).set 12 _))
    clear g1 g2 g3 g4 g5 g6 g7 g8 g9 g10 g11 g12 g13
    have HB := Lib.hid hb
    have HZ := Lib.hid hz
    clear hN hC hR hS hb hz
    go_wp2_with fail
    generalize (((((((((((((w2.setCell ⟨w.heap.size + 1 + 1, 0, none⟩ (.int .i64 s.ep)).setCell ⟨w.heap.size + 1 + 1, 1, none⟩ (.int .i64 s.a.e)).setCell ⟨w.heap.size + 1 + 1, 2, none⟩ (.int .i64 s.a.b)).setCell ⟨w.heap.size + 1 + 1, 3, none⟩ (.int .i64 s.a.k)).setCell ⟨w.heap.size + 1 + 1, 4, none⟩ (.slice a1 s.a.M.length q1)).setCell ⟨w.heap.size + 1 + 1, 5, none⟩ (.slice a2 s.a.C.length q2)).setCell ⟨w.heap.size + 1 + 1, 6, none⟩ (.int .i64 s.n.e)).setCell ⟨w.heap.size + 1 + 1, 7, none⟩ (.int .i64 s.n.b)).setCell ⟨w.heap.size + 1 + 1, 8, none⟩ (.int .i64 s.n.k)).setCell ⟨w.heap.size + 1 + 1, 9, none⟩ (.slice a3 s.n.M.length q3)).setCell ⟨w.heap.size + 1 + 1, 10, none⟩ (.slice a4 s.n.C.length q4)).setCell ⟨w.heap.size + 1 + 1, 11, none⟩ (.int .i64 s.s0)).setCell ⟨w.heap.size + 1 + 1, 12, none⟩ (.int .i64 s.s1)) = wf at *
    have fi := GI.out
    have s0 := cell_atD fi 0 (v := .int .i64 s.ep) rfl
    have s1 := cell_atD fi 1 (v := .int .i64 s.a.e) rfl
    have s2 := cell_atD fi 2 (v := .int .i64 s.a.b) rfl
    have s3 := cell_atD fi 3 (v := .int .i64 s.a.k) rfl
    have s4 := cell_atD fi 4 (v := .slice a1 s.a.M.length q1) rfl
    have s5 := cell_atD fi 5 (v := .slice a2 s.a.C.length q2) rfl
    have s6 := cell_atD fi 6 (v := .int .i64 s.n.e) rfl
    have s7 := cell_atD fi 7 (v := .int .i64 s.n.b) rfl
    have s8 := cell_atD fi 8 (v := .int .i64 s.n.k) rfl
    have s9 := cell_atD fi 9 (v := .slice a3 s.n.M.length q3) rfl
    have s10 := cell_atD fi 10 (v := .slice a4 s.n.C.length q4) rfl
    have s11 := cell_atD fi 11 (v := .int .i64 s.s0) rfl
    have s12 := cell_atD fi 12 (v := .int .i64 s.s1) rfl
    clear fi
    refine bodyPost_ret (v := .agg #[.int .i64 s.ep, .int .i64 s.a.e, .int .i64 s.a.b, .int .i64 s.a.k, .slice a1 s.a.M.length q1, .slice a2 s.a.C.length q2, .int .i64 s.n.e, .int .i64 s.n.b, .int .i64 s.n.k, .slice a3 s.n.M.length q3, .slice a4 s.n.C.length q4, .int .i64 s.s0, .int .i64 s.s1]) (by simp [results, Try.results110, go_sem, s0, s1, s2, s3, s4, s5, s6, s7, s8, s9, s10, s11, s12]) rfl ?_
    have hz := HZ.out
    have hf : Below w.heap.size w wf := HB.out.trans (GO.out.below (B := w.heap.size) (by omega) (by omega))
    rw [prep5_same s e n M C (by omega)]
    exact ⟨_, rfl, ⟨_, _, _, _, rfl, h1.below hf, h2.below hf, h3, h4⟩, hf⟩
set_option maxHeartbeats 1600000 in
set_option maxRecDepth 20000 in
theorem dprep6 (s : DS) (e n : Int) (M C : List Int) (a1 a2 a3 a4 a5 a6 : Option Addr) (q1 q2 q3 q4 q5 q6 : Nat) (w : World) (base : Nat) (hbase : base ≤ w.heap.size) (h1 : CFO s.a base w (.slice a1 s.a.M.length q1) (.slice a2 s.a.C.length q2)) (h2 : CFO s.n base w (.slice a3 s.n.M.length q3) (.slice a4 s.n.C.length q4)) (h3 : short s.a) (h4 : short s.n) (h5 : CFat ⟨e, 6, n, M, C⟩ w (.slice a5 M.length q5) (.slice a6 C.length q6)) (h6 : short ⟨e, 6, n, M, C⟩) (h0 : 0 ≤ s.ep) :
    Calls Try.prog 110 #[.agg (stA s.ep s.a (.slice a1 s.a.M.length q1) (.slice a2 s.a.C.length q2) s.n (.slice a3 s.n.M.length q3) (.slice a4 s.n.C.length q4) s.s0 s.s1), .agg #[.int .i64 e, .int .i64 6, .int .i64 n, .slice a5 M.length q5, .slice a6 C.length q6]] w fun ev w' => ∃ v', ev = .returned v' ∧ SVB (prepS s ⟨e, 6, n, M, C⟩) base w' v' ∧ Below w.heap.size w w' := by
  unfold stA
  obtain ⟨hN, hC, hR, hS, hb, hz⟩ := four_blocks w (.cells #[.int .i64 s.ep, .int .i64 s.a.e, .int .i64 s.a.b, .int .i64 s.a.k, .slice a1 s.a.M.length q1, .slice a2 s.a.C.length q2, .int .i64 s.n.e, .int .i64 s.n.b, .int .i64 s.n.k, .slice a3 s.n.M.length q3, .slice a4 s.n.C.length q4, .int .i64 s.s0, .int .i64 s.s1] 42) (.cells #[.int .i64 e, .int .i64 6, .int .i64 n, .slice a5 M.length q5, .slice a6 C.length q6] 24) (.cells #[.int .i64 0, .int .i64 0, .int .i64 0, .int .i64 0, .slice none 0 0, .slice none 0 0, .int .i64 0, .int .i64 0, .int .i64 0, .slice none 0 0, .slice none 0 0, .int .i64 0, .int .i64 0] 42) (.cells #[.int .i64 s.s0, .int .i64 s.s1] 40)
  go_enter Try.func110, Try.ntmps110
  go_upto_region 2 with fail
  generalize (((w.alloc (.cells #[.int .i64 s.ep, .int .i64 s.a.e, .int .i64 s.a.b, .int .i64 s.a.k, .slice a1 s.a.M.length q1, .slice a2 s.a.C.length q2, .int .i64 s.n.e, .int .i64 s.n.b, .int .i64 s.n.k, .slice a3 s.n.M.length q3, .slice a4 s.n.C.length q4, .int .i64 s.s0, .int .i64 s.s1] 42)).alloc (.cells #[.int .i64 e, .int .i64 6, .int .i64 n, .slice a5 M.length q5, .slice a6 C.length q6] 24)).alloc (.cells #[.int .i64 0, .int .i64 0, .int .i64 0, .int .i64 0, .slice none 0 0, .slice none 0 0, .int .i64 0, .int .i64 0, .int .i64 0, .slice none 0 0, .slice none 0 0, .int .i64 0, .int .i64 0] 42)).alloc (.cells #[.int .i64 s.s0, .int .i64 s.s1] 40) = w1 at *
  have hz := Nat.le_of_eq hz.symm
  have HX := Lib.hid (And.intro hN (And.intro hC (And.intro hR (And.intro hS (And.intro hb hz)))))
  have d0 := cell_atD hN 0 (v := .int .i64 s.ep) rfl
  have d1 := cell_atD hN 1 (v := .int .i64 s.a.e) rfl
  have d2 := cell_atD hN 2 (v := .int .i64 s.a.b) rfl
  have d3 := cell_atD hN 3 (v := .int .i64 s.a.k) rfl
  have d4 := cell_atD hN 4 (v := .slice a1 s.a.M.length q1) rfl
  have d5 := cell_atD hN 5 (v := .slice a2 s.a.C.length q2) rfl
  have d6 := cell_atD hN 6 (v := .int .i64 s.n.e) rfl
  have d7 := cell_atD hN 7 (v := .int .i64 s.n.b) rfl
  have d8 := cell_atD hN 8 (v := .int .i64 s.n.k) rfl
  have d9 := cell_atD hN 9 (v := .slice a3 s.n.M.length q3) rfl
  have d10 := cell_atD hN 10 (v := .slice a4 s.n.C.length q4) rfl
  have d11 := cell_atD hN 11 (v := .int .i64 s.s0) rfl
  have d12 := cell_atD hN 12 (v := .int .i64 s.s1) rfl
  have e0 := cell_atD hC 0 (v := .int .i64 e) rfl
  have e1 := cell_atD hC 1 (v := .int .i64 6) rfl
  have e2 := cell_atD hC 2 (v := .int .i64 n) rfl
  have e3 := cell_atD hC 3 (v := .slice a5 M.length q5) rfl
  have e4 := cell_atD hC 4 (v := .slice a6 C.length q6) rfl
  have f0 := cell_atD hS 0 (v := .int .i64 s.s0) rfl
  have f1 := cell_atD hS 1 (v := .int .i64 s.s1) rfl
  clear hN hC hR hS hb hz
  go_upto_region 3 with fail
  rcases g1 : decide (n ≤ s.s1)
  · have g1' : ¬ (n ≤ s.s1) := by simpa using g1
    rcases g2 : decide (s.ep ≥ 1048576)
    · have g2' : ¬ (s.ep ≥ 1048576) := by simpa using g2
      go_quiet (fail)
      clear d0 d1 d2 d3 d4 d5 d6 d7 d8 d9 d10 d11 d12 e0 e1 e2 e3 e4 f0 f1
      generalize hw2 : w1.drewN _ = w2
      obtain ⟨iN, iC, iR, iS, ib, iz⟩ := HX.out
      have e2 : w2.heap = w1.heap := by subst hw2; rfl
      have hN := iN
      have hC := iC
      have hR := iR
      have hS := iS
      rw [← e2] at hN hC hR hS
      have hb : Below w.heap.size w w2 := by subst hw2; exact ⟨ib.os, ib.tape, ib.output, ib.size, ib.block⟩
      have hz : w.heap.size + 4 ≤ w2.heap.size := by subst hw2; exact iz
      clear HX iN iC iR iS ib iz hw2 e2
      go_upto_region 5 with fail
      have dC0 := cell_atD hC 0 (v := .int .i64 e) rfl
      have dC1 := cell_atD hC 1 (v := .int .i64 6) rfl
      have dC2 := cell_atD hC 2 (v := .int .i64 n) rfl
      have dC3 := cell_atD hC 3 (v := .slice a5 M.length q5) rfl
      have dC4 := cell_atD hC 4 (v := .slice a6 C.length q6) rfl
      have dS0 := cell_atD hS 0 (v := .int .i64 s.s0) rfl
      have dS1 := cell_atD hS 1 (v := .int .i64 s.s1) rfl
      have fz : ∀ j, w2.frozen? ⟨w.heap.size + 1 + 1 + 1, j, none⟩ = false := fun j => by simp [World.frozen?, hS]
      have g1 : (w2.setCell ⟨w.heap.size + 1 + 1 + 1, 1, none⟩ (.int .i64 n)).heap[w.heap.size + 1 + 1 + 1]? = some (.cells #[.int .i64 s.s0, .int .i64 n] 40) := heap_set_self hS 1 _
      have GI := Lib.hid g1
      have GO := Lib.hid (show Only (w.heap.size + 1 + 1 + 1) w2 (w2.setCell ⟨w.heap.size + 1 + 1 + 1, 1, none⟩ (.int .i64 n)) from ((Only.refl _ _).set 1 _))
      clear g1
      have HX := Lib.hid (And.intro hN (And.intro hC (And.intro hR (And.intro hS (And.intro hb (hz))))))
      clear hN hC hR hS hb hz
      go_upto_region 6 with fail
      generalize (w2.setCell ⟨w.heap.size + 1 + 1 + 1, 1, none⟩ (.int .i64 n)) = w3 at *
      clear fz dC0 dC1 dC2 dC3 dC4 dS0 dS1
      obtain ⟨hN, hC, hR, hS, hb, hz⟩ := HX.out
      have kN : w3.heap[w.heap.size]? = some _ := (GO.out.block _ (lt_heap hN) (by omega)).trans hN
      have kC : w3.heap[w.heap.size + 1]? = some _ := (GO.out.block _ (lt_heap hC) (by omega)).trans hC
      have kR : w3.heap[w.heap.size + 1 + 1]? = some _ := (GO.out.block _ (lt_heap hR) (by omega)).trans hR
      have kS := GI.out
      have kb : Below w.heap.size w w3 := hb.trans (GO.out.below (B := w.heap.size) (by omega) (by omega))
      have kz : w.heap.size + 4 ≤ w3.heap.size := by have := GO.out.size; omega
      clear HX GI GO hN hC hR hS hb hz
      have hN := kN
      have hC := kC
      have hR := kR
      have hS := kS
      have hb := kb
      have hz := kz
      clear kN kC kR kS kb kz
      have dS0 := cell_atD hS 0 (v := .int .i64 s.s0) rfl
      have dS1 := cell_atD hS 1 (v := .int .i64 n) rfl
      have dN0 := cell_atD hN 0 (v := .int .i64 s.ep) rfl
      have dN1 := cell_atD hN 1 (v := .int .i64 s.a.e) rfl
      have dN2 := cell_atD hN 2 (v := .int .i64 s.a.b) rfl
      have dN3 := cell_atD hN 3 (v := .int .i64 s.a.k) rfl
      have dN4 := cell_atD hN 4 (v := .slice a1 s.a.M.length q1) rfl
      have dN5 := cell_atD hN 5 (v := .slice a2 s.a.C.length q2) rfl
      have dN6 := cell_atD hN 6 (v := .int .i64 s.n.e) rfl
      have dN7 := cell_atD hN 7 (v := .int .i64 s.n.b) rfl
      have dN8 := cell_atD hN 8 (v := .int .i64 s.n.k) rfl
      have dN9 := cell_atD hN 9 (v := .slice a3 s.n.M.length q3) rfl
      have dN10 := cell_atD hN 10 (v := .slice a4 s.n.C.length q4) rfl
      have dN11 := cell_atD hN 11 (v := .int .i64 s.s0) rfl
      have dN12 := cell_atD hN 12 (v := .int .i64 s.s1) rfl
      have fz : ∀ j, w3.frozen? ⟨w.heap.size, j, none⟩ = false := fun j => by simp [World.frozen?, hN]
      have g1 : (w3.setCell ⟨w.heap.size, 11, none⟩ (.int .i64 s.s0)).heap[w.heap.size]? = some (.cells #[.int .i64 s.ep, .int .i64 s.a.e, .int .i64 s.a.b, .int .i64 s.a.k, .slice a1 s.a.M.length q1, .slice a2 s.a.C.length q2, .int .i64 s.n.e, .int .i64 s.n.b, .int .i64 s.n.k, .slice a3 s.n.M.length q3, .slice a4 s.n.C.length q4, .int .i64 s.s0, .int .i64 s.s1] 42) := heap_set_self hN 11 _
      have g2 : ((w3.setCell ⟨w.heap.size, 11, none⟩ (.int .i64 s.s0)).setCell ⟨w.heap.size, 12, none⟩ (.int .i64 n)).heap[w.heap.size]? = some (.cells #[.int .i64 s.ep, .int .i64 s.a.e, .int .i64 s.a.b, .int .i64 s.a.k, .slice a1 s.a.M.length q1, .slice a2 s.a.C.length q2, .int .i64 s.n.e, .int .i64 s.n.b, .int .i64 s.n.k, .slice a3 s.n.M.length q3, .slice a4 s.n.C.length q4, .int .i64 s.s0, .int .i64 n] 42) := heap_set_self g1 12 _
      have GI := Lib.hid g2
      have GO := Lib.hid (show Only (w.heap.size) w3 ((w3.setCell ⟨w.heap.size, 11, none⟩ (.int .i64 s.s0)).setCell ⟨w.heap.size, 12, none⟩ (.int .i64 n)) from (((Only.refl _ _).set 11 _).set 12 _))
      clear g1 g2
      have HX := Lib.hid (And.intro hN (And.intro hC (And.intro hR (And.intro hS (And.intro hb (hz))))))
      clear hN hC hR hS hb hz
      go_upto_region 7 with fail
      generalize ((w3.setCell ⟨w.heap.size, 11, none⟩ (.int .i64 s.s0)).setCell ⟨w.heap.size, 12, none⟩ (.int .i64 n)) = w4 at *
      clear fz dS0 dS1 dN0 dN1 dN2 dN3 dN4 dN5 dN6 dN7 dN8 dN9 dN10 dN11 dN12
      obtain ⟨hN, hC, hR, hS, hb, hz⟩ := HX.out
      have kN := GI.out
      have kC : w4.heap[w.heap.size + 1]? = some _ := (GO.out.block _ (lt_heap hC) (by omega)).trans hC
      have kR : w4.heap[w.heap.size + 1 + 1]? = some _ := (GO.out.block _ (lt_heap hR) (by omega)).trans hR
      have kS : w4.heap[w.heap.size + 1 + 1 + 1]? = some _ := (GO.out.block _ (lt_heap hS) (by omega)).trans hS
      have kb : Below w.heap.size w w4 := hb.trans (GO.out.below (B := w.heap.size) (by omega) (by omega))
      have kz : w.heap.size + 4 ≤ w4.heap.size := by have := GO.out.size; omega
      clear HX GI GO hN hC hR hS hb hz
      have hN := kN
      have hC := kC
      have hR := kR
      have hS := kS
      have hb := kb
      have hz := kz
      clear kN kC kR kS kb kz
      have dN0 := cell_atD hN 0 (v := .int .i64 s.ep) rfl
      have dN1 := cell_atD hN 1 (v := .int .i64 s.a.e) rfl
      have dN2 := cell_atD hN 2 (v := .int .i64 s.a.b) rfl
      have dN3 := cell_atD hN 3 (v := .int .i64 s.a.k) rfl
      have dN4 := cell_atD hN 4 (v := .slice a1 s.a.M.length q1) rfl
      have dN5 := cell_atD hN 5 (v := .slice a2 s.a.C.length q2) rfl
      have dN6 := cell_atD hN 6 (v := .int .i64 s.n.e) rfl
      have dN7 := cell_atD hN 7 (v := .int .i64 s.n.b) rfl
      have dN8 := cell_atD hN 8 (v := .int .i64 s.n.k) rfl
      have dN9 := cell_atD hN 9 (v := .slice a3 s.n.M.length q3) rfl
      have dN10 := cell_atD hN 10 (v := .slice a4 s.n.C.length q4) rfl
      have dN11 := cell_atD hN 11 (v := .int .i64 s.s0) rfl
      have dN12 := cell_atD hN 12 (v := .int .i64 n) rfl
      have fz : ∀ j, w4.frozen? ⟨w.heap.size, j, none⟩ = false := fun j => by simp [World.frozen?, hN]
      have g1 : (w4.setCell ⟨w.heap.size, 0, none⟩ (.int .i64 (s.ep + 1))).heap[w.heap.size]? = some (.cells #[.int .i64 (s.ep + 1), .int .i64 s.a.e, .int .i64 s.a.b, .int .i64 s.a.k, .slice a1 s.a.M.length q1, .slice a2 s.a.C.length q2, .int .i64 s.n.e, .int .i64 s.n.b, .int .i64 s.n.k, .slice a3 s.n.M.length q3, .slice a4 s.n.C.length q4, .int .i64 s.s0, .int .i64 n] 42) := heap_set_self hN 0 _
      have GI := Lib.hid g1
      have GO := Lib.hid (show Only (w.heap.size) w4 (w4.setCell ⟨w.heap.size, 0, none⟩ (.int .i64 (s.ep + 1))) from ((Only.refl _ _).set 0 _))
      clear g1
      have HX := Lib.hid (And.intro hN (And.intro hC (And.intro hR (And.intro hS (And.intro hb (hz))))))
      clear hN hC hR hS hb hz
      go_upto_region 8 with fail
      generalize (w4.setCell ⟨w.heap.size, 0, none⟩ (.int .i64 (s.ep + 1))) = w5 at *
      clear fz dN0 dN1 dN2 dN3 dN4 dN5 dN6 dN7 dN8 dN9 dN10 dN11 dN12
      obtain ⟨hN, hC, hR, hS, hb, hz⟩ := HX.out
      have kN := GI.out
      have kC : w5.heap[w.heap.size + 1]? = some _ := (GO.out.block _ (lt_heap hC) (by omega)).trans hC
      have kR : w5.heap[w.heap.size + 1 + 1]? = some _ := (GO.out.block _ (lt_heap hR) (by omega)).trans hR
      have kS : w5.heap[w.heap.size + 1 + 1 + 1]? = some _ := (GO.out.block _ (lt_heap hS) (by omega)).trans hS
      have kb : Below w.heap.size w w5 := hb.trans (GO.out.below (B := w.heap.size) (by omega) (by omega))
      have kz : w.heap.size + 4 ≤ w5.heap.size := by have := GO.out.size; omega
      clear HX GI GO hN hC hR hS hb hz
      have hN := kN
      have hC := kC
      have hR := kR
      have hS := kS
      have hb := kb
      have hz := kz
      clear kN kC kR kS kb kz
      have dC0 := cell_atD hC 0 (v := .int .i64 e) rfl
      have dC1 := cell_atD hC 1 (v := .int .i64 6) rfl
      have dC2 := cell_atD hC 2 (v := .int .i64 n) rfl
      have dC3 := cell_atD hC 3 (v := .slice a5 M.length q5) rfl
      have dC4 := cell_atD hC 4 (v := .slice a6 C.length q6) rfl
      have c1 := oconf' ⟨e, 6, n, M, C⟩ _ _ w5 (h5.below hb) h6
      simp only at c1
      have HX := Lib.hid (And.intro hN (And.intro hC (And.intro hR (And.intro hS (And.intro hb (hz))))))
      clear hN hC hR hS hb hz
      go_wp2_with fail
      refine Calls.mono c1 ?_
      rintro ev w6 ⟨a7, q7, a8, q8, rfl, ho, hb6⟩
      clear c1 dC0 dC1 dC2 dC3 dC4
      obtain ⟨hN, hC, hR, hS, hb, hz⟩ := HX.out
      have ho := ho.base hz
      have kN := below_at hb6 (lt_heap hN) hN
      have kC := below_at hb6 (lt_heap hC) hC
      have kR := below_at hb6 (lt_heap hR) hR
      have kS := below_at hb6 (lt_heap hS) hS
      have kz : w.heap.size + 4 ≤ w6.heap.size := by have := hb6.size; omega
      have kb : Below w.heap.size w w6 := hb.trans (hb6.mono (by omega))
      clear HX hb6 hN hC hR hS hb hz
      have hN := kN
      have hC := kC
      have hR := kR
      have hS := kS
      have hb := kb
      have hz := kz
      clear kN kC kR kS kb kz
      have HO := Lib.hid ho
      clear ho
      have dN0 := cell_atD hN 0 (v := .int .i64 (s.ep + 1)) rfl
      have dN1 := cell_atD hN 1 (v := .int .i64 s.a.e) rfl
      have dN2 := cell_atD hN 2 (v := .int .i64 s.a.b) rfl
      have dN3 := cell_atD hN 3 (v := .int .i64 s.a.k) rfl
      have dN4 := cell_atD hN 4 (v := .slice a1 s.a.M.length q1) rfl
      have dN5 := cell_atD hN 5 (v := .slice a2 s.a.C.length q2) rfl
      have dN6 := cell_atD hN 6 (v := .int .i64 s.n.e) rfl
      have dN7 := cell_atD hN 7 (v := .int .i64 s.n.b) rfl
      have dN8 := cell_atD hN 8 (v := .int .i64 s.n.k) rfl
      have dN9 := cell_atD hN 9 (v := .slice a3 s.n.M.length q3) rfl
      have dN10 := cell_atD hN 10 (v := .slice a4 s.n.C.length q4) rfl
      have dN11 := cell_atD hN 11 (v := .int .i64 s.s0) rfl
      have dN12 := cell_atD hN 12 (v := .int .i64 n) rfl
      have fz : ∀ j, w6.frozen? ⟨w.heap.size, j, none⟩ = false := fun j => by simp [World.frozen?, hN]
      have g1 : (w6.setCell ⟨w.heap.size, 6, none⟩ (.int .i64 e)).heap[w.heap.size]? = some (.cells #[.int .i64 (s.ep + 1), .int .i64 s.a.e, .int .i64 s.a.b, .int .i64 s.a.k, .slice a1 s.a.M.length q1, .slice a2 s.a.C.length q2, .int .i64 e, .int .i64 s.n.b, .int .i64 s.n.k, .slice a3 s.n.M.length q3, .slice a4 s.n.C.length q4, .int .i64 s.s0, .int .i64 n] 42) := heap_set_self hN 6 _
      have g2 : ((w6.setCell ⟨w.heap.size, 6, none⟩ (.int .i64 e)).setCell ⟨w.heap.size, 7, none⟩ (.int .i64 6)).heap[w.heap.size]? = some (.cells #[.int .i64 (s.ep + 1), .int .i64 s.a.e, .int .i64 s.a.b, .int .i64 s.a.k, .slice a1 s.a.M.length q1, .slice a2 s.a.C.length q2, .int .i64 e, .int .i64 6, .int .i64 s.n.k, .slice a3 s.n.M.length q3, .slice a4 s.n.C.length q4, .int .i64 s.s0, .int .i64 n] 42) := heap_set_self g1 7 _
      have g3 : (((w6.setCell ⟨w.heap.size, 6, none⟩ (.int .i64 e)).setCell ⟨w.heap.size, 7, none⟩ (.int .i64 6)).setCell ⟨w.heap.size, 8, none⟩ (.int .i64 n)).heap[w.heap.size]? = some (.cells #[.int .i64 (s.ep + 1), .int .i64 s.a.e, .int .i64 s.a.b, .int .i64 s.a.k, .slice a1 s.a.M.length q1, .slice a2 s.a.C.length q2, .int .i64 e, .int .i64 6, .int .i64 n, .slice a3 s.n.M.length q3, .slice a4 s.n.C.length q4, .int .i64 s.s0, .int .i64 n] 42) := heap_set_self g2 8 _
      have g4 : ((((w6.setCell ⟨w.heap.size, 6, none⟩ (.int .i64 e)).setCell ⟨w.heap.size, 7, none⟩ (.int .i64 6)).setCell ⟨w.heap.size, 8, none⟩ (.int .i64 n)).setCell ⟨w.heap.size, 9, none⟩ (.slice a7 M.length q7)).heap[w.heap.size]? = some (.cells #[.int .i64 (s.ep + 1), .int .i64 s.a.e, .int .i64 s.a.b, .int .i64 s.a.k, .slice a1 s.a.M.length q1, .slice a2 s.a.C.length q2, .int .i64 e, .int .i64 6, .int .i64 n, .slice a7 M.length q7, .slice a4 s.n.C.length q4, .int .i64 s.s0, .int .i64 n] 42) := heap_set_self g3 9 _
      have g5 : (((((w6.setCell ⟨w.heap.size, 6, none⟩ (.int .i64 e)).setCell ⟨w.heap.size, 7, none⟩ (.int .i64 6)).setCell ⟨w.heap.size, 8, none⟩ (.int .i64 n)).setCell ⟨w.heap.size, 9, none⟩ (.slice a7 M.length q7)).setCell ⟨w.heap.size, 10, none⟩ (.slice a8 C.length q8)).heap[w.heap.size]? = some (.cells #[.int .i64 (s.ep + 1), .int .i64 s.a.e, .int .i64 s.a.b, .int .i64 s.a.k, .slice a1 s.a.M.length q1, .slice a2 s.a.C.length q2, .int .i64 e, .int .i64 6, .int .i64 n, .slice a7 M.length q7, .slice a8 C.length q8, .int .i64 s.s0, .int .i64 n] 42) := heap_set_self g4 10 _
      have GI := Lib.hid g5
      have GO := Lib.hid (show Only (w.heap.size) w6 (((((w6.setCell ⟨w.heap.size, 6, none⟩ (.int .i64 e)).setCell ⟨w.heap.size, 7, none⟩ (.int .i64 6)).setCell ⟨w.heap.size, 8, none⟩ (.int .i64 n)).setCell ⟨w.heap.size, 9, none⟩ (.slice a7 M.length q7)).setCell ⟨w.heap.size, 10, none⟩ (.slice a8 C.length q8)) from ((((((Only.refl _ _).set 6 _).set 7 _).set 8 _).set 9 _).set 10 _))
      clear g1 g2 g3 g4 g5
      have HX := Lib.hid (And.intro hN (And.intro hC (And.intro hR (And.intro hS (And.intro hb (hz))))))
      clear hN hC hR hS hb hz
      go_upto_region 9 with fail
      generalize (((((w6.setCell ⟨w.heap.size, 6, none⟩ (.int .i64 e)).setCell ⟨w.heap.size, 7, none⟩ (.int .i64 6)).setCell ⟨w.heap.size, 8, none⟩ (.int .i64 n)).setCell ⟨w.heap.size, 9, none⟩ (.slice a7 M.length q7)).setCell ⟨w.heap.size, 10, none⟩ (.slice a8 C.length q8)) = w7 at *
      clear fz dN0 dN1 dN2 dN3 dN4 dN5 dN6 dN7 dN8 dN9 dN10 dN11 dN12
      obtain ⟨hN, hC, hR, hS, hb, hz⟩ := HX.out
      have kN := GI.out
      have kC : w7.heap[w.heap.size + 1]? = some _ := (GO.out.block _ (lt_heap hC) (by omega)).trans hC
      have kR : w7.heap[w.heap.size + 1 + 1]? = some _ := (GO.out.block _ (lt_heap hR) (by omega)).trans hR
      have kS : w7.heap[w.heap.size + 1 + 1 + 1]? = some _ := (GO.out.block _ (lt_heap hS) (by omega)).trans hS
      have kb : Below w.heap.size w w7 := hb.trans (GO.out.below (B := w.heap.size) (by omega) (by omega))
      have kz : w.heap.size + 4 ≤ w7.heap.size := by have := GO.out.size; omega
      have GO7 := GO.out
      clear HX GI GO hN hC hR hS hb hz
      have hN := kN
      have hC := kC
      have hR := kR
      have hS := kS
      have hb := kb
      have hz := kz
      clear kN kC kR kS kb kz
      have ho : CFO ⟨e, 6, n, M, C⟩ (w.heap.size + 4) w7 (.slice a7 M.length q7) (.slice a8 C.length q8) := HO.out.only GO7 (by omega)
      clear HO GO7
      have HO := Lib.hid ho
      clear ho
      have dN0 := cell_atD hN 0 (v := .int .i64 (s.ep + 1)) rfl
      have dN1 := cell_atD hN 1 (v := .int .i64 s.a.e) rfl
      have dN2 := cell_atD hN 2 (v := .int .i64 s.a.b) rfl
      have dN3 := cell_atD hN 3 (v := .int .i64 s.a.k) rfl
      have dN4 := cell_atD hN 4 (v := .slice a1 s.a.M.length q1) rfl
      have dN5 := cell_atD hN 5 (v := .slice a2 s.a.C.length q2) rfl
      have dN6 := cell_atD hN 6 (v := .int .i64 e) rfl
      have dN7 := cell_atD hN 7 (v := .int .i64 6) rfl
      have dN8 := cell_atD hN 8 (v := .int .i64 n) rfl
      have dN9 := cell_atD hN 9 (v := .slice a7 M.length q7) rfl
      have dN10 := cell_atD hN 10 (v := .slice a8 C.length q8) rfl
      have dN11 := cell_atD hN 11 (v := .int .i64 s.s0) rfl
      have dN12 := cell_atD hN 12 (v := .int .i64 n) rfl
      have fz : ∀ j, w7.frozen? ⟨w.heap.size, j, none⟩ = false := fun j => by simp [World.frozen?, hN]
      have g1 : (w7.setCell ⟨w.heap.size, 6, none⟩ (.int .i64 (s.ep + 1))).heap[w.heap.size]? = some (.cells #[.int .i64 (s.ep + 1), .int .i64 s.a.e, .int .i64 s.a.b, .int .i64 s.a.k, .slice a1 s.a.M.length q1, .slice a2 s.a.C.length q2, .int .i64 (s.ep + 1), .int .i64 6, .int .i64 n, .slice a7 M.length q7, .slice a8 C.length q8, .int .i64 s.s0, .int .i64 n] 42) := heap_set_self hN 6 _
      have GI := Lib.hid g1
      have GO := Lib.hid (show Only (w.heap.size) w7 (w7.setCell ⟨w.heap.size, 6, none⟩ (.int .i64 (s.ep + 1))) from ((Only.refl _ _).set 6 _))
      clear g1
      have HX := Lib.hid (And.intro hN (And.intro hC (And.intro hR (And.intro hS (And.intro hb (hz))))))
      clear hN hC hR hS hb hz
      go_upto_region 10 with fail
      generalize (w7.setCell ⟨w.heap.size, 6, none⟩ (.int .i64 (s.ep + 1))) = w8 at *
      clear fz dN0 dN1 dN2 dN3 dN4 dN5 dN6 dN7 dN8 dN9 dN10 dN11 dN12
      obtain ⟨hN, hC, hR, hS, hb, hz⟩ := HX.out
      have kN := GI.out
      have kC : w8.heap[w.heap.size + 1]? = some _ := (GO.out.block _ (lt_heap hC) (by omega)).trans hC
      have kR : w8.heap[w.heap.size + 1 + 1]? = some _ := (GO.out.block _ (lt_heap hR) (by omega)).trans hR
      have kS : w8.heap[w.heap.size + 1 + 1 + 1]? = some _ := (GO.out.block _ (lt_heap hS) (by omega)).trans hS
      have kb : Below w.heap.size w w8 := hb.trans (GO.out.below (B := w.heap.size) (by omega) (by omega))
      have kz : w.heap.size + 4 ≤ w8.heap.size := by have := GO.out.size; omega
      have GO8 := GO.out
      clear HX GI GO hN hC hR hS hb hz
      have hN := kN
      have hC := kC
      have hR := kR
      have hS := kS
      have hb := kb
      have hz := kz
      clear kN kC kR kS kb kz
      have ho : CFO ⟨e, 6, n, M, C⟩ (w.heap.size + 4) w8 (.slice a7 M.length q7) (.slice a8 C.length q8) := HO.out.only GO8 (by omega)
      clear HO GO8
      have HO := Lib.hid ho
      clear ho
      have dN0 := cell_atD hN 0 (v := .int .i64 (s.ep + 1)) rfl
      have dN1 := cell_atD hN 1 (v := .int .i64 s.a.e) rfl
      have dN2 := cell_atD hN 2 (v := .int .i64 s.a.b) rfl
      have dN3 := cell_atD hN 3 (v := .int .i64 s.a.k) rfl
      have dN4 := cell_atD hN 4 (v := .slice a1 s.a.M.length q1) rfl
      have dN5 := cell_atD hN 5 (v := .slice a2 s.a.C.length q2) rfl
      have dN6 := cell_atD hN 6 (v := .int .i64 (s.ep + 1)) rfl
      have dN7 := cell_atD hN 7 (v := .int .i64 6) rfl
      have dN8 := cell_atD hN 8 (v := .int .i64 n) rfl
      have dN9 := cell_atD hN 9 (v := .slice a7 M.length q7) rfl
      have dN10 := cell_atD hN 10 (v := .slice a8 C.length q8) rfl
      have dN11 := cell_atD hN 11 (v := .int .i64 s.s0) rfl
      have dN12 := cell_atD hN 12 (v := .int .i64 n) rfl
      have dR0 := cell_atD hR 0 (v := .int .i64 0) rfl
      have dR1 := cell_atD hR 1 (v := .int .i64 0) rfl
      have dR2 := cell_atD hR 2 (v := .int .i64 0) rfl
      have dR3 := cell_atD hR 3 (v := .int .i64 0) rfl
      have dR4 := cell_atD hR 4 (v := .slice none 0 0) rfl
      have dR5 := cell_atD hR 5 (v := .slice none 0 0) rfl
      have dR6 := cell_atD hR 6 (v := .int .i64 0) rfl
      have dR7 := cell_atD hR 7 (v := .int .i64 0) rfl
      have dR8 := cell_atD hR 8 (v := .int .i64 0) rfl
      have dR9 := cell_atD hR 9 (v := .slice none 0 0) rfl
      have dR10 := cell_atD hR 10 (v := .slice none 0 0) rfl
      have dR11 := cell_atD hR 11 (v := .int .i64 0) rfl
      have dR12 := cell_atD hR 12 (v := .int .i64 0) rfl
      have fz : ∀ j, w8.frozen? ⟨w.heap.size + 1 + 1, j, none⟩ = false := fun j => by simp [World.frozen?, hR]
      have g1 : (w8.setCell ⟨w.heap.size + 1 + 1, 0, none⟩ (.int .i64 (s.ep + 1))).heap[w.heap.size + 1 + 1]? = some (.cells #[.int .i64 (s.ep + 1), .int .i64 0, .int .i64 0, .int .i64 0, .slice none 0 0, .slice none 0 0, .int .i64 0, .int .i64 0, .int .i64 0, .slice none 0 0, .slice none 0 0, .int .i64 0, .int .i64 0] 42) := heap_set_self hR 0 _
      have g2 : ((w8.setCell ⟨w.heap.size + 1 + 1, 0, none⟩ (.int .i64 (s.ep + 1))).setCell ⟨w.heap.size + 1 + 1, 1, none⟩ (.int .i64 s.a.e)).heap[w.heap.size + 1 + 1]? = some (.cells #[.int .i64 (s.ep + 1), .int .i64 s.a.e, .int .i64 0, .int .i64 0, .slice none 0 0, .slice none 0 0, .int .i64 0, .int .i64 0, .int .i64 0, .slice none 0 0, .slice none 0 0, .int .i64 0, .int .i64 0] 42) := heap_set_self g1 1 _
      have g3 : (((w8.setCell ⟨w.heap.size + 1 + 1, 0, none⟩ (.int .i64 (s.ep + 1))).setCell ⟨w.heap.size + 1 + 1, 1, none⟩ (.int .i64 s.a.e)).setCell ⟨w.heap.size + 1 + 1, 2, none⟩ (.int .i64 s.a.b)).heap[w.heap.size + 1 + 1]? = some (.cells #[.int .i64 (s.ep + 1), .int .i64 s.a.e, .int .i64 s.a.b, .int .i64 0, .slice none 0 0, .slice none 0 0, .int .i64 0, .int .i64 0, .int .i64 0, .slice none 0 0, .slice none 0 0, .int .i64 0, .int .i64 0] 42) := heap_set_self g2 2 _
      have g4 : ((((w8.setCell ⟨w.heap.size + 1 + 1, 0, none⟩ (.int .i64 (s.ep + 1))).setCell ⟨w.heap.size + 1 + 1, 1, none⟩ (.int .i64 s.a.e)).setCell ⟨w.heap.size + 1 + 1, 2, none⟩ (.int .i64 s.a.b)).setCell ⟨w.heap.size + 1 + 1, 3, none⟩ (.int .i64 s.a.k)).heap[w.heap.size + 1 + 1]? = some (.cells #[.int .i64 (s.ep + 1), .int .i64 s.a.e, .int .i64 s.a.b, .int .i64 s.a.k, .slice none 0 0, .slice none 0 0, .int .i64 0, .int .i64 0, .int .i64 0, .slice none 0 0, .slice none 0 0, .int .i64 0, .int .i64 0] 42) := heap_set_self g3 3 _
      have g5 : (((((w8.setCell ⟨w.heap.size + 1 + 1, 0, none⟩ (.int .i64 (s.ep + 1))).setCell ⟨w.heap.size + 1 + 1, 1, none⟩ (.int .i64 s.a.e)).setCell ⟨w.heap.size + 1 + 1, 2, none⟩ (.int .i64 s.a.b)).setCell ⟨w.heap.size + 1 + 1, 3, none⟩ (.int .i64 s.a.k)).setCell ⟨w.heap.size + 1 + 1, 4, none⟩ (.slice a1 s.a.M.length q1)).heap[w.heap.size + 1 + 1]? = some (.cells #[.int .i64 (s.ep + 1), .int .i64 s.a.e, .int .i64 s.a.b, .int .i64 s.a.k, .slice a1 s.a.M.length q1, .slice none 0 0, .int .i64 0, .int .i64 0, .int .i64 0, .slice none 0 0, .slice none 0 0, .int .i64 0, .int .i64 0] 42) := heap_set_self g4 4 _
      have g6 : ((((((w8.setCell ⟨w.heap.size + 1 + 1, 0, none⟩ (.int .i64 (s.ep + 1))).setCell ⟨w.heap.size + 1 + 1, 1, none⟩ (.int .i64 s.a.e)).setCell ⟨w.heap.size + 1 + 1, 2, none⟩ (.int .i64 s.a.b)).setCell ⟨w.heap.size + 1 + 1, 3, none⟩ (.int .i64 s.a.k)).setCell ⟨w.heap.size + 1 + 1, 4, none⟩ (.slice a1 s.a.M.length q1)).setCell ⟨w.heap.size + 1 + 1, 5, none⟩ (.slice a2 s.a.C.length q2)).heap[w.heap.size + 1 + 1]? = some (.cells #[.int .i64 (s.ep + 1), .int .i64 s.a.e, .int .i64 s.a.b, .int .i64 s.a.k, .slice a1 s.a.M.length q1, .slice a2 s.a.C.length q2, .int .i64 0, .int .i64 0, .int .i64 0, .slice none 0 0, .slice none 0 0, .int .i64 0, .int .i64 0] 42) := heap_set_self g5 5 _
      have g7 : (((((((w8.setCell ⟨w.heap.size + 1 + 1, 0, none⟩ (.int .i64 (s.ep + 1))).setCell ⟨w.heap.size + 1 + 1, 1, none⟩ (.int .i64 s.a.e)).setCell ⟨w.heap.size + 1 + 1, 2, none⟩ (.int .i64 s.a.b)).setCell ⟨w.heap.size + 1 + 1, 3, none⟩ (.int .i64 s.a.k)).setCell ⟨w.heap.size + 1 + 1, 4, none⟩ (.slice a1 s.a.M.length q1)).setCell ⟨w.heap.size + 1 + 1, 5, none⟩ (.slice a2 s.a.C.length q2)).setCell ⟨w.heap.size + 1 + 1, 6, none⟩ (.int .i64 (s.ep + 1))).heap[w.heap.size + 1 + 1]? = some (.cells #[.int .i64 (s.ep + 1), .int .i64 s.a.e, .int .i64 s.a.b, .int .i64 s.a.k, .slice a1 s.a.M.length q1, .slice a2 s.a.C.length q2, .int .i64 (s.ep + 1), .int .i64 0, .int .i64 0, .slice none 0 0, .slice none 0 0, .int .i64 0, .int .i64 0] 42) := heap_set_self g6 6 _
      have g8 : ((((((((w8.setCell ⟨w.heap.size + 1 + 1, 0, none⟩ (.int .i64 (s.ep + 1))).setCell ⟨w.heap.size + 1 + 1, 1, none⟩ (.int .i64 s.a.e)).setCell ⟨w.heap.size + 1 + 1, 2, none⟩ (.int .i64 s.a.b)).setCell ⟨w.heap.size + 1 + 1, 3, none⟩ (.int .i64 s.a.k)).setCell ⟨w.heap.size + 1 + 1, 4, none⟩ (.slice a1 s.a.M.length q1)).setCell ⟨w.heap.size + 1 + 1, 5, none⟩ (.slice a2 s.a.C.length q2)).setCell ⟨w.heap.size + 1 + 1, 6, none⟩ (.int .i64 (s.ep + 1))).setCell ⟨w.heap.size + 1 + 1, 7, none⟩ (.int .i64 6)).heap[w.heap.size + 1 + 1]? = some (.cells #[.int .i64 (s.ep + 1), .int .i64 s.a.e, .int .i64 s.a.b, .int .i64 s.a.k, .slice a1 s.a.M.length q1, .slice a2 s.a.C.length q2, .int .i64 (s.ep + 1), .int .i64 6, .int .i64 0, .slice none 0 0, .slice none 0 0, .int .i64 0, .int .i64 0] 42) := heap_set_self g7 7 _
      have g9 : (((((((((w8.setCell ⟨w.heap.size + 1 + 1, 0, none⟩ (.int .i64 (s.ep + 1))).setCell ⟨w.heap.size + 1 + 1, 1, none⟩ (.int .i64 s.a.e)).setCell ⟨w.heap.size + 1 + 1, 2, none⟩ (.int .i64 s.a.b)).setCell ⟨w.heap.size + 1 + 1, 3, none⟩ (.int .i64 s.a.k)).setCell ⟨w.heap.size + 1 + 1, 4, none⟩ (.slice a1 s.a.M.length q1)).setCell ⟨w.heap.size + 1 + 1, 5, none⟩ (.slice a2 s.a.C.length q2)).setCell ⟨w.heap.size + 1 + 1, 6, none⟩ (.int .i64 (s.ep + 1))).setCell ⟨w.heap.size + 1 + 1, 7, none⟩ (.int .i64 6)).setCell ⟨w.heap.size + 1 + 1, 8, none⟩ (.int .i64 n)).heap[w.heap.size + 1 + 1]? = some (.cells #[.int .i64 (s.ep + 1), .int .i64 s.a.e, .int .i64 s.a.b, .int .i64 s.a.k, .slice a1 s.a.M.length q1, .slice a2 s.a.C.length q2, .int .i64 (s.ep + 1), .int .i64 6, .int .i64 n, .slice none 0 0, .slice none 0 0, .int .i64 0, .int .i64 0] 42) := heap_set_self g8 8 _
      have g10 : ((((((((((w8.setCell ⟨w.heap.size + 1 + 1, 0, none⟩ (.int .i64 (s.ep + 1))).setCell ⟨w.heap.size + 1 + 1, 1, none⟩ (.int .i64 s.a.e)).setCell ⟨w.heap.size + 1 + 1, 2, none⟩ (.int .i64 s.a.b)).setCell ⟨w.heap.size + 1 + 1, 3, none⟩ (.int .i64 s.a.k)).setCell ⟨w.heap.size + 1 + 1, 4, none⟩ (.slice a1 s.a.M.length q1)).setCell ⟨w.heap.size + 1 + 1, 5, none⟩ (.slice a2 s.a.C.length q2)).setCell ⟨w.heap.size + 1 + 1, 6, none⟩ (.int .i64 (s.ep + 1))).setCell ⟨w.heap.size + 1 + 1, 7, none⟩ (.int .i64 6)).setCell ⟨w.heap.size + 1 + 1, 8, none⟩ (.int .i64 n)).setCell ⟨w.heap.size + 1 + 1, 9, none⟩ (.slice a7 M.length q7)).heap[w.heap.size + 1 + 1]? = some (.cells #[.int .i64 (s.ep + 1), .int .i64 s.a.e, .int .i64 s.a.b, .int .i64 s.a.k, .slice a1 s.a.M.length q1, .slice a2 s.a.C.length q2, .int .i64 (s.ep + 1), .int .i64 6, .int .i64 n, .slice a7 M.length q7, .slice none 0 0, .int .i64 0, .int .i64 0] 42) := heap_set_self g9 9 _
      have g11 : (((((((((((w8.setCell ⟨w.heap.size + 1 + 1, 0, none⟩ (.int .i64 (s.ep + 1))).setCell ⟨w.heap.size + 1 + 1, 1, none⟩ (.int .i64 s.a.e)).setCell ⟨w.heap.size + 1 + 1, 2, none⟩ (.int .i64 s.a.b)).setCell ⟨w.heap.size + 1 + 1, 3, none⟩ (.int .i64 s.a.k)).setCell ⟨w.heap.size + 1 + 1, 4, none⟩ (.slice a1 s.a.M.length q1)).setCell ⟨w.heap.size + 1 + 1, 5, none⟩ (.slice a2 s.a.C.length q2)).setCell ⟨w.heap.size + 1 + 1, 6, none⟩ (.int .i64 (s.ep + 1))).setCell ⟨w.heap.size + 1 + 1, 7, none⟩ (.int .i64 6)).setCell ⟨w.heap.size + 1 + 1, 8, none⟩ (.int .i64 n)).setCell ⟨w.heap.size + 1 + 1, 9, none⟩ (.slice a7 M.length q7)).setCell ⟨w.heap.size + 1 + 1, 10, none⟩ (.slice a8 C.length q8)).heap[w.heap.size + 1 + 1]? = some (.cells #[.int .i64 (s.ep + 1), .int .i64 s.a.e, .int .i64 s.a.b, .int .i64 s.a.k, .slice a1 s.a.M.length q1, .slice a2 s.a.C.length q2, .int .i64 (s.ep + 1), .int .i64 6, .int .i64 n, .slice a7 M.length q7, .slice a8 C.length q8, .int .i64 0, .int .i64 0] 42) := heap_set_self g10 10 _
      have g12 : ((((((((((((w8.setCell ⟨w.heap.size + 1 + 1, 0, none⟩ (.int .i64 (s.ep + 1))).setCell ⟨w.heap.size + 1 + 1, 1, none⟩ (.int .i64 s.a.e)).setCell ⟨w.heap.size + 1 + 1, 2, none⟩ (.int .i64 s.a.b)).setCell ⟨w.heap.size + 1 + 1, 3, none⟩ (.int .i64 s.a.k)).setCell ⟨w.heap.size + 1 + 1, 4, none⟩ (.slice a1 s.a.M.length q1)).setCell ⟨w.heap.size + 1 + 1, 5, none⟩ (.slice a2 s.a.C.length q2)).setCell ⟨w.heap.size + 1 + 1, 6, none⟩ (.int .i64 (s.ep + 1))).setCell ⟨w.heap.size + 1 + 1, 7, none⟩ (.int .i64 6)).setCell ⟨w.heap.size + 1 + 1, 8, none⟩ (.int .i64 n)).setCell ⟨w.heap.size + 1 + 1, 9, none⟩ (.slice a7 M.length q7)).setCell ⟨w.heap.size + 1 + 1, 10, none⟩ (.slice a8 C.length q8)).setCell ⟨w.heap.size + 1 + 1, 11, none⟩ (.int .i64 s.s0)).heap[w.heap.size + 1 + 1]? = some (.cells #[.int .i64 (s.ep + 1), .int .i64 s.a.e, .int .i64 s.a.b, .int .i64 s.a.k, .slice a1 s.a.M.length q1, .slice a2 s.a.C.length q2, .int .i64 (s.ep + 1), .int .i64 6, .int .i64 n, .slice a7 M.length q7, .slice a8 C.length q8, .int .i64 s.s0, .int .i64 0] 42) := heap_set_self g11 11 _
      have g13 : (((((((((((((w8.setCell ⟨w.heap.size + 1 + 1, 0, none⟩ (.int .i64 (s.ep + 1))).setCell ⟨w.heap.size + 1 + 1, 1, none⟩ (.int .i64 s.a.e)).setCell ⟨w.heap.size + 1 + 1, 2, none⟩ (.int .i64 s.a.b)).setCell ⟨w.heap.size + 1 + 1, 3, none⟩ (.int .i64 s.a.k)).setCell ⟨w.heap.size + 1 + 1, 4, none⟩ (.slice a1 s.a.M.length q1)).setCell ⟨w.heap.size + 1 + 1, 5, none⟩ (.slice a2 s.a.C.length q2)).setCell ⟨w.heap.size + 1 + 1, 6, none⟩ (.int .i64 (s.ep + 1))).setCell ⟨w.heap.size + 1 + 1, 7, none⟩ (.int .i64 6)).setCell ⟨w.heap.size + 1 + 1, 8, none⟩ (.int .i64 n)).setCell ⟨w.heap.size + 1 + 1, 9, none⟩ (.slice a7 M.length q7)).setCell ⟨w.heap.size + 1 + 1, 10, none⟩ (.slice a8 C.length q8)).setCell ⟨w.heap.size + 1 + 1, 11, none⟩ (.int .i64 s.s0)).setCell ⟨w.heap.size + 1 + 1, 12, none⟩ (.int .i64 n)).heap[w.heap.size + 1 + 1]? = some (.cells #[.int .i64 (s.ep + 1), .int .i64 s.a.e, .int .i64 s.a.b, .int .i64 s.a.k, .slice a1 s.a.M.length q1, .slice a2 s.a.C.length q2, .int .i64 (s.ep + 1), .int .i64 6, .int .i64 n, .slice a7 M.length q7, .slice a8 C.length q8, .int .i64 s.s0, .int .i64 n] 42) := heap_set_self g12 12 _
      have GI := Lib.hid g13
      have GO := Lib.hid (show Only (w.heap.size + 1 + 1) w8 (((((((((((((w8.setCell ⟨w.heap.size + 1 + 1, 0, none⟩ (.int .i64 (s.ep + 1))).setCell ⟨w.heap.size + 1 + 1, 1, none⟩ (.int .i64 s.a.e)).setCell ⟨w.heap.size + 1 + 1, 2, none⟩ (.int .i64 s.a.b)).setCell ⟨w.heap.size + 1 + 1, 3, none⟩ (.int .i64 s.a.k)).setCell ⟨w.heap.size + 1 + 1, 4, none⟩ (.slice a1 s.a.M.length q1)).setCell ⟨w.heap.size + 1 + 1, 5, none⟩ (.slice a2 s.a.C.length q2)).setCell ⟨w.heap.size + 1 + 1, 6, none⟩ (.int .i64 (s.ep + 1))).setCell ⟨w.heap.size + 1 + 1, 7, none⟩ (.int .i64 6)).setCell ⟨w.heap.size + 1 + 1, 8, none⟩ (.int .i64 n)).setCell ⟨w.heap.size + 1 + 1, 9, none⟩ (.slice a7 M.length q7)).setCell ⟨w.heap.size + 1 + 1, 10, none⟩ (.slice a8 C.length q8)).setCell ⟨w.heap.size + 1 + 1, 11, none⟩ (.int .i64 s.s0)).setCell ⟨w.heap.size + 1 + 1, 12, none⟩ (.int .i64 n)) from ((((((((((((((Only.refl _ _).set 0 _).set 1 _).set 2 _).set 3 _).set 4 _).set 5 _).set 6 _).set 7 _).set 8 _).set 9 _).set 10 _).set 11 _).set 12 _))
      clear g1 g2 g3 g4 g5 g6 g7 g8 g9 g10 g11 g12 g13
      have HB := Lib.hid hb
      have HZ := Lib.hid hz
      clear hN hC hR hS hb hz
      go_wp2_with fail
      generalize (((((((((((((w8.setCell ⟨w.heap.size + 1 + 1, 0, none⟩ (.int .i64 (s.ep + 1))).setCell ⟨w.heap.size + 1 + 1, 1, none⟩ (.int .i64 s.a.e)).setCell ⟨w.heap.size + 1 + 1, 2, none⟩ (.int .i64 s.a.b)).setCell ⟨w.heap.size + 1 + 1, 3, none⟩ (.int .i64 s.a.k)).setCell ⟨w.heap.size + 1 + 1, 4, none⟩ (.slice a1 s.a.M.length q1)).setCell ⟨w.heap.size + 1 + 1, 5, none⟩ (.slice a2 s.a.C.length q2)).setCell ⟨w.heap.size + 1 + 1, 6, none⟩ (.int .i64 (s.ep + 1))).setCell ⟨w.heap.size + 1 + 1, 7, none⟩ (.int .i64 6)).setCell ⟨w.heap.size + 1 + 1, 8, none⟩ (.int .i64 n)).setCell ⟨w.heap.size + 1 + 1, 9, none⟩ (.slice a7 M.length q7)).setCell ⟨w.heap.size + 1 + 1, 10, none⟩ (.slice a8 C.length q8)).setCell ⟨w.heap.size + 1 + 1, 11, none⟩ (.int .i64 s.s0)).setCell ⟨w.heap.size + 1 + 1, 12, none⟩ (.int .i64 n)) = wf at *
      have fi := GI.out
      have s0 := cell_atD fi 0 (v := .int .i64 (s.ep + 1)) rfl
      have s1 := cell_atD fi 1 (v := .int .i64 s.a.e) rfl
      have s2 := cell_atD fi 2 (v := .int .i64 s.a.b) rfl
      have s3 := cell_atD fi 3 (v := .int .i64 s.a.k) rfl
      have s4 := cell_atD fi 4 (v := .slice a1 s.a.M.length q1) rfl
      have s5 := cell_atD fi 5 (v := .slice a2 s.a.C.length q2) rfl
      have s6 := cell_atD fi 6 (v := .int .i64 (s.ep + 1)) rfl
      have s7 := cell_atD fi 7 (v := .int .i64 6) rfl
      have s8 := cell_atD fi 8 (v := .int .i64 n) rfl
      have s9 := cell_atD fi 9 (v := .slice a7 M.length q7) rfl
      have s10 := cell_atD fi 10 (v := .slice a8 C.length q8) rfl
      have s11 := cell_atD fi 11 (v := .int .i64 s.s0) rfl
      have s12 := cell_atD fi 12 (v := .int .i64 n) rfl
      clear fi
      refine bodyPost_ret (v := .agg #[.int .i64 (s.ep + 1), .int .i64 s.a.e, .int .i64 s.a.b, .int .i64 s.a.k, .slice a1 s.a.M.length q1, .slice a2 s.a.C.length q2, .int .i64 (s.ep + 1), .int .i64 6, .int .i64 n, .slice a7 M.length q7, .slice a8 C.length q8, .int .i64 s.s0, .int .i64 n]) (by simp [results, Try.results110, go_sem, s0, s1, s2, s3, s4, s5, s6, s7, s8, s9, s10, s11, s12]) rfl ?_
      have hz := HZ.out
      have hf : Below w.heap.size w wf := HB.out.trans (GO.out.below (B := w.heap.size) (by omega) (by omega))
      rw [prep6_new s e n M C (by omega) (by omega)]
      have ho := (HO.out.only GO.out (by omega)).base (show base ≤ w.heap.size + 4 by omega)
      exact ⟨_, rfl, ⟨_, _, _, _, rfl, h1.below hf, ho, h3, h6⟩, hf⟩
    · have g2' : s.ep ≥ 1048576 := by simpa using g2
      go_quiet (fail)
      clear d0 d1 d2 d3 d4 d5 d6 d7 d8 d9 d10 d11 d12 e0 e1 e2 e3 e4 f0 f1
      generalize hw2 : w1.drewN _ = w2
      obtain ⟨iN, iC, iR, iS, ib, iz⟩ := HX.out
      have e2 : w2.heap = w1.heap := by subst hw2; rfl
      have hN := iN
      have hC := iC
      have hR := iR
      have hS := iS
      rw [← e2] at hN hC hR hS
      have hb : Below w.heap.size w w2 := by subst hw2; exact ⟨ib.os, ib.tape, ib.output, ib.size, ib.block⟩
      have hz : w.heap.size + 4 ≤ w2.heap.size := by subst hw2; exact iz
      clear HX iN iC iR iS ib iz hw2 e2
      go_upto_region 4 with fail
      have dN0 := cell_atD hN 0 (v := .int .i64 s.ep) rfl
      have dN1 := cell_atD hN 1 (v := .int .i64 s.a.e) rfl
      have dN2 := cell_atD hN 2 (v := .int .i64 s.a.b) rfl
      have dN3 := cell_atD hN 3 (v := .int .i64 s.a.k) rfl
      have dN4 := cell_atD hN 4 (v := .slice a1 s.a.M.length q1) rfl
      have dN5 := cell_atD hN 5 (v := .slice a2 s.a.C.length q2) rfl
      have dN6 := cell_atD hN 6 (v := .int .i64 s.n.e) rfl
      have dN7 := cell_atD hN 7 (v := .int .i64 s.n.b) rfl
      have dN8 := cell_atD hN 8 (v := .int .i64 s.n.k) rfl
      have dN9 := cell_atD hN 9 (v := .slice a3 s.n.M.length q3) rfl
      have dN10 := cell_atD hN 10 (v := .slice a4 s.n.C.length q4) rfl
      have dN11 := cell_atD hN 11 (v := .int .i64 s.s0) rfl
      have dN12 := cell_atD hN 12 (v := .int .i64 s.s1) rfl
      have dR0 := cell_atD hR 0 (v := .int .i64 0) rfl
      have dR1 := cell_atD hR 1 (v := .int .i64 0) rfl
      have dR2 := cell_atD hR 2 (v := .int .i64 0) rfl
      have dR3 := cell_atD hR 3 (v := .int .i64 0) rfl
      have dR4 := cell_atD hR 4 (v := .slice none 0 0) rfl
      have dR5 := cell_atD hR 5 (v := .slice none 0 0) rfl
      have dR6 := cell_atD hR 6 (v := .int .i64 0) rfl
      have dR7 := cell_atD hR 7 (v := .int .i64 0) rfl
      have dR8 := cell_atD hR 8 (v := .int .i64 0) rfl
      have dR9 := cell_atD hR 9 (v := .slice none 0 0) rfl
      have dR10 := cell_atD hR 10 (v := .slice none 0 0) rfl
      have dR11 := cell_atD hR 11 (v := .int .i64 0) rfl
      have dR12 := cell_atD hR 12 (v := .int .i64 0) rfl
      have fz : ∀ j, w2.frozen? ⟨w.heap.size + 1 + 1, j, none⟩ = false := fun j => by simp [World.frozen?, hR]
      have g1 : (w2.setCell ⟨w.heap.size + 1 + 1, 0, none⟩ (.int .i64 s.ep)).heap[w.heap.size + 1 + 1]? = some (.cells #[.int .i64 s.ep, .int .i64 0, .int .i64 0, .int .i64 0, .slice none 0 0, .slice none 0 0, .int .i64 0, .int .i64 0, .int .i64 0, .slice none 0 0, .slice none 0 0, .int .i64 0, .int .i64 0] 42) := heap_set_self hR 0 _
      have g2 : ((w2.setCell ⟨w.heap.size + 1 + 1, 0, none⟩ (.int .i64 s.ep)).setCell ⟨w.heap.size + 1 + 1, 1, none⟩ (.int .i64 s.a.e)).heap[w.heap.size + 1 + 1]? = some (.cells #[.int .i64 s.ep, .int .i64 s.a.e, .int .i64 0, .int .i64 0, .slice none 0 0, .slice none 0 0, .int .i64 0, .int .i64 0, .int .i64 0, .slice none 0 0, .slice none 0 0, .int .i64 0, .int .i64 0] 42) := heap_set_self g1 1 _
      have g3 : (((w2.setCell ⟨w.heap.size + 1 + 1, 0, none⟩ (.int .i64 s.ep)).setCell ⟨w.heap.size + 1 + 1, 1, none⟩ (.int .i64 s.a.e)).setCell ⟨w.heap.size + 1 + 1, 2, none⟩ (.int .i64 s.a.b)).heap[w.heap.size + 1 + 1]? = some (.cells #[.int .i64 s.ep, .int .i64 s.a.e, .int .i64 s.a.b, .int .i64 0, .slice none 0 0, .slice none 0 0, .int .i64 0, .int .i64 0, .int .i64 0, .slice none 0 0, .slice none 0 0, .int .i64 0, .int .i64 0] 42) := heap_set_self g2 2 _
      have g4 : ((((w2.setCell ⟨w.heap.size + 1 + 1, 0, none⟩ (.int .i64 s.ep)).setCell ⟨w.heap.size + 1 + 1, 1, none⟩ (.int .i64 s.a.e)).setCell ⟨w.heap.size + 1 + 1, 2, none⟩ (.int .i64 s.a.b)).setCell ⟨w.heap.size + 1 + 1, 3, none⟩ (.int .i64 s.a.k)).heap[w.heap.size + 1 + 1]? = some (.cells #[.int .i64 s.ep, .int .i64 s.a.e, .int .i64 s.a.b, .int .i64 s.a.k, .slice none 0 0, .slice none 0 0, .int .i64 0, .int .i64 0, .int .i64 0, .slice none 0 0, .slice none 0 0, .int .i64 0, .int .i64 0] 42) := heap_set_self g3 3 _
      have g5 : (((((w2.setCell ⟨w.heap.size + 1 + 1, 0, none⟩ (.int .i64 s.ep)).setCell ⟨w.heap.size + 1 + 1, 1, none⟩ (.int .i64 s.a.e)).setCell ⟨w.heap.size + 1 + 1, 2, none⟩ (.int .i64 s.a.b)).setCell ⟨w.heap.size + 1 + 1, 3, none⟩ (.int .i64 s.a.k)).setCell ⟨w.heap.size + 1 + 1, 4, none⟩ (.slice a1 s.a.M.length q1)).heap[w.heap.size + 1 + 1]? = some (.cells #[.int .i64 s.ep, .int .i64 s.a.e, .int .i64 s.a.b, .int .i64 s.a.k, .slice a1 s.a.M.length q1, .slice none 0 0, .int .i64 0, .int .i64 0, .int .i64 0, .slice none 0 0, .slice none 0 0, .int .i64 0, .int .i64 0] 42) := heap_set_self g4 4 _
      have g6 : ((((((w2.setCell ⟨w.heap.size + 1 + 1, 0, none⟩ (.int .i64 s.ep)).setCell ⟨w.heap.size + 1 + 1, 1, none⟩ (.int .i64 s.a.e)).setCell ⟨w.heap.size + 1 + 1, 2, none⟩ (.int .i64 s.a.b)).setCell ⟨w.heap.size + 1 + 1, 3, none⟩ (.int .i64 s.a.k)).setCell ⟨w.heap.size + 1 + 1, 4, none⟩ (.slice a1 s.a.M.length q1)).setCell ⟨w.heap.size + 1 + 1, 5, none⟩ (.slice a2 s.a.C.length q2)).heap[w.heap.size + 1 + 1]? = some (.cells #[.int .i64 s.ep, .int .i64 s.a.e, .int .i64 s.a.b, .int .i64 s.a.k, .slice a1 s.a.M.length q1, .slice a2 s.a.C.length q2, .int .i64 0, .int .i64 0, .int .i64 0, .slice none 0 0, .slice none 0 0, .int .i64 0, .int .i64 0] 42) := heap_set_self g5 5 _
      have g7 : (((((((w2.setCell ⟨w.heap.size + 1 + 1, 0, none⟩ (.int .i64 s.ep)).setCell ⟨w.heap.size + 1 + 1, 1, none⟩ (.int .i64 s.a.e)).setCell ⟨w.heap.size + 1 + 1, 2, none⟩ (.int .i64 s.a.b)).setCell ⟨w.heap.size + 1 + 1, 3, none⟩ (.int .i64 s.a.k)).setCell ⟨w.heap.size + 1 + 1, 4, none⟩ (.slice a1 s.a.M.length q1)).setCell ⟨w.heap.size + 1 + 1, 5, none⟩ (.slice a2 s.a.C.length q2)).setCell ⟨w.heap.size + 1 + 1, 6, none⟩ (.int .i64 s.n.e)).heap[w.heap.size + 1 + 1]? = some (.cells #[.int .i64 s.ep, .int .i64 s.a.e, .int .i64 s.a.b, .int .i64 s.a.k, .slice a1 s.a.M.length q1, .slice a2 s.a.C.length q2, .int .i64 s.n.e, .int .i64 0, .int .i64 0, .slice none 0 0, .slice none 0 0, .int .i64 0, .int .i64 0] 42) := heap_set_self g6 6 _
      have g8 : ((((((((w2.setCell ⟨w.heap.size + 1 + 1, 0, none⟩ (.int .i64 s.ep)).setCell ⟨w.heap.size + 1 + 1, 1, none⟩ (.int .i64 s.a.e)).setCell ⟨w.heap.size + 1 + 1, 2, none⟩ (.int .i64 s.a.b)).setCell ⟨w.heap.size + 1 + 1, 3, none⟩ (.int .i64 s.a.k)).setCell ⟨w.heap.size + 1 + 1, 4, none⟩ (.slice a1 s.a.M.length q1)).setCell ⟨w.heap.size + 1 + 1, 5, none⟩ (.slice a2 s.a.C.length q2)).setCell ⟨w.heap.size + 1 + 1, 6, none⟩ (.int .i64 s.n.e)).setCell ⟨w.heap.size + 1 + 1, 7, none⟩ (.int .i64 s.n.b)).heap[w.heap.size + 1 + 1]? = some (.cells #[.int .i64 s.ep, .int .i64 s.a.e, .int .i64 s.a.b, .int .i64 s.a.k, .slice a1 s.a.M.length q1, .slice a2 s.a.C.length q2, .int .i64 s.n.e, .int .i64 s.n.b, .int .i64 0, .slice none 0 0, .slice none 0 0, .int .i64 0, .int .i64 0] 42) := heap_set_self g7 7 _
      have g9 : (((((((((w2.setCell ⟨w.heap.size + 1 + 1, 0, none⟩ (.int .i64 s.ep)).setCell ⟨w.heap.size + 1 + 1, 1, none⟩ (.int .i64 s.a.e)).setCell ⟨w.heap.size + 1 + 1, 2, none⟩ (.int .i64 s.a.b)).setCell ⟨w.heap.size + 1 + 1, 3, none⟩ (.int .i64 s.a.k)).setCell ⟨w.heap.size + 1 + 1, 4, none⟩ (.slice a1 s.a.M.length q1)).setCell ⟨w.heap.size + 1 + 1, 5, none⟩ (.slice a2 s.a.C.length q2)).setCell ⟨w.heap.size + 1 + 1, 6, none⟩ (.int .i64 s.n.e)).setCell ⟨w.heap.size + 1 + 1, 7, none⟩ (.int .i64 s.n.b)).setCell ⟨w.heap.size + 1 + 1, 8, none⟩ (.int .i64 s.n.k)).heap[w.heap.size + 1 + 1]? = some (.cells #[.int .i64 s.ep, .int .i64 s.a.e, .int .i64 s.a.b, .int .i64 s.a.k, .slice a1 s.a.M.length q1, .slice a2 s.a.C.length q2, .int .i64 s.n.e, .int .i64 s.n.b, .int .i64 s.n.k, .slice none 0 0, .slice none 0 0, .int .i64 0, .int .i64 0] 42) := heap_set_self g8 8 _
      have g10 : ((((((((((w2.setCell ⟨w.heap.size + 1 + 1, 0, none⟩ (.int .i64 s.ep)).setCell ⟨w.heap.size + 1 + 1, 1, none⟩ (.int .i64 s.a.e)).setCell ⟨w.heap.size + 1 + 1, 2, none⟩ (.int .i64 s.a.b)).setCell ⟨w.heap.size + 1 + 1, 3, none⟩ (.int .i64 s.a.k)).setCell ⟨w.heap.size + 1 + 1, 4, none⟩ (.slice a1 s.a.M.length q1)).setCell ⟨w.heap.size + 1 + 1, 5, none⟩ (.slice a2 s.a.C.length q2)).setCell ⟨w.heap.size + 1 + 1, 6, none⟩ (.int .i64 s.n.e)).setCell ⟨w.heap.size + 1 + 1, 7, none⟩ (.int .i64 s.n.b)).setCell ⟨w.heap.size + 1 + 1, 8, none⟩ (.int .i64 s.n.k)).setCell ⟨w.heap.size + 1 + 1, 9, none⟩ (.slice a3 s.n.M.length q3)).heap[w.heap.size + 1 + 1]? = some (.cells #[.int .i64 s.ep, .int .i64 s.a.e, .int .i64 s.a.b, .int .i64 s.a.k, .slice a1 s.a.M.length q1, .slice a2 s.a.C.length q2, .int .i64 s.n.e, .int .i64 s.n.b, .int .i64 s.n.k, .slice a3 s.n.M.length q3, .slice none 0 0, .int .i64 0, .int .i64 0] 42) := heap_set_self g9 9 _
      have g11 : (((((((((((w2.setCell ⟨w.heap.size + 1 + 1, 0, none⟩ (.int .i64 s.ep)).setCell ⟨w.heap.size + 1 + 1, 1, none⟩ (.int .i64 s.a.e)).setCell ⟨w.heap.size + 1 + 1, 2, none⟩ (.int .i64 s.a.b)).setCell ⟨w.heap.size + 1 + 1, 3, none⟩ (.int .i64 s.a.k)).setCell ⟨w.heap.size + 1 + 1, 4, none⟩ (.slice a1 s.a.M.length q1)).setCell ⟨w.heap.size + 1 + 1, 5, none⟩ (.slice a2 s.a.C.length q2)).setCell ⟨w.heap.size + 1 + 1, 6, none⟩ (.int .i64 s.n.e)).setCell ⟨w.heap.size + 1 + 1, 7, none⟩ (.int .i64 s.n.b)).setCell ⟨w.heap.size + 1 + 1, 8, none⟩ (.int .i64 s.n.k)).setCell ⟨w.heap.size + 1 + 1, 9, none⟩ (.slice a3 s.n.M.length q3)).setCell ⟨w.heap.size + 1 + 1, 10, none⟩ (.slice a4 s.n.C.length q4)).heap[w.heap.size + 1 + 1]? = some (.cells #[.int .i64 s.ep, .int .i64 s.a.e, .int .i64 s.a.b, .int .i64 s.a.k, .slice a1 s.a.M.length q1, .slice a2 s.a.C.length q2, .int .i64 s.n.e, .int .i64 s.n.b, .int .i64 s.n.k, .slice a3 s.n.M.length q3, .slice a4 s.n.C.length q4, .int .i64 0, .int .i64 0] 42) := heap_set_self g10 10 _
      have g12 : ((((((((((((w2.setCell ⟨w.heap.size + 1 + 1, 0, none⟩ (.int .i64 s.ep)).setCell ⟨w.heap.size + 1 + 1, 1, none⟩ (.int .i64 s.a.e)).setCell ⟨w.heap.size + 1 + 1, 2, none⟩ (.int .i64 s.a.b)).setCell ⟨w.heap.size + 1 + 1, 3, none⟩ (.int .i64 s.a.k)).setCell ⟨w.heap.size + 1 + 1, 4, none⟩ (.slice a1 s.a.M.length q1)).setCell ⟨w.heap.size + 1 + 1, 5, none⟩ (.slice a2 s.a.C.length q2)).setCell ⟨w.heap.size + 1 + 1, 6, none⟩ (.int .i64 s.n.e)).setCell ⟨w.heap.size + 1 + 1, 7, none⟩ (.int .i64 s.n.b)).setCell ⟨w.heap.size + 1 + 1, 8, none⟩ (.int .i64 s.n.k)).setCell ⟨w.heap.size + 1 + 1, 9, none⟩ (.slice a3 s.n.M.length q3)).setCell ⟨w.heap.size + 1 + 1, 10, none⟩ (.slice a4 s.n.C.length q4)).setCell ⟨w.heap.size + 1 + 1, 11, none⟩ (.int .i64 s.s0)).heap[w.heap.size + 1 + 1]? = some (.cells #[.int .i64 s.ep, .int .i64 s.a.e, .int .i64 s.a.b, .int .i64 s.a.k, .slice a1 s.a.M.length q1, .slice a2 s.a.C.length q2, .int .i64 s.n.e, .int .i64 s.n.b, .int .i64 s.n.k, .slice a3 s.n.M.length q3, .slice a4 s.n.C.length q4, .int .i64 s.s0, .int .i64 0] 42) := heap_set_self g11 11 _
      have g13 : (((((((((((((w2.setCell ⟨w.heap.size + 1 + 1, 0, none⟩ (.int .i64 s.ep)).setCell ⟨w.heap.size + 1 + 1, 1, none⟩ (.int .i64 s.a.e)).setCell ⟨w.heap.size + 1 + 1, 2, none⟩ (.int .i64 s.a.b)).setCell ⟨w.heap.size + 1 + 1, 3, none⟩ (.int .i64 s.a.k)).setCell ⟨w.heap.size + 1 + 1, 4, none⟩ (.slice a1 s.a.M.length q1)).setCell ⟨w.heap.size + 1 + 1, 5, none⟩ (.slice a2 s.a.C.length q2)).setCell ⟨w.heap.size + 1 + 1, 6, none⟩ (.int .i64 s.n.e)).setCell ⟨w.heap.size + 1 + 1, 7, none⟩ (.int .i64 s.n.b)).setCell ⟨w.heap.size + 1 + 1, 8, none⟩ (.int .i64 s.n.k)).setCell ⟨w.heap.size + 1 + 1, 9, none⟩ (.slice a3 s.n.M.length q3)).setCell ⟨w.heap.size + 1 + 1, 10, none⟩ (.slice a4 s.n.C.length q4)).setCell ⟨w.heap.size + 1 + 1, 11, none⟩ (.int .i64 s.s0)).setCell ⟨w.heap.size + 1 + 1, 12, none⟩ (.int .i64 s.s1)).heap[w.heap.size + 1 + 1]? = some (.cells #[.int .i64 s.ep, .int .i64 s.a.e, .int .i64 s.a.b, .int .i64 s.a.k, .slice a1 s.a.M.length q1, .slice a2 s.a.C.length q2, .int .i64 s.n.e, .int .i64 s.n.b, .int .i64 s.n.k, .slice a3 s.n.M.length q3, .slice a4 s.n.C.length q4, .int .i64 s.s0, .int .i64 s.s1] 42) := heap_set_self g12 12 _
      have GI := Lib.hid g13
      have GO := Lib.hid (show Only (w.heap.size + 1 + 1) w2 (((((((((((((w2.setCell ⟨w.heap.size + 1 + 1, 0, none⟩ (.int .i64 s.ep)).setCell ⟨w.heap.size + 1 + 1, 1, none⟩ (.int .i64 s.a.e)).setCell ⟨w.heap.size + 1 + 1, 2, none⟩ (.int .i64 s.a.b)).setCell ⟨w.heap.size + 1 + 1, 3, none⟩ (.int .i64 s.a.k)).setCell ⟨w.heap.size + 1 + 1, 4, none⟩ (.slice a1 s.a.M.length q1)).setCell ⟨w.heap.size + 1 + 1, 5, none⟩ (.slice a2 s.a.C.length q2)).setCell ⟨w.heap.size + 1 + 1, 6, none⟩ (.int .i64 s.n.e)).setCell ⟨w.heap.size + 1 + 1, 7, none⟩ (.int .i64 s.n.b)).setCell ⟨w.heap.size + 1 + 1, 8, none⟩ (.int .i64 s.n.k)).setCell ⟨w.heap.size + 1 + 1, 9, none⟩ (.slice a3 s.n.M.length q3)).setCell ⟨w.heap.size + 1 + 1, 10, none⟩ (.slice a4 s.n.C.length q4)).setCell ⟨w.heap.size + 1 + 1, 11, none⟩ (.int .i64 s.s0)).setCell ⟨w.heap.size + 1 + 1, 12, none⟩ (.int .i64 s.s1)) from ((((((((((((((Only.refl _ _).set 0 _).set 1 _).set 2 _).set 3 _).set 4 _).set 5 _).set 6 _).set 7 _).set 8 _).set 9 _).set 10 _).set 11 _).set 12 _))
      clear g1 g2 g3 g4 g5 g6 g7 g8 g9 g10 g11 g12 g13
      have HB := Lib.hid hb
      have HZ := Lib.hid hz
      clear hN hC hR hS hb hz
      go_wp2_with fail
      generalize (((((((((((((w2.setCell ⟨w.heap.size + 1 + 1, 0, none⟩ (.int .i64 s.ep)).setCell ⟨w.heap.size + 1 + 1, 1, none⟩ (.int .i64 s.a.e)).setCell ⟨w.heap.size + 1 + 1, 2, none⟩ (.int .i64 s.a.b)).setCell ⟨w.heap.size + 1 + 1, 3, none⟩ (.int .i64 s.a.k)).setCell ⟨w.heap.size + 1 + 1, 4, none⟩ (.slice a1 s.a.M.length q1)).setCell ⟨w.heap.size + 1 + 1, 5, none⟩ (.slice a2 s.a.C.length q2)).setCell ⟨w.heap.size + 1 + 1, 6, none⟩ (.int .i64 s.n.e)).setCell ⟨w.heap.size + 1 + 1, 7, none⟩ (.int .i64 s.n.b)).setCell ⟨w.heap.size + 1 + 1, 8, none⟩ (.int .i64 s.n.k)).setCell ⟨w.heap.size + 1 + 1, 9, none⟩ (.slice a3 s.n.M.length q3)).setCell ⟨w.heap.size + 1 + 1, 10, none⟩ (.slice a4 s.n.C.length q4)).setCell ⟨w.heap.size + 1 + 1, 11, none⟩ (.int .i64 s.s0)).setCell ⟨w.heap.size + 1 + 1, 12, none⟩ (.int .i64 s.s1)) = wf at *
      have fi := GI.out
      have s0 := cell_atD fi 0 (v := .int .i64 s.ep) rfl
      have s1 := cell_atD fi 1 (v := .int .i64 s.a.e) rfl
      have s2 := cell_atD fi 2 (v := .int .i64 s.a.b) rfl
      have s3 := cell_atD fi 3 (v := .int .i64 s.a.k) rfl
      have s4 := cell_atD fi 4 (v := .slice a1 s.a.M.length q1) rfl
      have s5 := cell_atD fi 5 (v := .slice a2 s.a.C.length q2) rfl
      have s6 := cell_atD fi 6 (v := .int .i64 s.n.e) rfl
      have s7 := cell_atD fi 7 (v := .int .i64 s.n.b) rfl
      have s8 := cell_atD fi 8 (v := .int .i64 s.n.k) rfl
      have s9 := cell_atD fi 9 (v := .slice a3 s.n.M.length q3) rfl
      have s10 := cell_atD fi 10 (v := .slice a4 s.n.C.length q4) rfl
      have s11 := cell_atD fi 11 (v := .int .i64 s.s0) rfl
      have s12 := cell_atD fi 12 (v := .int .i64 s.s1) rfl
      clear fi
      refine bodyPost_ret (v := .agg #[.int .i64 s.ep, .int .i64 s.a.e, .int .i64 s.a.b, .int .i64 s.a.k, .slice a1 s.a.M.length q1, .slice a2 s.a.C.length q2, .int .i64 s.n.e, .int .i64 s.n.b, .int .i64 s.n.k, .slice a3 s.n.M.length q3, .slice a4 s.n.C.length q4, .int .i64 s.s0, .int .i64 s.s1]) (by simp [results, Try.results110, go_sem, s0, s1, s2, s3, s4, s5, s6, s7, s8, s9, s10, s11, s12]) rfl ?_
      have hz := HZ.out
      have hf : Below w.heap.size w wf := HB.out.trans (GO.out.below (B := w.heap.size) (by omega) (by omega))
      rw [prep6_same s e n M C (by omega)]
      exact ⟨_, rfl, ⟨_, _, _, _, rfl, h1.below hf, h2.below hf, h3, h4⟩, hf⟩
  · have g1' : n ≤ s.s1 := by simpa using g1
    go_quiet (fail)
    clear d0 d1 d2 d3 d4 d5 d6 d7 d8 d9 d10 d11 d12 e0 e1 e2 e3 e4 f0 f1
    generalize hw2 : w1.drewN _ = w2
    obtain ⟨iN, iC, iR, iS, ib, iz⟩ := HX.out
    have e2 : w2.heap = w1.heap := by subst hw2; rfl
    have hN := iN
    have hC := iC
    have hR := iR
    have hS := iS
    rw [← e2] at hN hC hR hS
    have hb : Below w.heap.size w w2 := by subst hw2; exact ⟨ib.os, ib.tape, ib.output, ib.size, ib.block⟩
    have hz : w.heap.size + 4 ≤ w2.heap.size := by subst hw2; exact iz
    clear HX iN iC iR iS ib iz hw2 e2
    go_upto_region 4 with fail
    have dN0 := cell_atD hN 0 (v := .int .i64 s.ep) rfl
    have dN1 := cell_atD hN 1 (v := .int .i64 s.a.e) rfl
    have dN2 := cell_atD hN 2 (v := .int .i64 s.a.b) rfl
    have dN3 := cell_atD hN 3 (v := .int .i64 s.a.k) rfl
    have dN4 := cell_atD hN 4 (v := .slice a1 s.a.M.length q1) rfl
    have dN5 := cell_atD hN 5 (v := .slice a2 s.a.C.length q2) rfl
    have dN6 := cell_atD hN 6 (v := .int .i64 s.n.e) rfl
    have dN7 := cell_atD hN 7 (v := .int .i64 s.n.b) rfl
    have dN8 := cell_atD hN 8 (v := .int .i64 s.n.k) rfl
    have dN9 := cell_atD hN 9 (v := .slice a3 s.n.M.length q3) rfl
    have dN10 := cell_atD hN 10 (v := .slice a4 s.n.C.length q4) rfl
    have dN11 := cell_atD hN 11 (v := .int .i64 s.s0) rfl
    have dN12 := cell_atD hN 12 (v := .int .i64 s.s1) rfl
    have dR0 := cell_atD hR 0 (v := .int .i64 0) rfl
    have dR1 := cell_atD hR 1 (v := .int .i64 0) rfl
    have dR2 := cell_atD hR 2 (v := .int .i64 0) rfl
    have dR3 := cell_atD hR 3 (v := .int .i64 0) rfl
    have dR4 := cell_atD hR 4 (v := .slice none 0 0) rfl
    have dR5 := cell_atD hR 5 (v := .slice none 0 0) rfl
    have dR6 := cell_atD hR 6 (v := .int .i64 0) rfl
    have dR7 := cell_atD hR 7 (v := .int .i64 0) rfl
    have dR8 := cell_atD hR 8 (v := .int .i64 0) rfl
    have dR9 := cell_atD hR 9 (v := .slice none 0 0) rfl
    have dR10 := cell_atD hR 10 (v := .slice none 0 0) rfl
    have dR11 := cell_atD hR 11 (v := .int .i64 0) rfl
    have dR12 := cell_atD hR 12 (v := .int .i64 0) rfl
    have fz : ∀ j, w2.frozen? ⟨w.heap.size + 1 + 1, j, none⟩ = false := fun j => by simp [World.frozen?, hR]
    have g1 : (w2.setCell ⟨w.heap.size + 1 + 1, 0, none⟩ (.int .i64 s.ep)).heap[w.heap.size + 1 + 1]? = some (.cells #[.int .i64 s.ep, .int .i64 0, .int .i64 0, .int .i64 0, .slice none 0 0, .slice none 0 0, .int .i64 0, .int .i64 0, .int .i64 0, .slice none 0 0, .slice none 0 0, .int .i64 0, .int .i64 0] 42) := heap_set_self hR 0 _
    have g2 : ((w2.setCell ⟨w.heap.size + 1 + 1, 0, none⟩ (.int .i64 s.ep)).setCell ⟨w.heap.size + 1 + 1, 1, none⟩ (.int .i64 s.a.e)).heap[w.heap.size + 1 + 1]? = some (.cells #[.int .i64 s.ep, .int .i64 s.a.e, .int .i64 0, .int .i64 0, .slice none 0 0, .slice none 0 0, .int .i64 0, .int .i64 0, .int .i64 0, .slice none 0 0, .slice none 0 0, .int .i64 0, .int .i64 0] 42) := heap_set_self g1 1 _
    have g3 : (((w2.setCell ⟨w.heap.size + 1 + 1, 0, none⟩ (.int .i64 s.ep)).setCell ⟨w.heap.size + 1 + 1, 1, none⟩ (.int .i64 s.a.e)).setCell ⟨w.heap.size + 1 + 1, 2, none⟩ (.int .i64 s.a.b)).heap[w.heap.size + 1 + 1]? = some (.cells #[.int .i64 s.ep, .int .i64 s.a.e, .int .i64 s.a.b, .int .i64 0, .slice none 0 0, .slice none 0 0, .int .i64 0, .int .i64 0, .int .i64 0, .slice none 0 0, .slice none 0 0, .int .i64 0, .int .i64 0] 42) := heap_set_self g2 2 _
    have g4 : ((((w2.setCell ⟨w.heap.size + 1 + 1, 0, none⟩ (.int .i64 s.ep)).setCell ⟨w.heap.size + 1 + 1, 1, none⟩ (.int .i64 s.a.e)).setCell ⟨w.heap.size + 1 + 1, 2, none⟩ (.int .i64 s.a.b)).setCell ⟨w.heap.size + 1 + 1, 3, none⟩ (.int .i64 s.a.k)).heap[w.heap.size + 1 + 1]? = some (.cells #[.int .i64 s.ep, .int .i64 s.a.e, .int .i64 s.a.b, .int .i64 s.a.k, .slice none 0 0, .slice none 0 0, .int .i64 0, .int .i64 0, .int .i64 0, .slice none 0 0, .slice none 0 0, .int .i64 0, .int .i64 0] 42) := heap_set_self g3 3 _
    have g5 : (((((w2.setCell ⟨w.heap.size + 1 + 1, 0, none⟩ (.int .i64 s.ep)).setCell ⟨w.heap.size + 1 + 1, 1, none⟩ (.int .i64 s.a.e)).setCell ⟨w.heap.size + 1 + 1, 2, none⟩ (.int .i64 s.a.b)).setCell ⟨w.heap.size + 1 + 1, 3, none⟩ (.int .i64 s.a.k)).setCell ⟨w.heap.size + 1 + 1, 4, none⟩ (.slice a1 s.a.M.length q1)).heap[w.heap.size + 1 + 1]? = some (.cells #[.int .i64 s.ep, .int .i64 s.a.e, .int .i64 s.a.b, .int .i64 s.a.k, .slice a1 s.a.M.length q1, .slice none 0 0, .int .i64 0, .int .i64 0, .int .i64 0, .slice none 0 0, .slice none 0 0, .int .i64 0, .int .i64 0] 42) := heap_set_self g4 4 _
    have g6 : ((((((w2.setCell ⟨w.heap.size + 1 + 1, 0, none⟩ (.int .i64 s.ep)).setCell ⟨w.heap.size + 1 + 1, 1, none⟩ (.int .i64 s.a.e)).setCell ⟨w.heap.size + 1 + 1, 2, none⟩ (.int .i64 s.a.b)).setCell ⟨w.heap.size + 1 + 1, 3, none⟩ (.int .i64 s.a.k)).setCell ⟨w.heap.size + 1 + 1, 4, none⟩ (.slice a1 s.a.M.length q1)).setCell ⟨w.heap.size + 1 + 1, 5, none⟩ (.slice a2 s.a.C.length q2)).heap[w.heap.size + 1 + 1]? = some (.cells #[.int .i64 s.ep, .int .i64 s.a.e, .int .i64 s.a.b, .int .i64 s.a.k, .slice a1 s.a.M.length q1, .slice a2 s.a.C.length q2, .int .i64 0, .int .i64 0, .int .i64 0, .slice none 0 0, .slice none 0 0, .int .i64 0, .int .i64 0] 42) := heap_set_self g5 5 _
    have g7 : (((((((w2.setCell ⟨w.heap.size + 1 + 1, 0, none⟩ (.int .i64 s.ep)).setCell ⟨w.heap.size + 1 + 1, 1, none⟩ (.int .i64 s.a.e)).setCell ⟨w.heap.size + 1 + 1, 2, none⟩ (.int .i64 s.a.b)).setCell ⟨w.heap.size + 1 + 1, 3, none⟩ (.int .i64 s.a.k)).setCell ⟨w.heap.size + 1 + 1, 4, none⟩ (.slice a1 s.a.M.length q1)).setCell ⟨w.heap.size + 1 + 1, 5, none⟩ (.slice a2 s.a.C.length q2)).setCell ⟨w.heap.size + 1 + 1, 6, none⟩ (.int .i64 s.n.e)).heap[w.heap.size + 1 + 1]? = some (.cells #[.int .i64 s.ep, .int .i64 s.a.e, .int .i64 s.a.b, .int .i64 s.a.k, .slice a1 s.a.M.length q1, .slice a2 s.a.C.length q2, .int .i64 s.n.e, .int .i64 0, .int .i64 0, .slice none 0 0, .slice none 0 0, .int .i64 0, .int .i64 0] 42) := heap_set_self g6 6 _
    have g8 : ((((((((w2.setCell ⟨w.heap.size + 1 + 1, 0, none⟩ (.int .i64 s.ep)).setCell ⟨w.heap.size + 1 + 1, 1, none⟩ (.int .i64 s.a.e)).setCell ⟨w.heap.size + 1 + 1, 2, none⟩ (.int .i64 s.a.b)).setCell ⟨w.heap.size + 1 + 1, 3, none⟩ (.int .i64 s.a.k)).setCell ⟨w.heap.size + 1 + 1, 4, none⟩ (.slice a1 s.a.M.length q1)).setCell ⟨w.heap.size + 1 + 1, 5, none⟩ (.slice a2 s.a.C.length q2)).setCell ⟨w.heap.size + 1 + 1, 6, none⟩ (.int .i64 s.n.e)).setCell ⟨w.heap.size + 1 + 1, 7, none⟩ (.int .i64 s.n.b)).heap[w.heap.size + 1 + 1]? = some (.cells #[.int .i64 s.ep, .int .i64 s.a.e, .int .i64 s.a.b, .int .i64 s.a.k, .slice a1 s.a.M.length q1, .slice a2 s.a.C.length q2, .int .i64 s.n.e, .int .i64 s.n.b, .int .i64 0, .slice none 0 0, .slice none 0 0, .int .i64 0, .int .i64 0] 42) := heap_set_self g7 7 _
    have g9 : (((((((((w2.setCell ⟨w.heap.size + 1 + 1, 0, none⟩ (.int .i64 s.ep)).setCell ⟨w.heap.size + 1 + 1, 1, none⟩ (.int .i64 s.a.e)).setCell ⟨w.heap.size + 1 + 1, 2, none⟩ (.int .i64 s.a.b)).setCell ⟨w.heap.size + 1 + 1, 3, none⟩ (.int .i64 s.a.k)).setCell ⟨w.heap.size + 1 + 1, 4, none⟩ (.slice a1 s.a.M.length q1)).setCell ⟨w.heap.size + 1 + 1, 5, none⟩ (.slice a2 s.a.C.length q2)).setCell ⟨w.heap.size + 1 + 1, 6, none⟩ (.int .i64 s.n.e)).setCell ⟨w.heap.size + 1 + 1, 7, none⟩ (.int .i64 s.n.b)).setCell ⟨w.heap.size + 1 + 1, 8, none⟩ (.int .i64 s.n.k)).heap[w.heap.size + 1 + 1]? = some (.cells #[.int .i64 s.ep, .int .i64 s.a.e, .int .i64 s.a.b, .int .i64 s.a.k, .slice a1 s.a.M.length q1, .slice a2 s.a.C.length q2, .int .i64 s.n.e, .int .i64 s.n.b, .int .i64 s.n.k, .slice none 0 0, .slice none 0 0, .int .i64 0, .int .i64 0] 42) := heap_set_self g8 8 _
    have g10 : ((((((((((w2.setCell ⟨w.heap.size + 1 + 1, 0, none⟩ (.int .i64 s.ep)).setCell ⟨w.heap.size + 1 + 1, 1, none⟩ (.int .i64 s.a.e)).setCell ⟨w.heap.size + 1 + 1, 2, none⟩ (.int .i64 s.a.b)).setCell ⟨w.heap.size + 1 + 1, 3, none⟩ (.int .i64 s.a.k)).setCell ⟨w.heap.size + 1 + 1, 4, none⟩ (.slice a1 s.a.M.length q1)).setCell ⟨w.heap.size + 1 + 1, 5, none⟩ (.slice a2 s.a.C.length q2)).setCell ⟨w.heap.size + 1 + 1, 6, none⟩ (.int .i64 s.n.e)).setCell ⟨w.heap.size + 1 + 1, 7, none⟩ (.int .i64 s.n.b)).setCell ⟨w.heap.size + 1 + 1, 8, none⟩ (.int .i64 s.n.k)).setCell ⟨w.heap.size + 1 + 1, 9, none⟩ (.slice a3 s.n.M.length q3)).heap[w.heap.size + 1 + 1]? = some (.cells #[.int .i64 s.ep, .int .i64 s.a.e, .int .i64 s.a.b, .int .i64 s.a.k, .slice a1 s.a.M.length q1, .slice a2 s.a.C.length q2, .int .i64 s.n.e, .int .i64 s.n.b, .int .i64 s.n.k, .slice a3 s.n.M.length q3, .slice none 0 0, .int .i64 0, .int .i64 0] 42) := heap_set_self g9 9 _
    have g11 : (((((((((((w2.setCell ⟨w.heap.size + 1 + 1, 0, none⟩ (.int .i64 s.ep)).setCell ⟨w.heap.size + 1 + 1, 1, none⟩ (.int .i64 s.a.e)).setCell ⟨w.heap.size + 1 + 1, 2, none⟩ (.int .i64 s.a.b)).setCell ⟨w.heap.size + 1 + 1, 3, none⟩ (.int .i64 s.a.k)).setCell ⟨w.heap.size + 1 + 1, 4, none⟩ (.slice a1 s.a.M.length q1)).setCell ⟨w.heap.size + 1 + 1, 5, none⟩ (.slice a2 s.a.C.length q2)).setCell ⟨w.heap.size + 1 + 1, 6, none⟩ (.int .i64 s.n.e)).setCell ⟨w.heap.size + 1 + 1, 7, none⟩ (.int .i64 s.n.b)).setCell ⟨w.heap.size + 1 + 1, 8, none⟩ (.int .i64 s.n.k)).setCell ⟨w.heap.size + 1 + 1, 9, none⟩ (.slice a3 s.n.M.length q3)).setCell ⟨w.heap.size + 1 + 1, 10, none⟩ (.slice a4 s.n.C.length q4)).heap[w.heap.size + 1 + 1]? = some (.cells #[.int .i64 s.ep, .int .i64 s.a.e, .int .i64 s.a.b, .int .i64 s.a.k, .slice a1 s.a.M.length q1, .slice a2 s.a.C.length q2, .int .i64 s.n.e, .int .i64 s.n.b, .int .i64 s.n.k, .slice a3 s.n.M.length q3, .slice a4 s.n.C.length q4, .int .i64 0, .int .i64 0] 42) := heap_set_self g10 10 _
    have g12 : ((((((((((((w2.setCell ⟨w.heap.size + 1 + 1, 0, none⟩ (.int .i64 s.ep)).setCell ⟨w.heap.size + 1 + 1, 1, none⟩ (.int .i64 s.a.e)).setCell ⟨w.heap.size + 1 + 1, 2, none⟩ (.int .i64 s.a.b)).setCell ⟨w.heap.size + 1 + 1, 3, none⟩ (.int .i64 s.a.k)).setCell ⟨w.heap.size + 1 + 1, 4, none⟩ (.slice a1 s.a.M.length q1)).setCell ⟨w.heap.size + 1 + 1, 5, none⟩ (.slice a2 s.a.C.length q2)).setCell ⟨w.heap.size + 1 + 1, 6, none⟩ (.int .i64 s.n.e)).setCell ⟨w.heap.size + 1 + 1, 7, none⟩ (.int .i64 s.n.b)).setCell ⟨w.heap.size + 1 + 1, 8, none⟩ (.int .i64 s.n.k)).setCell ⟨w.heap.size + 1 + 1, 9, none⟩ (.slice a3 s.n.M.length q3)).setCell ⟨w.heap.size + 1 + 1, 10, none⟩ (.slice a4 s.n.C.length q4)).setCell ⟨w.heap.size + 1 + 1, 11, none⟩ (.int .i64 s.s0)).heap[w.heap.size + 1 + 1]? = some (.cells #[.int .i64 s.ep, .int .i64 s.a.e, .int .i64 s.a.b, .int .i64 s.a.k, .slice a1 s.a.M.length q1, .slice a2 s.a.C.length q2, .int .i64 s.n.e, .int .i64 s.n.b, .int .i64 s.n.k, .slice a3 s.n.M.length q3, .slice a4 s.n.C.length q4, .int .i64 s.s0, .int .i64 0] 42) := heap_set_self g11 11 _
    have g13 : (((((((((((((w2.setCell ⟨w.heap.size + 1 + 1, 0, none⟩ (.int .i64 s.ep)).setCell ⟨w.heap.size + 1 + 1, 1, none⟩ (.int .i64 s.a.e)).setCell ⟨w.heap.size + 1 + 1, 2, none⟩ (.int .i64 s.a.b)).setCell ⟨w.heap.size + 1 + 1, 3, none⟩ (.int .i64 s.a.k)).setCell ⟨w.heap.size + 1 + 1, 4, none⟩ (.slice a1 s.a.M.length q1)).setCell ⟨w.heap.size + 1 + 1, 5, none⟩ (.slice a2 s.a.C.length q2)).setCell ⟨w.heap.size + 1 + 1, 6, none⟩ (.int .i64 s.n.e)).setCell ⟨w.heap.size + 1 + 1, 7, none⟩ (.int .i64 s.n.b)).setCell ⟨w.heap.size + 1 + 1, 8, none⟩ (.int .i64 s.n.k)).setCell ⟨w.heap.size + 1 + 1, 9, none⟩ (.slice a3 s.n.M.length q3)).setCell ⟨w.heap.size + 1 + 1, 10, none⟩ (.slice a4 s.n.C.length q4)).setCell ⟨w.heap.size + 1 + 1, 11, none⟩ (.int .i64 s.s0)).setCell ⟨w.heap.size + 1 + 1, 12, none⟩ (.int .i64 s.s1)).heap[w.heap.size + 1 + 1]? = some (.cells #[.int .i64 s.ep, .int .i64 s.a.e, .int .i64 s.a.b, .int .i64 s.a.k, .slice a1 s.a.M.length q1, .slice a2 s.a.C.length q2, .int .i64 s.n.e, .int .i64 s.n.b, .int .i64 s.n.k, .slice a3 s.n.M.length q3, .slice a4 s.n.C.length q4, .int .i64 s.s0, .int .i64 s.s1] 42) := heap_set_self g12 12 _
    have GI := Lib.hid g13
    have GO := Lib.hid (show Only (w.heap.size + 1 + 1) w2 (((((((((((((w2.setCell ⟨w.heap.size + 1 + 1, 0, none⟩ (.int .i64 s.ep)).setCell ⟨w.heap.size + 1 + 1, 1, none⟩ (.int .i64 s.a.e)).setCell ⟨w.heap.size + 1 + 1, 2, none⟩ (.int .i64 s.a.b)).setCell ⟨w.heap.size + 1 + 1, 3, none⟩ (.int .i64 s.a.k)).setCell ⟨w.heap.size + 1 + 1, 4, none⟩ (.slice a1 s.a.M.length q1)).setCell ⟨w.heap.size + 1 + 1, 5, none⟩ (.slice a2 s.a.C.length q2)).setCell ⟨w.heap.size + 1 + 1, 6, none⟩ (.int .i64 s.n.e)).setCell ⟨w.heap.size + 1 + 1, 7, none⟩ (.int .i64 s.n.b)).setCell ⟨w.heap.size + 1 + 1, 8, none⟩ (.int .i64 s.n.k)).setCell ⟨w.heap.size + 1 + 1, 9, none⟩ (.slice a3 s.n.M.length q3)).setCell ⟨w.heap.size + 1 + 1, 10, none⟩ (.slice a4 s.n.C.length q4)).setCell ⟨w.heap.size + 1 + 1, 11, none⟩ (.int .i64 s.s0)).setCell ⟨w.heap.size + 1 + 1, 12, none⟩ (.int .i64 s.s1)) from ((((((((((((((Only.refl _ _).set 0 _).set 1 _).set 2 _).set 3 _).set 4 _).set 5 _).set 6 _).set 7 _).set 8 _).set 9 _).set 10 _).set 11 _).set 12 _))
    clear g1 g2 g3 g4 g5 g6 g7 g8 g9 g10 g11 g12 g13
    have HB := Lib.hid hb
    have HZ := Lib.hid hz
    clear hN hC hR hS hb hz
    go_wp2_with fail
    generalize (((((((((((((w2.setCell ⟨w.heap.size + 1 + 1, 0, none⟩ (.int .i64 s.ep)).setCell ⟨w.heap.size + 1 + 1, 1, none⟩ (.int .i64 s.a.e)).setCell ⟨w.heap.size + 1 + 1, 2, none⟩ (.int .i64 s.a.b)).setCell ⟨w.heap.size + 1 + 1, 3, none⟩ (.int .i64 s.a.k)).setCell ⟨w.heap.size + 1 + 1, 4, none⟩ (.slice a1 s.a.M.length q1)).setCell ⟨w.heap.size + 1 + 1, 5, none⟩ (.slice a2 s.a.C.length q2)).setCell ⟨w.heap.size + 1 + 1, 6, none⟩ (.int .i64 s.n.e)).setCell ⟨w.heap.size + 1 + 1, 7, none⟩ (.int .i64 s.n.b)).setCell ⟨w.heap.size + 1 + 1, 8, none⟩ (.int .i64 s.n.k)).setCell ⟨w.heap.size + 1 + 1, 9, none⟩ (.slice a3 s.n.M.length q3)).setCell ⟨w.heap.size + 1 + 1, 10, none⟩ (.slice a4 s.n.C.length q4)).setCell ⟨w.heap.size + 1 + 1, 11, none⟩ (.int .i64 s.s0)).setCell ⟨w.heap.size + 1 + 1, 12, none⟩ (.int .i64 s.s1)) = wf at *
    have fi := GI.out
    have s0 := cell_atD fi 0 (v := .int .i64 s.ep) rfl
    have s1 := cell_atD fi 1 (v := .int .i64 s.a.e) rfl
    have s2 := cell_atD fi 2 (v := .int .i64 s.a.b) rfl
    have s3 := cell_atD fi 3 (v := .int .i64 s.a.k) rfl
    have s4 := cell_atD fi 4 (v := .slice a1 s.a.M.length q1) rfl
    have s5 := cell_atD fi 5 (v := .slice a2 s.a.C.length q2) rfl
    have s6 := cell_atD fi 6 (v := .int .i64 s.n.e) rfl
    have s7 := cell_atD fi 7 (v := .int .i64 s.n.b) rfl
    have s8 := cell_atD fi 8 (v := .int .i64 s.n.k) rfl
    have s9 := cell_atD fi 9 (v := .slice a3 s.n.M.length q3) rfl
    have s10 := cell_atD fi 10 (v := .slice a4 s.n.C.length q4) rfl
    have s11 := cell_atD fi 11 (v := .int .i64 s.s0) rfl
    have s12 := cell_atD fi 12 (v := .int .i64 s.s1) rfl
    clear fi
    refine bodyPost_ret (v := .agg #[.int .i64 s.ep, .int .i64 s.a.e, .int .i64 s.a.b, .int .i64 s.a.k, .slice a1 s.a.M.length q1, .slice a2 s.a.C.length q2, .int .i64 s.n.e, .int .i64 s.n.b, .int .i64 s.n.k, .slice a3 s.n.M.length q3, .slice a4 s.n.C.length q4, .int .i64 s.s0, .int .i64 s.s1]) (by simp [results, Try.results110, go_sem, s0, s1, s2, s3, s4, s5, s6, s7, s8, s9, s10, s11, s12]) rfl ?_
    have hz := HZ.out
    have hf : Below w.heap.size w wf := HB.out.trans (GO.out.below (B := w.heap.size) (by omega) (by omega))
    rw [prep6_same s e n M C (by omega)]
    exact ⟨_, rfl, ⟨_, _, _, _, rfl, h1.below hf, h2.below hf, h3, h4⟩, hf⟩
end Go.Proofs.Ytjaaddjbmimjoaa
