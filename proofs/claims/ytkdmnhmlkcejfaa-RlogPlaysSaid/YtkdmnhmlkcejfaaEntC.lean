/-
  A command's copy: own.Cmd.
-/
import Derived.Test.YtkdmnhmlkcejfaaEntB
namespace Go.Proofs.Ytkdmnhmlkcejfaa
open Go.RowKit
set_option linter.unusedVariables false
set_option linter.unusedSimpArgs false

set_option maxHeartbeats 1600000 in
theorem ocmd (x : Int) (c : CF) (a1 a2 : Option Addr) (q1 q2 : Nat) (w : World) (h : CFat c w (.slice a1 c.M.length q1) (.slice a2 c.C.length q2)) (hs : short c) :
    Calls Try.prog 31 #[.agg #[.int .i64 x, .int .i64 c.e, .int .i64 c.b, .int .i64 c.k, .slice a1 c.M.length q1, .slice a2 c.C.length q2]] w fun ev w' => ∃ b1 p1 b2 p2, ev = .returned (.agg #[.int .i64 x, .int .i64 c.e, .int .i64 c.b, .int .i64 c.k, .slice b1 c.M.length p1, .slice b2 c.C.length p2]) ∧ CFO c w.heap.size w' (.slice b1 c.M.length p1) (.slice b2 c.C.length p2) ∧ Below w.heap.size w w' := by
  have hx := alloc_far (o := .cells #[.int .i64 0, .int .i64 0, .int .i64 0, .int .i64 0, .slice none 0 0, .slice none 0 0] 44) (heap_alloc_self w (.cells #[.int .i64 x, .int .i64 c.e, .int .i64 c.b, .int .i64 c.k, .slice a1 c.M.length q1, .slice a2 c.C.length q2] 44))
  have hy := heap_alloc_self (w.alloc (.cells #[.int .i64 x, .int .i64 c.e, .int .i64 c.b, .int .i64 c.k, .slice a1 c.M.length q1, .slice a2 c.C.length q2] 44)) (.cells #[.int .i64 0, .int .i64 0, .int .i64 0, .int .i64 0, .slice none 0 0, .slice none 0 0] 44)
  have hz : (w.alloc (.cells #[.int .i64 x, .int .i64 c.e, .int .i64 c.b, .int .i64 c.k, .slice a1 c.M.length q1, .slice a2 c.C.length q2] 44)).heap.size = w.heap.size + 1 := by simp
  rw [hz] at hy
  have hb : Below w.heap.size w ((w.alloc (.cells #[.int .i64 x, .int .i64 c.e, .int .i64 c.b, .int .i64 c.k, .slice a1 c.M.length q1, .slice a2 c.C.length q2] 44)).alloc (.cells #[.int .i64 0, .int .i64 0, .int .i64 0, .int .i64 0, .slice none 0 0, .slice none 0 0] 44)) := ((Below.refl _ _).alloc (Nat.le_refl _) _).alloc (by simp) _
  go_enter Try.func31, Try.ntmps31
  go_upto_region 1 with fail
  generalize (w.alloc (.cells #[.int .i64 x, .int .i64 c.e, .int .i64 c.b, .int .i64 c.k, .slice a1 c.M.length q1, .slice a2 c.C.length q2] 44)).alloc (.cells #[.int .i64 0, .int .i64 0, .int .i64 0, .int .i64 0, .slice none 0 0, .slice none 0 0] 44) = w1 at *
  have d0 := cell_atD hx 0 (v := .int .i64 x) rfl
  have d1 := cell_atD hx 1 (v := .int .i64 c.e) rfl
  have d2 := cell_atD hx 2 (v := .int .i64 c.b) rfl
  have d3 := cell_atD hx 3 (v := .int .i64 c.k) rfl
  have d4 := cell_atD hx 4 (v := .slice a1 c.M.length q1) rfl
  have d5 := cell_atD hx 5 (v := .slice a2 c.C.length q2) rfl
  have cn := oconf' c _ _ w1 (h.below hb) hs
  have hz2 : w.heap.size + 2 ≤ w1.heap.size := by have := lt_heap hy; omega
  have HX := Lib.hid (And.intro hx (And.intro hy (And.intro hb hz2)))
  clear hx hy hz hb hz2 h
  go_wp2_with fail
  refine Calls.mono cn ?_
  rintro ev w2 ⟨b1, p1, b2, p2, rfl, ho, hb2⟩
  clear cn d0 d1 d2 d3 d4 d5
  obtain ⟨hx, hy, hb, hz⟩ := HX.out
  clear HX
  have ho := ho.base hz
  have kx := below_at hb2 (lt_heap hx) hx
  have ky := below_at hb2 (lt_heap hy) hy
  have kb := hb.trans (hb2.mono hb.size)
  clear hx hy hb hz hb2
  have d0 := cell_atD kx 0 (v := .int .i64 x) rfl
  have d1 := cell_atD kx 1 (v := .int .i64 c.e) rfl
  have d2 := cell_atD kx 2 (v := .int .i64 c.b) rfl
  have d3 := cell_atD kx 3 (v := .int .i64 c.k) rfl
  have d4 := cell_atD kx 4 (v := .slice a1 c.M.length q1) rfl
  have d5 := cell_atD kx 5 (v := .slice a2 c.C.length q2) rfl
  have fz : ∀ j, w2.frozen? ⟨w.heap.size, j, none⟩ = false := fun j => by simp [World.frozen?, kx]
  have g1 : (w2.setCell ⟨w.heap.size, 1, none⟩ (.int .i64 c.e)).heap[w.heap.size]? = some (.cells #[.int .i64 x, .int .i64 c.e, .int .i64 c.b, .int .i64 c.k, .slice a1 c.M.length q1, .slice a2 c.C.length q2] 44) := heap_set_self kx 1 _
  have g2 : ((w2.setCell ⟨w.heap.size, 1, none⟩ (.int .i64 c.e)).setCell ⟨w.heap.size, 2, none⟩ (.int .i64 c.b)).heap[w.heap.size]? = some (.cells #[.int .i64 x, .int .i64 c.e, .int .i64 c.b, .int .i64 c.k, .slice a1 c.M.length q1, .slice a2 c.C.length q2] 44) := heap_set_self g1 2 _
  have g3 : (((w2.setCell ⟨w.heap.size, 1, none⟩ (.int .i64 c.e)).setCell ⟨w.heap.size, 2, none⟩ (.int .i64 c.b)).setCell ⟨w.heap.size, 3, none⟩ (.int .i64 c.k)).heap[w.heap.size]? = some (.cells #[.int .i64 x, .int .i64 c.e, .int .i64 c.b, .int .i64 c.k, .slice a1 c.M.length q1, .slice a2 c.C.length q2] 44) := heap_set_self g2 3 _
  have g4 : ((((w2.setCell ⟨w.heap.size, 1, none⟩ (.int .i64 c.e)).setCell ⟨w.heap.size, 2, none⟩ (.int .i64 c.b)).setCell ⟨w.heap.size, 3, none⟩ (.int .i64 c.k)).setCell ⟨w.heap.size, 4, none⟩ (.slice b1 c.M.length p1)).heap[w.heap.size]? = some (.cells #[.int .i64 x, .int .i64 c.e, .int .i64 c.b, .int .i64 c.k, .slice b1 c.M.length p1, .slice a2 c.C.length q2] 44) := heap_set_self g3 4 _
  have g5 : (((((w2.setCell ⟨w.heap.size, 1, none⟩ (.int .i64 c.e)).setCell ⟨w.heap.size, 2, none⟩ (.int .i64 c.b)).setCell ⟨w.heap.size, 3, none⟩ (.int .i64 c.k)).setCell ⟨w.heap.size, 4, none⟩ (.slice b1 c.M.length p1)).setCell ⟨w.heap.size, 5, none⟩ (.slice b2 c.C.length p2)).heap[w.heap.size]? = some (.cells #[.int .i64 x, .int .i64 c.e, .int .i64 c.b, .int .i64 c.k, .slice b1 c.M.length p1, .slice b2 c.C.length p2] 44) := heap_set_self g4 5 _
  have gI := Lib.hid g5
  have gO := Lib.hid (show Only (w.heap.size) w2 (((((w2.setCell ⟨w.heap.size, 1, none⟩ (.int .i64 c.e)).setCell ⟨w.heap.size, 2, none⟩ (.int .i64 c.b)).setCell ⟨w.heap.size, 3, none⟩ (.int .i64 c.k)).setCell ⟨w.heap.size, 4, none⟩ (.slice b1 c.M.length p1)).setCell ⟨w.heap.size, 5, none⟩ (.slice b2 c.C.length p2)) from ((((((Only.refl _ _).set 1 _).set 2 _).set 3 _).set 4 _).set 5 _))
  clear g1 g2 g3 g4 g5
  have HX := Lib.hid (And.intro ky (And.intro kb ho))
  clear kx ky kb ho
  go_upto_region 2 with fail
  generalize (((((w2.setCell ⟨w.heap.size, 1, none⟩ (.int .i64 c.e)).setCell ⟨w.heap.size, 2, none⟩ (.int .i64 c.b)).setCell ⟨w.heap.size, 3, none⟩ (.int .i64 c.k)).setCell ⟨w.heap.size, 4, none⟩ (.slice b1 c.M.length p1)).setCell ⟨w.heap.size, 5, none⟩ (.slice b2 c.C.length p2)) = w3 at *
  clear fz d0 d1 d2 d3 d4 d5
  obtain ⟨ky, kb, ho⟩ := HX.out
  clear HX
  have kx := gI.out
  have ky : w3.heap[w.heap.size + 1]? = some _ := (gO.out.block _ (lt_heap ky) (by omega)).trans ky
  have kb := kb.trans (gO.out.below (B := w.heap.size) (by omega) kb.size)
  have ho := ho.only gO.out (by omega)
  clear gI gO
  have d0 := cell_atD kx 0 (v := .int .i64 x) rfl
  have d1 := cell_atD kx 1 (v := .int .i64 c.e) rfl
  have d2 := cell_atD kx 2 (v := .int .i64 c.b) rfl
  have d3 := cell_atD kx 3 (v := .int .i64 c.k) rfl
  have d4 := cell_atD kx 4 (v := .slice b1 c.M.length p1) rfl
  have d5 := cell_atD kx 5 (v := .slice b2 c.C.length p2) rfl
  have e0 := cell_atD ky 0 (v := .int .i64 0) rfl
  have e1 := cell_atD ky 1 (v := .int .i64 0) rfl
  have e2 := cell_atD ky 2 (v := .int .i64 0) rfl
  have e3 := cell_atD ky 3 (v := .int .i64 0) rfl
  have e4 := cell_atD ky 4 (v := .slice none 0 0) rfl
  have e5 := cell_atD ky 5 (v := .slice none 0 0) rfl
  have fz : ∀ j, w3.frozen? ⟨w.heap.size + 1, j, none⟩ = false := fun j => by simp [World.frozen?, ky]
  have g1 : (w3.setCell ⟨w.heap.size + 1, 0, none⟩ (.int .i64 x)).heap[w.heap.size + 1]? = some (.cells #[.int .i64 x, .int .i64 0, .int .i64 0, .int .i64 0, .slice none 0 0, .slice none 0 0] 44) := heap_set_self ky 0 _
  have g2 : ((w3.setCell ⟨w.heap.size + 1, 0, none⟩ (.int .i64 x)).setCell ⟨w.heap.size + 1, 1, none⟩ (.int .i64 c.e)).heap[w.heap.size + 1]? = some (.cells #[.int .i64 x, .int .i64 c.e, .int .i64 0, .int .i64 0, .slice none 0 0, .slice none 0 0] 44) := heap_set_self g1 1 _
  have g3 : (((w3.setCell ⟨w.heap.size + 1, 0, none⟩ (.int .i64 x)).setCell ⟨w.heap.size + 1, 1, none⟩ (.int .i64 c.e)).setCell ⟨w.heap.size + 1, 2, none⟩ (.int .i64 c.b)).heap[w.heap.size + 1]? = some (.cells #[.int .i64 x, .int .i64 c.e, .int .i64 c.b, .int .i64 0, .slice none 0 0, .slice none 0 0] 44) := heap_set_self g2 2 _
  have g4 : ((((w3.setCell ⟨w.heap.size + 1, 0, none⟩ (.int .i64 x)).setCell ⟨w.heap.size + 1, 1, none⟩ (.int .i64 c.e)).setCell ⟨w.heap.size + 1, 2, none⟩ (.int .i64 c.b)).setCell ⟨w.heap.size + 1, 3, none⟩ (.int .i64 c.k)).heap[w.heap.size + 1]? = some (.cells #[.int .i64 x, .int .i64 c.e, .int .i64 c.b, .int .i64 c.k, .slice none 0 0, .slice none 0 0] 44) := heap_set_self g3 3 _
  have g5 : (((((w3.setCell ⟨w.heap.size + 1, 0, none⟩ (.int .i64 x)).setCell ⟨w.heap.size + 1, 1, none⟩ (.int .i64 c.e)).setCell ⟨w.heap.size + 1, 2, none⟩ (.int .i64 c.b)).setCell ⟨w.heap.size + 1, 3, none⟩ (.int .i64 c.k)).setCell ⟨w.heap.size + 1, 4, none⟩ (.slice b1 c.M.length p1)).heap[w.heap.size + 1]? = some (.cells #[.int .i64 x, .int .i64 c.e, .int .i64 c.b, .int .i64 c.k, .slice b1 c.M.length p1, .slice none 0 0] 44) := heap_set_self g4 4 _
  have g6 : ((((((w3.setCell ⟨w.heap.size + 1, 0, none⟩ (.int .i64 x)).setCell ⟨w.heap.size + 1, 1, none⟩ (.int .i64 c.e)).setCell ⟨w.heap.size + 1, 2, none⟩ (.int .i64 c.b)).setCell ⟨w.heap.size + 1, 3, none⟩ (.int .i64 c.k)).setCell ⟨w.heap.size + 1, 4, none⟩ (.slice b1 c.M.length p1)).setCell ⟨w.heap.size + 1, 5, none⟩ (.slice b2 c.C.length p2)).heap[w.heap.size + 1]? = some (.cells #[.int .i64 x, .int .i64 c.e, .int .i64 c.b, .int .i64 c.k, .slice b1 c.M.length p1, .slice b2 c.C.length p2] 44) := heap_set_self g5 5 _
  have gI := Lib.hid g6
  have gO := Lib.hid (show Only (w.heap.size + 1) w3 ((((((w3.setCell ⟨w.heap.size + 1, 0, none⟩ (.int .i64 x)).setCell ⟨w.heap.size + 1, 1, none⟩ (.int .i64 c.e)).setCell ⟨w.heap.size + 1, 2, none⟩ (.int .i64 c.b)).setCell ⟨w.heap.size + 1, 3, none⟩ (.int .i64 c.k)).setCell ⟨w.heap.size + 1, 4, none⟩ (.slice b1 c.M.length p1)).setCell ⟨w.heap.size + 1, 5, none⟩ (.slice b2 c.C.length p2)) from (((((((Only.refl _ _).set 0 _).set 1 _).set 2 _).set 3 _).set 4 _).set 5 _))
  clear g1 g2 g3 g4 g5 g6
  have HX := Lib.hid (And.intro kb ho)
  clear kx ky kb ho
  go_wp2_with fail
  generalize ((((((w3.setCell ⟨w.heap.size + 1, 0, none⟩ (.int .i64 x)).setCell ⟨w.heap.size + 1, 1, none⟩ (.int .i64 c.e)).setCell ⟨w.heap.size + 1, 2, none⟩ (.int .i64 c.b)).setCell ⟨w.heap.size + 1, 3, none⟩ (.int .i64 c.k)).setCell ⟨w.heap.size + 1, 4, none⟩ (.slice b1 c.M.length p1)).setCell ⟨w.heap.size + 1, 5, none⟩ (.slice b2 c.C.length p2)) = wf at *
  have fi := gI.out
  have t0 := cell_atD fi 0 (v := .int .i64 x) rfl
  have t1 := cell_atD fi 1 (v := .int .i64 c.e) rfl
  have t2 := cell_atD fi 2 (v := .int .i64 c.b) rfl
  have t3 := cell_atD fi 3 (v := .int .i64 c.k) rfl
  have t4 := cell_atD fi 4 (v := .slice b1 c.M.length p1) rfl
  have t5 := cell_atD fi 5 (v := .slice b2 c.C.length p2) rfl
  clear fi
  refine bodyPost_ret (v := .agg #[.int .i64 x, .int .i64 c.e, .int .i64 c.b, .int .i64 c.k, .slice b1 c.M.length p1, .slice b2 c.C.length p2]) (by simp [results, Try.results31, go_sem, t0, t1, t2, t3, t4, t5]) rfl ?_
  obtain ⟨kb, ho⟩ := HX.out
  exact ⟨b1, p1, b2, p2, rfl, (ho.only gO.out (by omega)).base (by omega), kb.trans (gO.out.below (B := w.heap.size) (by omega) kb.size)⟩
end Go.Proofs.Ytkdmnhmlkcejfaa
