/-
  A state is the same as itself: decide.Same.
-/
import Derived.Test.YtfgmeeponipjeaaDecF
import Derived.Laws.StructEq
import Derived.ChangeKeysEq
namespace Go.Proofs.Ytfgmeeponipjeaa
open Go.RowKit
set_option linter.unusedVariables false
set_option linter.unusedSimpArgs false

theorem arr_eqD (a b : Int) (w : World) : (binOp .eql 28 (.agg #[.int .i64 a, .int .i64 b]) (.agg #[.int .i64 a, .int .i64 b])).run Try.prog w = Result.ok (.bool true) w := by
  have hc : Try.prog.cellsOf 3 = 1 := by kernel_rfl
  have p : ∀ (x y : Int) (w : World), (part 3 #[.int .i64 x, .int .i64 y] 0).run Try.prog w = .ok (.int .i64 x) w := fun x y w => by kernel_rfl
  have q : ∀ (x y : Int) (w : World), (part 3 #[.int .i64 x, .int .i64 y] 1).run Try.prog w = .ok (.int .i64 y) w := fun x y w => by kernel_rfl
  have e : ∀ (x y : Int) (w : World), (Op.equalIn 9999 3 (.int .i64 x) (.int .i64 y)).run Try.prog w = .ok (x == y) w := fun x y w => run_equalIn_int w 9998 3 .i64 .i64 x y Try.underlying3
  obtain ⟨i, hi⟩ : ∃ i, Try.prog.info? 3 = some i := info_of_underlying Try.underlying3
  rw [run_eql_struct, show (10000 : Nat) = 9999 + 1 from rfl, run_equalIn_array w 9999 _ _ Try.underlying28 hi, hc]
  rw [show List.range 2 = [0, 1] from rfl]
  simp only [Op.eqItems, Sem.run_bind, Nat.zero_mul, Nat.mul_one, Nat.one_mul, p, q, e, Result.andThen_ok]
  simp [Sem.run_bind, q, e]
theorem arr_guardD : Try.prog.eqGuardType Try.prog.depth 28 = false := by kernel_rfl
theorem sv_form {s : DS} {w : World} {v : Value} (h : SV s w v) : ∃ a1 q1 a2 q2 a3 q3 a4 q4, v = .agg #[.int .i64 s.ep, .int .i64 s.a.e, .int .i64 s.a.b, .int .i64 s.a.k, .slice a1 s.a.M.length q1, .slice a2 s.a.C.length q2, .int .i64 s.n.e, .int .i64 s.n.b, .int .i64 s.n.k, .slice a3 s.n.M.length q3, .slice a4 s.n.C.length q4, .int .i64 s.s0, .int .i64 s.s1] ∧ CFat s.a w (.slice a1 s.a.M.length q1) (.slice a2 s.a.C.length q2) ∧ CFat s.n w (.slice a3 s.n.M.length q3) (.slice a4 s.n.C.length q4) := by
  obtain ⟨v1, v2, v3, v4, rfl, h1, h2, h3, h4⟩ := h
  obtain ⟨a1, q1, a2, q2, rfl, rfl⟩ := h1.form
  obtain ⟨a3, q3, a4, q4, rfl, rfl⟩ := h2.form
  exact ⟨_, _, _, _, _, _, _, _, rfl, h1, h2⟩
set_option maxHeartbeats 1600000 in
set_option maxRecDepth 20000 in
theorem dsame (s : DS) (v u : Value) (w : World) (hv : SV s w v) (hu : SV s w u) :
    Calls Try.prog 10 #[v, u] w fun ev w' => ev = .returned (.bool true) ∧ Below w.heap.size w w' := by
  obtain ⟨a1, q1, a2, q2, a3, q3, a4, q4, rfl, h1, h2⟩ := sv_form hv
  obtain ⟨b1, p1, b2, p2, b3, p3, b4, p4, rfl, k1, k2⟩ := sv_form hu
  have hx := alloc_far (o := .cells #[.int .i64 s.ep, .int .i64 s.a.e, .int .i64 s.a.b, .int .i64 s.a.k, .slice b1 s.a.M.length p1, .slice b2 s.a.C.length p2, .int .i64 s.n.e, .int .i64 s.n.b, .int .i64 s.n.k, .slice b3 s.n.M.length p3, .slice b4 s.n.C.length p4, .int .i64 s.s0, .int .i64 s.s1] 30) (heap_alloc_self w (.cells #[.int .i64 s.ep, .int .i64 s.a.e, .int .i64 s.a.b, .int .i64 s.a.k, .slice a1 s.a.M.length q1, .slice a2 s.a.C.length q2, .int .i64 s.n.e, .int .i64 s.n.b, .int .i64 s.n.k, .slice a3 s.n.M.length q3, .slice a4 s.n.C.length q4, .int .i64 s.s0, .int .i64 s.s1] 30))
  have hy := heap_alloc_self (w.alloc (.cells #[.int .i64 s.ep, .int .i64 s.a.e, .int .i64 s.a.b, .int .i64 s.a.k, .slice a1 s.a.M.length q1, .slice a2 s.a.C.length q2, .int .i64 s.n.e, .int .i64 s.n.b, .int .i64 s.n.k, .slice a3 s.n.M.length q3, .slice a4 s.n.C.length q4, .int .i64 s.s0, .int .i64 s.s1] 30)) (.cells #[.int .i64 s.ep, .int .i64 s.a.e, .int .i64 s.a.b, .int .i64 s.a.k, .slice b1 s.a.M.length p1, .slice b2 s.a.C.length p2, .int .i64 s.n.e, .int .i64 s.n.b, .int .i64 s.n.k, .slice b3 s.n.M.length p3, .slice b4 s.n.C.length p4, .int .i64 s.s0, .int .i64 s.s1] 30)
  have hz : (w.alloc (.cells #[.int .i64 s.ep, .int .i64 s.a.e, .int .i64 s.a.b, .int .i64 s.a.k, .slice a1 s.a.M.length q1, .slice a2 s.a.C.length q2, .int .i64 s.n.e, .int .i64 s.n.b, .int .i64 s.n.k, .slice a3 s.n.M.length q3, .slice a4 s.n.C.length q4, .int .i64 s.s0, .int .i64 s.s1] 30)).heap.size = w.heap.size + 1 := by simp
  rw [hz] at hy
  have hb : Below w.heap.size w ((w.alloc (.cells #[.int .i64 s.ep, .int .i64 s.a.e, .int .i64 s.a.b, .int .i64 s.a.k, .slice a1 s.a.M.length q1, .slice a2 s.a.C.length q2, .int .i64 s.n.e, .int .i64 s.n.b, .int .i64 s.n.k, .slice a3 s.n.M.length q3, .slice a4 s.n.C.length q4, .int .i64 s.s0, .int .i64 s.s1] 30)).alloc (.cells #[.int .i64 s.ep, .int .i64 s.a.e, .int .i64 s.a.b, .int .i64 s.a.k, .slice b1 s.a.M.length p1, .slice b2 s.a.C.length p2, .int .i64 s.n.e, .int .i64 s.n.b, .int .i64 s.n.k, .slice b3 s.n.M.length p3, .slice b4 s.n.C.length p4, .int .i64 s.s0, .int .i64 s.s1] 30)) := ((Below.refl _ _).alloc (Nat.le_refl _) _).alloc (by simp) _
  go_enter Try.func10, Try.ntmps10
  go_upto_region 1 with fail
  generalize (w.alloc (.cells #[.int .i64 s.ep, .int .i64 s.a.e, .int .i64 s.a.b, .int .i64 s.a.k, .slice a1 s.a.M.length q1, .slice a2 s.a.C.length q2, .int .i64 s.n.e, .int .i64 s.n.b, .int .i64 s.n.k, .slice a3 s.n.M.length q3, .slice a4 s.n.C.length q4, .int .i64 s.s0, .int .i64 s.s1] 30)).alloc (.cells #[.int .i64 s.ep, .int .i64 s.a.e, .int .i64 s.a.b, .int .i64 s.a.k, .slice b1 s.a.M.length p1, .slice b2 s.a.C.length p2, .int .i64 s.n.e, .int .i64 s.n.b, .int .i64 s.n.k, .slice b3 s.n.M.length p3, .slice b4 s.n.C.length p4, .int .i64 s.s0, .int .i64 s.s1] 30) = w1 at *
  have d0 := cell_atD hx 0 (v := .int .i64 s.ep) rfl
  have d1 := cell_atD hx 1 (v := .int .i64 s.a.e) rfl
  have d2 := cell_atD hx 2 (v := .int .i64 s.a.b) rfl
  have d3 := cell_atD hx 3 (v := .int .i64 s.a.k) rfl
  have d4 := cell_atD hx 4 (v := .slice a1 s.a.M.length q1) rfl
  have d5 := cell_atD hx 5 (v := .slice a2 s.a.C.length q2) rfl
  have d6 := cell_atD hx 6 (v := .int .i64 s.n.e) rfl
  have d7 := cell_atD hx 7 (v := .int .i64 s.n.b) rfl
  have d8 := cell_atD hx 8 (v := .int .i64 s.n.k) rfl
  have d9 := cell_atD hx 9 (v := .slice a3 s.n.M.length q3) rfl
  have d10 := cell_atD hx 10 (v := .slice a4 s.n.C.length q4) rfl
  have d11 := cell_atD hx 11 (v := .int .i64 s.s0) rfl
  have d12 := cell_atD hx 12 (v := .int .i64 s.s1) rfl
  have e0 := cell_atD hy 0 (v := .int .i64 s.ep) rfl
  have e1 := cell_atD hy 1 (v := .int .i64 s.a.e) rfl
  have e2 := cell_atD hy 2 (v := .int .i64 s.a.b) rfl
  have e3 := cell_atD hy 3 (v := .int .i64 s.a.k) rfl
  have e4 := cell_atD hy 4 (v := .slice b1 s.a.M.length p1) rfl
  have e5 := cell_atD hy 5 (v := .slice b2 s.a.C.length p2) rfl
  have e6 := cell_atD hy 6 (v := .int .i64 s.n.e) rfl
  have e7 := cell_atD hy 7 (v := .int .i64 s.n.b) rfl
  have e8 := cell_atD hy 8 (v := .int .i64 s.n.k) rfl
  have e9 := cell_atD hy 9 (v := .slice b3 s.n.M.length p3) rfl
  have e10 := cell_atD hy 10 (v := .slice b4 s.n.C.length p4) rfl
  have e11 := cell_atD hy 11 (v := .int .i64 s.s0) rfl
  have e12 := cell_atD hy 12 (v := .int .i64 s.s1) rfl
  have c1 := csameD s.a s.a a1 a2 b1 b2 q1 q2 p1 p2 w1 (h1.below hb) (k1.below hb)
  rw [sameC_self] at c1
  have eqa := fun wz => arr_eqD s.s0 s.s1 wz
  have eqg := arr_guardD
  have HX := Lib.hid (And.intro hx (And.intro hy hb))
  clear hx hy hz hb
  go_wp2_with fail
  refine Calls.mono c1 ?_
  rintro ev w2 ⟨rfl, hb2⟩
  obtain ⟨hx, hy, hb⟩ := HX.out
  have hx := below_at hb2 (lt_heap hx) hx
  have hy := below_at hb2 (lt_heap hy) hy
  have hb := hb.trans (hb2.mono hb.size)
  clear c1 HX hb2 d0 e0 d1 e1 d2 e2 d3 e3 d4 e4 d5 e5 d6 e6 d7 e7 d8 e8 d9 e9 d10 e10 d11 e11 d12 e12
  have d0 := cell_atD hx 0 (v := .int .i64 s.ep) rfl
  have d1 := cell_atD hx 1 (v := .int .i64 s.a.e) rfl
  have d2 := cell_atD hx 2 (v := .int .i64 s.a.b) rfl
  have d3 := cell_atD hx 3 (v := .int .i64 s.a.k) rfl
  have d4 := cell_atD hx 4 (v := .slice a1 s.a.M.length q1) rfl
  have d5 := cell_atD hx 5 (v := .slice a2 s.a.C.length q2) rfl
  have d6 := cell_atD hx 6 (v := .int .i64 s.n.e) rfl
  have d7 := cell_atD hx 7 (v := .int .i64 s.n.b) rfl
  have d8 := cell_atD hx 8 (v := .int .i64 s.n.k) rfl
  have d9 := cell_atD hx 9 (v := .slice a3 s.n.M.length q3) rfl
  have d10 := cell_atD hx 10 (v := .slice a4 s.n.C.length q4) rfl
  have d11 := cell_atD hx 11 (v := .int .i64 s.s0) rfl
  have d12 := cell_atD hx 12 (v := .int .i64 s.s1) rfl
  have e0 := cell_atD hy 0 (v := .int .i64 s.ep) rfl
  have e1 := cell_atD hy 1 (v := .int .i64 s.a.e) rfl
  have e2 := cell_atD hy 2 (v := .int .i64 s.a.b) rfl
  have e3 := cell_atD hy 3 (v := .int .i64 s.a.k) rfl
  have e4 := cell_atD hy 4 (v := .slice b1 s.a.M.length p1) rfl
  have e5 := cell_atD hy 5 (v := .slice b2 s.a.C.length p2) rfl
  have e6 := cell_atD hy 6 (v := .int .i64 s.n.e) rfl
  have e7 := cell_atD hy 7 (v := .int .i64 s.n.b) rfl
  have e8 := cell_atD hy 8 (v := .int .i64 s.n.k) rfl
  have e9 := cell_atD hy 9 (v := .slice b3 s.n.M.length p3) rfl
  have e10 := cell_atD hy 10 (v := .slice b4 s.n.C.length p4) rfl
  have e11 := cell_atD hy 11 (v := .int .i64 s.s0) rfl
  have e12 := cell_atD hy 12 (v := .int .i64 s.s1) rfl
  have c2 := csameD s.n s.n a3 a4 b3 b4 q3 q4 p3 p4 w2 (h2.below hb) (k2.below hb)
  rw [sameC_self] at c2
  have HB := Lib.hid hb
  clear hx hy hb
  go_wp2_with fail
  refine Calls.mono c2 ?_
  rintro ev w3 ⟨rfl, hb3⟩
  have hbb := HB.out.trans (hb3.mono HB.out.size)
  have HC := Lib.hid hbb
  clear hbb hb3 HB
  go_wp2_with fail
  go_ret
  exact ⟨ret_bool rfl, HC.out⟩
end Go.Proofs.Ytfgmeeponipjeaa
