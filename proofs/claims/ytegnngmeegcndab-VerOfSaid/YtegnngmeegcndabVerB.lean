/-
  VerOf's walk.
-/
import Derived.Test.YtegnngmeegcndabVer
import Derived.Test.YtegnngmeegcndabMask
import Derived.Test.YtegnngmeegcndabArrEq
import Derived.Handy
import Derived.Deep.RegionWith
import Derived.Deep.RegionHeld3
namespace Go.Proofs.Ytegnngmeegcndab
open Go.RowKit
set_option linter.unusedVariables false

theorem of_in {e n : Int} (h0 : 1 ≤ e) (h1 : e ≤ 1048576) (h2 : 1 ≤ n) (h3 : n ≤ 1048576) : ofV e n = e * 1048577 + n ∧ mayV e n = true ∧ epochV (e * 1048577 + n) = e ∧ countV (e * 1048577 + n) = n ∧ knownV (e * 1048577 + n) = true := by
  have hm : mayV e n = true := by simp [mayV]; omega
  have hd : (e * 1048577 + n) / 1048577 = e := by omega
  have hr : (e * 1048577 + n) % 1048577 = n := by omega
  have hk : knownV (e * 1048577 + n) = true := by unfold knownV; rw [hd, hr]; exact hm
  exact ⟨by simp [ofV, hm], hm, by simp [epochV, hk, hd], by simp [countV, hk, hr], hk⟩
set_option maxRecDepth 20000 in
set_option maxHeartbeats 16000000 in
theorem of_law (a0 a1 b0 b1 : Int) (w : World) (h0 : (Lit.int .i64 a0).wf = true) (h1 : (Lit.int .i64 a1).wf = true) (h2 : (Lit.int .i64 b0).wf = true) (h3 : (Lit.int .i64 b1).wf = true) :
    Calls Try.prog 9 #[.agg #[.int .i64 a0, .int .i64 a1], .agg #[.int .i64 b0, .int .i64 b1]] w fun v w' => v = .returned (.bool true) ∧ Below w.heap.size w w' := by
  clear h0 h1 h2 h3
  obtain ⟨A0, e0, l0, u0⟩ : ∃ A, a0 % 1048576 = A ∧ 0 ≤ A ∧ A ≤ 1048575 := ⟨_, rfl, by omega, by omega⟩
  obtain ⟨A1, e1, l1, u1⟩ : ∃ A, a1 % 1048576 = A ∧ 0 ≤ A ∧ A ≤ 1048575 := ⟨_, rfl, by omega, by omega⟩
  obtain ⟨B0, e2, l2, u2⟩ : ∃ A, b0 % 1048576 = A ∧ 0 ≤ A ∧ A ≤ 1048575 := ⟨_, rfl, by omega, by omega⟩
  obtain ⟨B1, e3, l3, u3⟩ : ∃ A, b1 % 1048576 = A ∧ 0 ≤ A ∧ A ≤ 1048575 := ⟨_, rfl, by omega, by omega⟩
  have m0 : bits .and .i64 a0 1048575 = A0 := by rw [mask20, e0]
  have m1 : bits .and .i64 a1 1048575 = A1 := by rw [mask20, e1]
  have m2 : bits .and .i64 b0 1048575 = B0 := by rw [mask20, e2]
  have m3 : bits .and .i64 b1 1048575 = B1 := by rw [mask20, e3]
  obtain ⟨o1, o2, o3, o4, o5⟩ := of_in (e := A0 + 1) (n := A1 + 1) (by omega) (by omega) (by omega) (by omega)
  obtain ⟨p1, p2, p3, p4, p5⟩ := of_in (e := B0 + 1) (n := B1 + 1) (by omega) (by omega) (by omega) (by omega)
  have c1 := fun w => of_any (A0 + 1) (A1 + 1) w
  have c2 := fun w => of_any (B0 + 1) (B1 + 1) w
  have c3 := fun w => may_any (A0 + 1) (A1 + 1) w
  have c4 := fun w => epoch_any ((A0 + 1) * 1048577 + (A1 + 1)) (by omega) (by omega) w
  have c5 := fun w => count_any ((A0 + 1) * 1048577 + (A1 + 1)) (by omega) (by omega) w
  rw [o1] at c1
  rw [p1] at c2
  rw [o2] at c3
  rw [o3] at c4
  rw [o4] at c5
  clear o1 o2 o3 o4 o5 p1 p2 p3 p4 p5 e0 e1 e2 e3
  go_enter Try.func9, Try.ntmps9
  go_wp2_with fail
  have k0 : ((w.alloc (.cells #[.int .i64 a0, .int .i64 a1] 67)).alloc (.cells #[.int .i64 b0, .int .i64 b1] 67)).cell? ⟨w.heap.size, 0, none⟩ = some (.int .i64 a0) := by go_cell
  have k1 : ((w.alloc (.cells #[.int .i64 a0, .int .i64 a1] 67)).alloc (.cells #[.int .i64 b0, .int .i64 b1] 67)).cell? ⟨w.heap.size, 1, none⟩ = some (.int .i64 a1) := by go_cell
  have k2 : ((w.alloc (.cells #[.int .i64 a0, .int .i64 a1] 67)).alloc (.cells #[.int .i64 b0, .int .i64 b1] 67)).cell? ⟨w.heap.size + 1, 0, none⟩ = some (.int .i64 b0) := by go_cell
  have k3 : ((w.alloc (.cells #[.int .i64 a0, .int .i64 a1] 67)).alloc (.cells #[.int .i64 b0, .int .i64 b1] 67)).cell? ⟨w.heap.size + 1, 1, none⟩ = some (.int .i64 b1) := by go_cell
  have hbw : Below w.heap.size w ((w.alloc (.cells #[.int .i64 a0, .int .i64 a1] 67)).alloc (.cells #[.int .i64 b0, .int .i64 b1] 67)) := by go_grown
  have hsz : ((w.alloc (.cells #[.int .i64 a0, .int .i64 a1] 67)).alloc (.cells #[.int .i64 b0, .int .i64 b1] 67)).heap.size = w.heap.size + 2 := by simp
  generalize hw0 : (w.alloc (.cells #[.int .i64 a0, .int .i64 a1] 67)).alloc (.cells #[.int .i64 b0, .int .i64 b1] 67) = w0 at *
  clear hw0
  have n0 := World.new_ne w0 _ k0
  have n1 := World.new_ne w0 _ k1
  have n2 := World.new_ne w0 _ k2
  have n3 := World.new_ne w0 _ k3
  have x0 : IntKind.i64.wrap (A0 + 1) = A0 + 1 := i64_in _ (by omega) (by omega)
  have x1 : IntKind.i64.wrap (A1 + 1) = A1 + 1 := i64_in _ (by omega) (by omega)
  have x2 : IntKind.i64.wrap (B0 + 1) = B0 + 1 := i64_in _ (by omega) (by omega)
  have x3 : IntKind.i64.wrap (B1 + 1) = B1 + 1 := i64_in _ (by omega) (by omega)
  have hcase : (A0 + 1 < B0 + 1 ∧ (A0 + 1) * 1048577 + (A1 + 1) < (B0 + 1) * 1048577 + (B1 + 1)) ∨ (B0 + 1 < A0 + 1 ∧ (B0 + 1) * 1048577 + (B1 + 1) < (A0 + 1) * 1048577 + (A1 + 1)) ∨ (A0 + 1 = B0 + 1 ∧ A1 + 1 < B1 + 1 ∧ (A0 + 1) * 1048577 + (A1 + 1) < (B0 + 1) * 1048577 + (B1 + 1)) ∨ (A0 + 1 = B0 + 1 ∧ A1 + 1 = B1 + 1) ∨ (A0 + 1 = B0 + 1 ∧ B1 + 1 < A1 + 1 ∧ (B0 + 1) * 1048577 + (B1 + 1) < (A0 + 1) * 1048577 + (A1 + 1)) := by omega
  have g0 : 1 ≤ A0 + 1 ∧ A0 + 1 ≤ 1048576 := by omega
  have g1 : 1 ≤ A1 + 1 ∧ A1 + 1 ≤ 1048576 := by omega
  have g2 : 1 ≤ B0 + 1 ∧ B0 + 1 ≤ 1048576 := by omega
  have g3 : 1 ≤ B1 + 1 ∧ B1 + 1 ≤ 1048576 := by omega
  go_region_held3 (fun w' => w'.cell? ⟨w.heap.size, 0, none⟩ = some (.int .i64 a0) ∧ w'.cell? ⟨w.heap.size, 1, none⟩ = some (.int .i64 a1) ∧ w'.cell? ⟨w.heap.size + 1, 0, none⟩ = some (.int .i64 b0) ∧ w'.cell? ⟨w.heap.size + 1, 1, none⟩ = some (.int .i64 b1)) (go_keep) (fail)
  · skip
    have q0 : (((w0.alloc (.cells #[.int .i64 (A0 + 1), .int .i64 (A1 + 1)] 67)).alloc (.cells #[.int .i64 (B0 + 1), .int .i64 (B1 + 1)] 67)).drew).cell? ⟨w.heap.size + 2, 0, none⟩ = some (.int .i64 (A0 + 1)) := by rw [← hsz]; go_cell
    have q1 : (((w0.alloc (.cells #[.int .i64 (A0 + 1), .int .i64 (A1 + 1)] 67)).alloc (.cells #[.int .i64 (B0 + 1), .int .i64 (B1 + 1)] 67)).drew).cell? ⟨w.heap.size + 2, 1, none⟩ = some (.int .i64 (A1 + 1)) := by rw [← hsz]; go_cell
    have q2 : (((w0.alloc (.cells #[.int .i64 (A0 + 1), .int .i64 (A1 + 1)] 67)).alloc (.cells #[.int .i64 (B0 + 1), .int .i64 (B1 + 1)] 67)).drew).cell? ⟨w.heap.size + 2 + 1, 0, none⟩ = some (.int .i64 (B0 + 1)) := by rw [← hsz]; go_cell
    have q3 : (((w0.alloc (.cells #[.int .i64 (A0 + 1), .int .i64 (A1 + 1)] 67)).alloc (.cells #[.int .i64 (B0 + 1), .int .i64 (B1 + 1)] 67)).drew).cell? ⟨w.heap.size + 2 + 1, 1, none⟩ = some (.int .i64 (B1 + 1)) := by rw [← hsz]; go_cell
    have hbq : Below w.heap.size w (((w0.alloc (.cells #[.int .i64 (A0 + 1), .int .i64 (A1 + 1)] 67)).alloc (.cells #[.int .i64 (B0 + 1), .int .i64 (B1 + 1)] 67)).drew) := by refine hbw.trans ?_; go_grown
    generalize ((w0.alloc (.cells #[.int .i64 (A0 + 1), .int .i64 (A1 + 1)] 67)).alloc (.cells #[.int .i64 (B0 + 1), .int .i64 (B1 + 1)] 67)).drew = wq at *
    clear n0 n1 n2 n3 k0 k1 k2 k3 x0 x1 x2 x3 m0 m1 m2 m3 l0 l1 l2 l3 u0 u1 u2 u3
    generalize A0 + 1 = X0 at *
    generalize A1 + 1 = X1 at *
    generalize B0 + 1 = Y0 at *
    generalize B1 + 1 = Y1 at *
    obtain ⟨l0, u0⟩ := g0
    obtain ⟨l1, u1⟩ := g1
    obtain ⟨l2, u2⟩ := g2
    obtain ⟨l3, u3⟩ := g3
    go_wp2_with fail
    go_region_held3 (fun w' => w'.cell? ⟨w.heap.size + 2, 0, none⟩ = some (.int .i64 X0) ∧ w'.cell? ⟨w.heap.size + 2, 1, none⟩ = some (.int .i64 X1) ∧ w'.cell? ⟨w.heap.size + 2 + 1, 0, none⟩ = some (.int .i64 Y0) ∧ w'.cell? ⟨w.heap.size + 2 + 1, 1, none⟩ = some (.int .i64 Y1)) (go_keep) (first | (go_at_call_of 44 (Value.int .i64 X1); refine Calls.mono (c1 _) ?_; rintro e w' ⟨rfl, rfl⟩) | (go_at_call_of 44 (Value.int .i64 Y1); refine Calls.mono (c2 _) ?_; rintro e w' ⟨rfl, rfl⟩))
    rcases hcase with ⟨z1, z2⟩ | ⟨z1, z2⟩ | ⟨rfl, z1, z2⟩ | ⟨rfl, rfl⟩ | ⟨rfl, z1, z2⟩
    · have hg := arr_guard
      have hw : IntKind.u64.wrap (IntKind.u64.wrap (IntKind.u64.wrap X0 * 1048577) + IntKind.u64.wrap X1) = X0 * 1048577 + X1 := by
        rw [u64_in X0 (by omega) (by omega), u64_in X1 (by omega) (by omega), u64_in (X0 * 1048577) (by omega) (by omega), u64_in _ (by omega) (by omega)]
      have z3 : ¬ (X0 * 1048577 + X1 = Y0 * 1048577 + Y1) := by omega
      have z4 : (X0 * 1048577 + X1 == Y0 * 1048577 + Y1) = false := by rw [beq_eq_false_iff_ne]; omega
      have z5 : decide (X0 * 1048577 + X1 = Y0 * 1048577 + Y1) = false := by simp; omega
      have hq : ∀ w, (binOp .eql 67 (.agg #[.int .i64 X0, .int .i64 X1]) (.agg #[.int .i64 Y0, .int .i64 Y1])).run Try.prog w = Result.ok (.bool false) w := fun w => by
        rw [arr_eq]
        congr 2
        simp; omega
      go_wp2_with fail
      try go_quiet (fail)
      go_region_held3 (fun w' => w'.cell? ⟨w.heap.size + 2, 0, none⟩ = some (.int .i64 X0) ∧ w'.cell? ⟨w.heap.size + 2, 1, none⟩ = some (.int .i64 X1) ∧ w'.cell? ⟨w.heap.size + 2 + 1, 0, none⟩ = some (.int .i64 Y0) ∧ w'.cell? ⟨w.heap.size + 2 + 1, 1, none⟩ = some (.int .i64 Y1)) (go_keep) (first | (go_at_call 45; refine Calls.mono (ver_awake _) ?_; rintro e w' ⟨rfl, rfl⟩) | (go_at_call 46; refine Calls.mono (c3 _) ?_; rintro e w' ⟨rfl, rfl⟩) | (go_at_call 47; refine Calls.mono (c4 _) ?_; rintro e w' ⟨rfl, rfl⟩) | (go_at_call 48; refine Calls.mono (c5 _) ?_; rintro e w' ⟨rfl, rfl⟩))
      all_goals go_wp2
      all_goals go_returns
      all_goals refine ⟨ret_bool ?_, (hbq.drew).drew⟩
      all_goals first | rfl | (rw [hw]; simp)
    · have hg := arr_guard
      have z6 : decide (X0 * 1048577 + X1 < Y0 * 1048577 + Y1) = false := by simp; omega
      have z7 : ¬ (X0 * 1048577 + X1 < Y0 * 1048577 + Y1) := by omega
      have z8 : decide (X0 < Y0) = false := by simp; omega
      have z9 : ¬ (X0 < Y0) := by omega
      have z10 : ¬ (X0 = Y0) := by omega
      have z11 : (X0 == Y0) = false := by rw [beq_eq_false_iff_ne]; omega
      have hw : IntKind.u64.wrap (IntKind.u64.wrap (IntKind.u64.wrap X0 * 1048577) + IntKind.u64.wrap X1) = X0 * 1048577 + X1 := by
        rw [u64_in X0 (by omega) (by omega), u64_in X1 (by omega) (by omega), u64_in (X0 * 1048577) (by omega) (by omega), u64_in _ (by omega) (by omega)]
      have z3 : ¬ (X0 * 1048577 + X1 = Y0 * 1048577 + Y1) := by omega
      have z4 : (X0 * 1048577 + X1 == Y0 * 1048577 + Y1) = false := by rw [beq_eq_false_iff_ne]; omega
      have z5 : decide (X0 * 1048577 + X1 = Y0 * 1048577 + Y1) = false := by simp; omega
      have hq : ∀ w, (binOp .eql 67 (.agg #[.int .i64 X0, .int .i64 X1]) (.agg #[.int .i64 Y0, .int .i64 Y1])).run Try.prog w = Result.ok (.bool false) w := fun w => by
        rw [arr_eq]
        congr 2
        simp; omega
      go_wp2_with fail
      try go_quiet (fail)
      go_region_held3 (fun w' => w'.cell? ⟨w.heap.size + 2, 0, none⟩ = some (.int .i64 X0) ∧ w'.cell? ⟨w.heap.size + 2, 1, none⟩ = some (.int .i64 X1) ∧ w'.cell? ⟨w.heap.size + 2 + 1, 0, none⟩ = some (.int .i64 Y0) ∧ w'.cell? ⟨w.heap.size + 2 + 1, 1, none⟩ = some (.int .i64 Y1)) (go_keep) (first | (go_at_call 45; refine Calls.mono (ver_awake _) ?_; rintro e w' ⟨rfl, rfl⟩) | (go_at_call 46; refine Calls.mono (c3 _) ?_; rintro e w' ⟨rfl, rfl⟩) | (go_at_call 47; refine Calls.mono (c4 _) ?_; rintro e w' ⟨rfl, rfl⟩) | (go_at_call 48; refine Calls.mono (c5 _) ?_; rintro e w' ⟨rfl, rfl⟩))
      all_goals go_wp2
      all_goals go_returns
      all_goals refine ⟨ret_bool ?_, (hbq.drew).drew⟩
      all_goals first | rfl | (rw [hw]; simp)
    · have hg := arr_guard
      have hw : IntKind.u64.wrap (IntKind.u64.wrap (IntKind.u64.wrap X0 * 1048577) + IntKind.u64.wrap X1) = X0 * 1048577 + X1 := by
        rw [u64_in X0 (by omega) (by omega), u64_in X1 (by omega) (by omega), u64_in (X0 * 1048577) (by omega) (by omega), u64_in _ (by omega) (by omega)]
      have z3 : ¬ (X0 * 1048577 + X1 = X0 * 1048577 + Y1) := by omega
      have z4 : (X0 * 1048577 + X1 == X0 * 1048577 + Y1) = false := by rw [beq_eq_false_iff_ne]; omega
      have z5 : decide (X0 * 1048577 + X1 = X0 * 1048577 + Y1) = false := by simp; omega
      have hq : ∀ w, (binOp .eql 67 (.agg #[.int .i64 X0, .int .i64 X1]) (.agg #[.int .i64 X0, .int .i64 Y1])).run Try.prog w = Result.ok (.bool false) w := fun w => by
        rw [arr_eq]
        congr 2
        simp; omega
      go_wp2_with fail
      try go_quiet (fail)
      go_region_held3 (fun w' => w'.cell? ⟨w.heap.size + 2, 0, none⟩ = some (.int .i64 X0) ∧ w'.cell? ⟨w.heap.size + 2, 1, none⟩ = some (.int .i64 X1) ∧ w'.cell? ⟨w.heap.size + 2 + 1, 0, none⟩ = some (.int .i64 X0) ∧ w'.cell? ⟨w.heap.size + 2 + 1, 1, none⟩ = some (.int .i64 Y1)) (go_keep) (first | (go_at_call 45; refine Calls.mono (ver_awake _) ?_; rintro e w' ⟨rfl, rfl⟩) | (go_at_call 46; refine Calls.mono (c3 _) ?_; rintro e w' ⟨rfl, rfl⟩) | (go_at_call 47; refine Calls.mono (c4 _) ?_; rintro e w' ⟨rfl, rfl⟩) | (go_at_call 48; refine Calls.mono (c5 _) ?_; rintro e w' ⟨rfl, rfl⟩))
      all_goals go_wp2
      all_goals go_returns
      all_goals refine ⟨ret_bool ?_, (hbq.drew).drew⟩
      all_goals first | rfl | (rw [hw]; simp)
    · have hg := arr_guard
      have hw : IntKind.u64.wrap (IntKind.u64.wrap (IntKind.u64.wrap X0 * 1048577) + IntKind.u64.wrap X1) = X0 * 1048577 + X1 := by
        rw [u64_in X0 (by omega) (by omega), u64_in X1 (by omega) (by omega), u64_in (X0 * 1048577) (by omega) (by omega), u64_in _ (by omega) (by omega)]
      have hq : ∀ w, (binOp .eql 67 (.agg #[.int .i64 X0, .int .i64 X1]) (.agg #[.int .i64 X0, .int .i64 X1])).run Try.prog w = Result.ok (.bool true) w := fun w => by
        rw [arr_eq]
        congr 2
        simp
      go_wp2_with fail
      try go_quiet (fail)
      go_region_held3 (fun w' => w'.cell? ⟨w.heap.size + 2, 0, none⟩ = some (.int .i64 X0) ∧ w'.cell? ⟨w.heap.size + 2, 1, none⟩ = some (.int .i64 X1) ∧ w'.cell? ⟨w.heap.size + 2 + 1, 0, none⟩ = some (.int .i64 X0) ∧ w'.cell? ⟨w.heap.size + 2 + 1, 1, none⟩ = some (.int .i64 X1)) (go_keep) (first | (go_at_call 45; refine Calls.mono (ver_awake _) ?_; rintro e w' ⟨rfl, rfl⟩) | (go_at_call 46; refine Calls.mono (c3 _) ?_; rintro e w' ⟨rfl, rfl⟩) | (go_at_call 47; refine Calls.mono (c4 _) ?_; rintro e w' ⟨rfl, rfl⟩) | (go_at_call 48; refine Calls.mono (c5 _) ?_; rintro e w' ⟨rfl, rfl⟩))
      all_goals go_wp2
      all_goals go_returns
      all_goals refine ⟨ret_bool ?_, (hbq.drew).drew⟩
      all_goals first | rfl | (rw [hw]; simp)
    · have hg := arr_guard
      have hw : IntKind.u64.wrap (IntKind.u64.wrap (IntKind.u64.wrap X0 * 1048577) + IntKind.u64.wrap X1) = X0 * 1048577 + X1 := by
        rw [u64_in X0 (by omega) (by omega), u64_in X1 (by omega) (by omega), u64_in (X0 * 1048577) (by omega) (by omega), u64_in _ (by omega) (by omega)]
      have z3 : ¬ (X0 * 1048577 + X1 = X0 * 1048577 + Y1) := by omega
      have z4 : (X0 * 1048577 + X1 == X0 * 1048577 + Y1) = false := by rw [beq_eq_false_iff_ne]; omega
      have z5 : decide (X0 * 1048577 + X1 = X0 * 1048577 + Y1) = false := by simp; omega
      have hq : ∀ w, (binOp .eql 67 (.agg #[.int .i64 X0, .int .i64 X1]) (.agg #[.int .i64 X0, .int .i64 Y1])).run Try.prog w = Result.ok (.bool false) w := fun w => by
        rw [arr_eq]
        congr 2
        simp; omega
      go_wp2_with fail
      try go_quiet (fail)
      go_region_held3 (fun w' => w'.cell? ⟨w.heap.size + 2, 0, none⟩ = some (.int .i64 X0) ∧ w'.cell? ⟨w.heap.size + 2, 1, none⟩ = some (.int .i64 X1) ∧ w'.cell? ⟨w.heap.size + 2 + 1, 0, none⟩ = some (.int .i64 X0) ∧ w'.cell? ⟨w.heap.size + 2 + 1, 1, none⟩ = some (.int .i64 Y1)) (go_keep) (first | (go_at_call 45; refine Calls.mono (ver_awake _) ?_; rintro e w' ⟨rfl, rfl⟩) | (go_at_call 46; refine Calls.mono (c3 _) ?_; rintro e w' ⟨rfl, rfl⟩) | (go_at_call 47; refine Calls.mono (c4 _) ?_; rintro e w' ⟨rfl, rfl⟩) | (go_at_call 48; refine Calls.mono (c5 _) ?_; rintro e w' ⟨rfl, rfl⟩))
      all_goals go_wp2
      all_goals go_returns
      all_goals refine ⟨ret_bool ?_, (hbq.drew).drew⟩
      all_goals first | rfl | (rw [hw]; simp)
  · skip
    have q0 : (((w0.alloc (.cells #[.int .i64 (B0 + 1), .int .i64 (B1 + 1)] 67)).alloc (.cells #[.int .i64 (A0 + 1), .int .i64 (A1 + 1)] 67)).drew).cell? ⟨w.heap.size + 2 + 1, 0, none⟩ = some (.int .i64 (A0 + 1)) := by rw [← hsz]; go_cell
    have q1 : (((w0.alloc (.cells #[.int .i64 (B0 + 1), .int .i64 (B1 + 1)] 67)).alloc (.cells #[.int .i64 (A0 + 1), .int .i64 (A1 + 1)] 67)).drew).cell? ⟨w.heap.size + 2 + 1, 1, none⟩ = some (.int .i64 (A1 + 1)) := by rw [← hsz]; go_cell
    have q2 : (((w0.alloc (.cells #[.int .i64 (B0 + 1), .int .i64 (B1 + 1)] 67)).alloc (.cells #[.int .i64 (A0 + 1), .int .i64 (A1 + 1)] 67)).drew).cell? ⟨w.heap.size + 2, 0, none⟩ = some (.int .i64 (B0 + 1)) := by rw [← hsz]; go_cell
    have q3 : (((w0.alloc (.cells #[.int .i64 (B0 + 1), .int .i64 (B1 + 1)] 67)).alloc (.cells #[.int .i64 (A0 + 1), .int .i64 (A1 + 1)] 67)).drew).cell? ⟨w.heap.size + 2, 1, none⟩ = some (.int .i64 (B1 + 1)) := by rw [← hsz]; go_cell
    have hbq : Below w.heap.size w (((w0.alloc (.cells #[.int .i64 (B0 + 1), .int .i64 (B1 + 1)] 67)).alloc (.cells #[.int .i64 (A0 + 1), .int .i64 (A1 + 1)] 67)).drew) := by refine hbw.trans ?_; go_grown
    generalize ((w0.alloc (.cells #[.int .i64 (B0 + 1), .int .i64 (B1 + 1)] 67)).alloc (.cells #[.int .i64 (A0 + 1), .int .i64 (A1 + 1)] 67)).drew = wq at *
    clear n0 n1 n2 n3 k0 k1 k2 k3 x0 x1 x2 x3 m0 m1 m2 m3 l0 l1 l2 l3 u0 u1 u2 u3
    generalize A0 + 1 = X0 at *
    generalize A1 + 1 = X1 at *
    generalize B0 + 1 = Y0 at *
    generalize B1 + 1 = Y1 at *
    obtain ⟨l0, u0⟩ := g0
    obtain ⟨l1, u1⟩ := g1
    obtain ⟨l2, u2⟩ := g2
    obtain ⟨l3, u3⟩ := g3
    go_wp2_with fail
    go_region_held3 (fun w' => w'.cell? ⟨w.heap.size + 2 + 1, 0, none⟩ = some (.int .i64 X0) ∧ w'.cell? ⟨w.heap.size + 2 + 1, 1, none⟩ = some (.int .i64 X1) ∧ w'.cell? ⟨w.heap.size + 2, 0, none⟩ = some (.int .i64 Y0) ∧ w'.cell? ⟨w.heap.size + 2, 1, none⟩ = some (.int .i64 Y1)) (go_keep) (first | (go_at_call_of 44 (Value.int .i64 X1); refine Calls.mono (c1 _) ?_; rintro e w' ⟨rfl, rfl⟩) | (go_at_call_of 44 (Value.int .i64 Y1); refine Calls.mono (c2 _) ?_; rintro e w' ⟨rfl, rfl⟩))
    rcases hcase with ⟨z1, z2⟩ | ⟨z1, z2⟩ | ⟨rfl, z1, z2⟩ | ⟨rfl, rfl⟩ | ⟨rfl, z1, z2⟩
    · have hg := arr_guard
      have hw : IntKind.u64.wrap (IntKind.u64.wrap (IntKind.u64.wrap X0 * 1048577) + IntKind.u64.wrap X1) = X0 * 1048577 + X1 := by
        rw [u64_in X0 (by omega) (by omega), u64_in X1 (by omega) (by omega), u64_in (X0 * 1048577) (by omega) (by omega), u64_in _ (by omega) (by omega)]
      have z3 : ¬ (X0 * 1048577 + X1 = Y0 * 1048577 + Y1) := by omega
      have z4 : (X0 * 1048577 + X1 == Y0 * 1048577 + Y1) = false := by rw [beq_eq_false_iff_ne]; omega
      have z5 : decide (X0 * 1048577 + X1 = Y0 * 1048577 + Y1) = false := by simp; omega
      have hq : ∀ w, (binOp .eql 67 (.agg #[.int .i64 X0, .int .i64 X1]) (.agg #[.int .i64 Y0, .int .i64 Y1])).run Try.prog w = Result.ok (.bool false) w := fun w => by
        rw [arr_eq]
        congr 2
        simp; omega
      go_wp2_with fail
      try go_quiet (fail)
      go_region_held3 (fun w' => w'.cell? ⟨w.heap.size + 2 + 1, 0, none⟩ = some (.int .i64 X0) ∧ w'.cell? ⟨w.heap.size + 2 + 1, 1, none⟩ = some (.int .i64 X1) ∧ w'.cell? ⟨w.heap.size + 2, 0, none⟩ = some (.int .i64 Y0) ∧ w'.cell? ⟨w.heap.size + 2, 1, none⟩ = some (.int .i64 Y1)) (go_keep) (first | (go_at_call 45; refine Calls.mono (ver_awake _) ?_; rintro e w' ⟨rfl, rfl⟩) | (go_at_call 46; refine Calls.mono (c3 _) ?_; rintro e w' ⟨rfl, rfl⟩) | (go_at_call 47; refine Calls.mono (c4 _) ?_; rintro e w' ⟨rfl, rfl⟩) | (go_at_call 48; refine Calls.mono (c5 _) ?_; rintro e w' ⟨rfl, rfl⟩))
      all_goals go_wp2
      all_goals go_returns
      all_goals refine ⟨ret_bool ?_, (hbq.drew).drew⟩
      all_goals first | rfl | (rw [hw]; simp)
    · have hg := arr_guard
      have z6 : decide (X0 * 1048577 + X1 < Y0 * 1048577 + Y1) = false := by simp; omega
      have z7 : ¬ (X0 * 1048577 + X1 < Y0 * 1048577 + Y1) := by omega
      have z8 : decide (X0 < Y0) = false := by simp; omega
      have z9 : ¬ (X0 < Y0) := by omega
      have z10 : ¬ (X0 = Y0) := by omega
      have z11 : (X0 == Y0) = false := by rw [beq_eq_false_iff_ne]; omega
      have hw : IntKind.u64.wrap (IntKind.u64.wrap (IntKind.u64.wrap X0 * 1048577) + IntKind.u64.wrap X1) = X0 * 1048577 + X1 := by
        rw [u64_in X0 (by omega) (by omega), u64_in X1 (by omega) (by omega), u64_in (X0 * 1048577) (by omega) (by omega), u64_in _ (by omega) (by omega)]
      have z3 : ¬ (X0 * 1048577 + X1 = Y0 * 1048577 + Y1) := by omega
      have z4 : (X0 * 1048577 + X1 == Y0 * 1048577 + Y1) = false := by rw [beq_eq_false_iff_ne]; omega
      have z5 : decide (X0 * 1048577 + X1 = Y0 * 1048577 + Y1) = false := by simp; omega
      have hq : ∀ w, (binOp .eql 67 (.agg #[.int .i64 X0, .int .i64 X1]) (.agg #[.int .i64 Y0, .int .i64 Y1])).run Try.prog w = Result.ok (.bool false) w := fun w => by
        rw [arr_eq]
        congr 2
        simp; omega
      go_wp2_with fail
      try go_quiet (fail)
      go_region_held3 (fun w' => w'.cell? ⟨w.heap.size + 2 + 1, 0, none⟩ = some (.int .i64 X0) ∧ w'.cell? ⟨w.heap.size + 2 + 1, 1, none⟩ = some (.int .i64 X1) ∧ w'.cell? ⟨w.heap.size + 2, 0, none⟩ = some (.int .i64 Y0) ∧ w'.cell? ⟨w.heap.size + 2, 1, none⟩ = some (.int .i64 Y1)) (go_keep) (first | (go_at_call 45; refine Calls.mono (ver_awake _) ?_; rintro e w' ⟨rfl, rfl⟩) | (go_at_call 46; refine Calls.mono (c3 _) ?_; rintro e w' ⟨rfl, rfl⟩) | (go_at_call 47; refine Calls.mono (c4 _) ?_; rintro e w' ⟨rfl, rfl⟩) | (go_at_call 48; refine Calls.mono (c5 _) ?_; rintro e w' ⟨rfl, rfl⟩))
      all_goals go_wp2
      all_goals go_returns
      all_goals refine ⟨ret_bool ?_, (hbq.drew).drew⟩
      all_goals first | rfl | (rw [hw]; simp)
    · have hg := arr_guard
      have hw : IntKind.u64.wrap (IntKind.u64.wrap (IntKind.u64.wrap X0 * 1048577) + IntKind.u64.wrap X1) = X0 * 1048577 + X1 := by
        rw [u64_in X0 (by omega) (by omega), u64_in X1 (by omega) (by omega), u64_in (X0 * 1048577) (by omega) (by omega), u64_in _ (by omega) (by omega)]
      have z3 : ¬ (X0 * 1048577 + X1 = X0 * 1048577 + Y1) := by omega
      have z4 : (X0 * 1048577 + X1 == X0 * 1048577 + Y1) = false := by rw [beq_eq_false_iff_ne]; omega
      have z5 : decide (X0 * 1048577 + X1 = X0 * 1048577 + Y1) = false := by simp; omega
      have hq : ∀ w, (binOp .eql 67 (.agg #[.int .i64 X0, .int .i64 X1]) (.agg #[.int .i64 X0, .int .i64 Y1])).run Try.prog w = Result.ok (.bool false) w := fun w => by
        rw [arr_eq]
        congr 2
        simp; omega
      go_wp2_with fail
      try go_quiet (fail)
      go_region_held3 (fun w' => w'.cell? ⟨w.heap.size + 2 + 1, 0, none⟩ = some (.int .i64 X0) ∧ w'.cell? ⟨w.heap.size + 2 + 1, 1, none⟩ = some (.int .i64 X1) ∧ w'.cell? ⟨w.heap.size + 2, 0, none⟩ = some (.int .i64 X0) ∧ w'.cell? ⟨w.heap.size + 2, 1, none⟩ = some (.int .i64 Y1)) (go_keep) (first | (go_at_call 45; refine Calls.mono (ver_awake _) ?_; rintro e w' ⟨rfl, rfl⟩) | (go_at_call 46; refine Calls.mono (c3 _) ?_; rintro e w' ⟨rfl, rfl⟩) | (go_at_call 47; refine Calls.mono (c4 _) ?_; rintro e w' ⟨rfl, rfl⟩) | (go_at_call 48; refine Calls.mono (c5 _) ?_; rintro e w' ⟨rfl, rfl⟩))
      all_goals go_wp2
      all_goals go_returns
      all_goals refine ⟨ret_bool ?_, (hbq.drew).drew⟩
      all_goals first | rfl | (rw [hw]; simp)
    · have hg := arr_guard
      have hw : IntKind.u64.wrap (IntKind.u64.wrap (IntKind.u64.wrap X0 * 1048577) + IntKind.u64.wrap X1) = X0 * 1048577 + X1 := by
        rw [u64_in X0 (by omega) (by omega), u64_in X1 (by omega) (by omega), u64_in (X0 * 1048577) (by omega) (by omega), u64_in _ (by omega) (by omega)]
      have hq : ∀ w, (binOp .eql 67 (.agg #[.int .i64 X0, .int .i64 X1]) (.agg #[.int .i64 X0, .int .i64 X1])).run Try.prog w = Result.ok (.bool true) w := fun w => by
        rw [arr_eq]
        congr 2
        simp
      go_wp2_with fail
      try go_quiet (fail)
      go_region_held3 (fun w' => w'.cell? ⟨w.heap.size + 2 + 1, 0, none⟩ = some (.int .i64 X0) ∧ w'.cell? ⟨w.heap.size + 2 + 1, 1, none⟩ = some (.int .i64 X1) ∧ w'.cell? ⟨w.heap.size + 2, 0, none⟩ = some (.int .i64 X0) ∧ w'.cell? ⟨w.heap.size + 2, 1, none⟩ = some (.int .i64 X1)) (go_keep) (first | (go_at_call 45; refine Calls.mono (ver_awake _) ?_; rintro e w' ⟨rfl, rfl⟩) | (go_at_call 46; refine Calls.mono (c3 _) ?_; rintro e w' ⟨rfl, rfl⟩) | (go_at_call 47; refine Calls.mono (c4 _) ?_; rintro e w' ⟨rfl, rfl⟩) | (go_at_call 48; refine Calls.mono (c5 _) ?_; rintro e w' ⟨rfl, rfl⟩))
      all_goals go_wp2
      all_goals go_returns
      all_goals refine ⟨ret_bool ?_, (hbq.drew).drew⟩
      all_goals first | rfl | (rw [hw]; simp)
    · have hg := arr_guard
      have hw : IntKind.u64.wrap (IntKind.u64.wrap (IntKind.u64.wrap X0 * 1048577) + IntKind.u64.wrap X1) = X0 * 1048577 + X1 := by
        rw [u64_in X0 (by omega) (by omega), u64_in X1 (by omega) (by omega), u64_in (X0 * 1048577) (by omega) (by omega), u64_in _ (by omega) (by omega)]
      have z3 : ¬ (X0 * 1048577 + X1 = X0 * 1048577 + Y1) := by omega
      have z4 : (X0 * 1048577 + X1 == X0 * 1048577 + Y1) = false := by rw [beq_eq_false_iff_ne]; omega
      have z5 : decide (X0 * 1048577 + X1 = X0 * 1048577 + Y1) = false := by simp; omega
      have hq : ∀ w, (binOp .eql 67 (.agg #[.int .i64 X0, .int .i64 X1]) (.agg #[.int .i64 X0, .int .i64 Y1])).run Try.prog w = Result.ok (.bool false) w := fun w => by
        rw [arr_eq]
        congr 2
        simp; omega
      go_wp2_with fail
      try go_quiet (fail)
      go_region_held3 (fun w' => w'.cell? ⟨w.heap.size + 2 + 1, 0, none⟩ = some (.int .i64 X0) ∧ w'.cell? ⟨w.heap.size + 2 + 1, 1, none⟩ = some (.int .i64 X1) ∧ w'.cell? ⟨w.heap.size + 2, 0, none⟩ = some (.int .i64 X0) ∧ w'.cell? ⟨w.heap.size + 2, 1, none⟩ = some (.int .i64 Y1)) (go_keep) (first | (go_at_call 45; refine Calls.mono (ver_awake _) ?_; rintro e w' ⟨rfl, rfl⟩) | (go_at_call 46; refine Calls.mono (c3 _) ?_; rintro e w' ⟨rfl, rfl⟩) | (go_at_call 47; refine Calls.mono (c4 _) ?_; rintro e w' ⟨rfl, rfl⟩) | (go_at_call 48; refine Calls.mono (c5 _) ?_; rintro e w' ⟨rfl, rfl⟩))
      all_goals go_wp2
      all_goals go_returns
      all_goals refine ⟨ret_bool ?_, (hbq.drew).drew⟩
      all_goals first | rfl | (rw [hw]; simp)
end Go.Proofs.Ytegnngmeegcndab
