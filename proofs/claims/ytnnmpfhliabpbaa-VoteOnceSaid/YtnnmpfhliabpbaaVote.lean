/-
  Votes: the contracts of May, None, With, Many, Won; VoteOnce's walk.
-/
import Derived.Test.YtnnmpfhliabpbaaBase
import Derived.Test.YtnnmpfhliabpbaaMask
import Derived.WalkSpells
import Derived.WalkLawsBesides
import Derived.BigQuiet
import Derived.Deep.QuietTactic
import Derived.Handy
namespace Go.Proofs.Ytnnmpfhliabpbaa
open Go.RowKit
set_option linter.unusedVariables false

/-- who may say yes to whom -/
def yesV (term voted asked who : Int) (newer : Bool) : Bool := decide (0 ≤ who ∧ who < 3 ∧ term ≤ asked ∧ newer = true ∧ (term < asked ∨ voted < 0 ∨ voted = who))
theorem voter_any (n : Int) (w : World) : Calls Try.prog 58 #[.int .i64 n] w fun v w' => v = .returned (.bool (decide (0 ≤ n ∧ n < 3))) ∧ w = w' := by
  go_enter Try.func58, Try.ntmps58
  go_wp2
  all_goals go_ret
  all_goals refine ⟨ret_bool ?_, rfl⟩
  all_goals (apply Bool.eq_iff_iff.mpr; simp; try omega)
theorem yes_any (term voted asked who : Int) (newer : Bool) (w : World) :
    Calls Try.prog 20 #[.int .i64 term, .int .i64 voted, .int .i64 asked, .int .i64 who, .bool newer] w fun v w' => v = .returned (.bool (yesV term voted asked who newer)) ∧ w = w' := by
  cases newer <;> by_cases hw : 0 ≤ who ∧ who < 3
  all_goals
    have hc := fun w => voter_any who w
    simp only [hw, decide_true, decide_false, and_self] at hc
    go_enter Try.func20, Try.ntmps20
    go_wp2_with fail
    refine Calls.mono (hc w) ?_
    rintro x w1 ⟨rfl, rfl⟩
    go_wp2
  all_goals go_ret
  all_goals refine ⟨ret_bool ?_, rfl⟩
  all_goals simp only [yesV]
  all_goals (apply Bool.eq_iff_iff.mpr; simp)
  all_goals omega
theorem none_any (w : World) : Calls Try.prog 15 #[] w fun v w' => v = .returned (.agg #[.bool false, .bool false, .bool false]) ∧ Below w.heap.size w w' := by
  go_enter Try.func15, Try.ntmps15
  go_wp2
  go_returns
  exact ⟨rfl, by go_grown⟩
set_option maxRecDepth 20000 in
set_option maxHeartbeats 1600000 in
theorem many_any (x y z : Bool) (w : World) : Calls Try.prog 17 #[.agg #[.bool x, .bool y, .bool z]] w fun v w' => v = .returned (.int .i64 (x.toNat + y.toNat + z.toNat : Nat)) ∧ Below w.heap.size w w' := by
  have i0 : ∀ w : World, (Instr.index 23 (.agg #[.bool x, .bool y, .bool z]) (.int .i64 0)).run Try.prog w = .ok (.bool x) w := fun _ => by kernel_rfl
  have i1 : ∀ w : World, (Instr.index 23 (.agg #[.bool x, .bool y, .bool z]) (.int .i64 1)).run Try.prog w = .ok (.bool y) w := fun _ => by kernel_rfl
  have i2 : ∀ w : World, (Instr.index 23 (.agg #[.bool x, .bool y, .bool z]) (.int .i64 2)).run Try.prog w = .ok (.bool z) w := fun _ => by kernel_rfl
  cases x <;> cases y <;> cases z
  all_goals
    go_enter Try.func17, Try.ntmps17
    go_wp2
    go_rounds 5
  all_goals go_ret
  all_goals exact ⟨rfl, by first | exact Below.refl _ _ | exact (Below.refl _ _).alloc (Nat.le_refl _) _⟩
theorem with_any (x y z : Bool) (n : Int) (w : World) : Calls Try.prog 16 #[.agg #[.bool x, .bool y, .bool z], .int .i64 n] w fun v w' =>
    v = .returned (.agg #[.bool (x || decide (n = 0)), .bool (y || decide (n = 1)), .bool (z || decide (n = 2))]) ∧ Below w.heap.size w w' := by
  have hn : n = 0 ∨ n = 1 ∨ n = 2 ∨ ¬ (0 ≤ n ∧ n < 3) := by omega
  rcases hn with rfl | rfl | rfl | hn
  · go_enter Try.func16, Try.ntmps16
    go_wp2_with fail
    refine Calls.mono (voter_any 0 _) ?_
    rintro v w1 ⟨rfl, rfl⟩
    go_wp2
    go_returns
    exact ⟨by simp, by go_grown⟩
  · go_enter Try.func16, Try.ntmps16
    go_wp2_with fail
    refine Calls.mono (voter_any 1 _) ?_
    rintro v w1 ⟨rfl, rfl⟩
    go_wp2
    go_returns
    exact ⟨by simp, by go_grown⟩
  · go_enter Try.func16, Try.ntmps16
    go_wp2_with fail
    refine Calls.mono (voter_any 2 _) ?_
    rintro v w1 ⟨rfl, rfl⟩
    go_wp2
    go_returns
    exact ⟨by simp, by go_grown⟩
  · have hc := fun w => voter_any n w
    simp only [hn, decide_false] at hc
    go_enter Try.func16, Try.ntmps16
    go_wp2_with fail
    refine Calls.mono (hc _) ?_
    rintro v w1 ⟨rfl, rfl⟩
    go_wp2
    go_returns
    have h0 : decide (n = 0) = false := by simp; omega
    have h1 : decide (n = 1) = false := by simp; omega
    have h2 : decide (n = 2) = false := by simp; omega
    exact ⟨by simp [h0, h1, h2], by go_grown⟩
theorem won_any (x y z : Bool) (w : World) : Calls Try.prog 18 #[.agg #[.bool x, .bool y, .bool z]] w fun v w' => v = .returned (.bool (decide (2 ≤ x.toNat + y.toNat + z.toNat))) ∧ Below w.heap.size w w' := by
  have hx : x.toNat ≤ 1 := by cases x <;> simp
  have hy : y.toNat ≤ 1 := by cases y <;> simp
  have hz : z.toNat ≤ 1 := by cases z <;> simp
  have hl : ((x.toNat + y.toNat + z.toNat : Nat) : Int) ≤ 3 := by omega
  have hl0 : 0 ≤ ((x.toNat + y.toNat + z.toNat : Nat) : Int) := by omega
  have hd : decide (2 ≤ x.toNat + y.toNat + z.toNat) = decide (3 < 2 * ((x.toNat + y.toNat + z.toNat : Nat) : Int)) := by
    apply Bool.eq_iff_iff.mpr
    simp only [decide_eq_true_eq]
    omega
  rw [hd]
  have hm := fun w => many_any x y z w
  clear hd
  generalize ((x.toNat + y.toNat + z.toNat : Nat) : Int) = m at *
  go_enter Try.func18, Try.ntmps18
  go_wp2_with fail
  refine Calls.mono (hm _) ?_
  rintro v w1 ⟨rfl, hb⟩
  go_wp2
  go_returns
  exact ⟨rfl, by go_grown; exact (Below.alloc (Below.refl _ _) (Nat.le_refl _) _).trans (hb.mono (by simp)) ⟩
theorem below_then {a b c : World} (h : Below a.heap.size a b) (k : Below b.heap.size b c) : Below a.heap.size a c := h.trans (k.mono h.size)
theorem vote_awake (w : World) : Calls Try.prog 19 #[] w fun x w' => x = .returned (.bool true) ∧ Below w.heap.size w w' := by
  have c1 : ∀ w, Calls Try.prog 16 #[.agg #[.bool false, .bool false, .bool false], .int .i64 0] w fun v w' => v = .returned (.agg #[.bool true, .bool false, .bool false]) ∧ Below w.heap.size w w' := fun w => by simpa using with_any false false false 0 w
  have c2 : ∀ w, Calls Try.prog 16 #[.agg #[.bool true, .bool false, .bool false], .int .i64 2] w fun v w' => v = .returned (.agg #[.bool true, .bool false, .bool true]) ∧ Below w.heap.size w w' := fun w => by simpa using with_any true false false 2 w
  have c3 : ∀ w, Calls Try.prog 18 #[.agg #[.bool true, .bool false, .bool false]] w fun v w' => v = .returned (.bool false) ∧ Below w.heap.size w w' := fun w => by simpa using won_any true false false w
  have c4 : ∀ w, Calls Try.prog 18 #[.agg #[.bool true, .bool false, .bool true]] w fun v w' => v = .returned (.bool true) ∧ Below w.heap.size w w' := fun w => by simpa using won_any true false true w
  have c5 : ∀ w, Calls Try.prog 20 #[.int .i64 3, .int .i64 (-1), .int .i64 3, .int .i64 1, .bool true] w fun v w' => v = .returned (.bool true) ∧ w = w' := fun w => by simpa [yesV] using yes_any 3 (-1) 3 1 true w
  go_enter Try.func19, Try.ntmps19
  go_wp2_with fail
  refine Calls.mono (none_any _) ?_
  rintro v w1 ⟨rfl, h1⟩
  go_wp2_with fail
  refine Calls.mono (c1 _) ?_
  rintro v w2 ⟨rfl, h2⟩
  replace h2 := below_then h1 h2
  clear h1
  go_wp2_with fail
  refine Calls.mono (c3 _) ?_
  rintro v w3 ⟨rfl, h3⟩
  replace h3 := below_then h2 h3
  clear h2
  go_wp2_with fail
  refine Calls.mono (none_any _) ?_
  rintro v w4 ⟨rfl, h4⟩
  replace h4 := below_then h3 h4
  clear h3
  go_wp2_with fail
  refine Calls.mono (c1 _) ?_
  rintro v w5 ⟨rfl, h5⟩
  replace h5 := below_then h4 h5
  clear h4
  go_wp2_with fail
  refine Calls.mono (c2 _) ?_
  rintro v w6 ⟨rfl, h6⟩
  replace h6 := below_then h5 h6
  clear h5
  go_wp2_with fail
  refine Calls.mono (c4 _) ?_
  rintro v w7 ⟨rfl, h7⟩
  replace h7 := below_then h6 h7
  clear h6
  go_wp2_with fail
  refine Calls.mono (c5 _) ?_
  rintro v w8 ⟨rfl, rfl⟩
  go_wp2
  go_returns
  exact ⟨rfl, h7⟩
theorem second_block {w w1 : World} {A B : Array Value} {s t : TypeId} {nq : Nat} (h : Below (((w.alloc (.cells A s)).alloc (.cells B t)).drewN nq).heap.size (((w.alloc (.cells A s)).alloc (.cells B t)).drewN nq) w1) (i : Nat) (v : Value) (hv : B[i]? = some v) :
    w1.cell? ⟨w.heap.size + 1, i, none⟩ = some v := by
  have hb : w1.heap[w.heap.size + 1]? = some (.cells B t) := by
    refine below_at h (by simp) ?_
    rw [drewN_heap]
    have := heap_alloc_self (w.alloc (.cells A s)) (.cells B t)
    simpa using this
  simp [World.cell?, hb, hv]
set_option maxRecDepth 20000 in
theorem once_law (t x y : Int) (n m : Bool) (w : World) (ht : (Lit.int .i64 t).wf = true) (hx : (Lit.int .i64 x).wf = true) (hy : (Lit.int .i64 y).wf = true) :
    Calls Try.prog 4 #[.int .i64 t, .agg #[.int .i64 x, .int .i64 y], .agg #[.bool n, .bool m]] w fun v w' => v = .returned (.bool true) ∧ Below w.heap.size w w' := by
  clear ht hx hy
  have hX0 : 0 ≤ x % 4 ∧ x % 4 ≤ 3 := by omega
  have hY0 : 0 ≤ y % 4 ∧ y % 4 ≤ 3 := by omega
  generalize hX : x % 4 = X at *
  generalize hY : y % 4 = Y at *
  generalize hT : t % 16 = T at *
  obtain ⟨X0, X3⟩ := hX0
  obtain ⟨Y0, Y3⟩ := hY0
  have m1 : bits .and .i64 t 15 = T := by rw [mask15, hT]
  have m2 : bits .and .i64 x 3 = X := by rw [mask3, hX]
  have m3 : bits .and .i64 y 3 = Y := by rw [mask3, hY]
  have i0 : ∀ w : World, (Instr.index 31 (.agg #[.int .i64 x, .int .i64 y]) (.int .i64 0)).run Try.prog w = .ok (.int .i64 x) w := fun _ => by kernel_rfl
  have i1 : ∀ w : World, (Instr.index 31 (.agg #[.int .i64 x, .int .i64 y]) (.int .i64 1)).run Try.prog w = .ok (.int .i64 y) w := fun _ => by kernel_rfl
  have j0 : ∀ w : World, (Instr.index 32 (.agg #[.bool n, .bool m]) (.int .i64 0)).run Try.prog w = .ok (.bool n) w := fun _ => by kernel_rfl
  have j1 : ∀ w : World, (Instr.index 32 (.agg #[.bool n, .bool m]) (.int .i64 1)).run Try.prog w = .ok (.bool m) w := fun _ => by kernel_rfl
  by_cases hF : X < 3 ∧ n = true
  · have c1 : ∀ w, Calls Try.prog 20 #[.int .i64 T, .int .i64 (-1), .int .i64 T, .int .i64 X, .bool n] w fun v w' => v = .returned (.bool true) ∧ w = w' := fun w => by
      have h := yes_any T (-1) T X n w
      rwa [show yesV T (-1) T X n = true by simp [yesV, hF.2]; omega] at h
    have hS : yesV T X T Y m = true → X = Y := by simp [yesV]; omega
    have c2 := fun w => yes_any T X T Y m w
    obtain ⟨hX3, rfl⟩ := hF
    generalize yesV T X T Y m = S at *
    go_enter Try.func4, Try.ntmps4
    go_wp2_with fail
    go_quiet (fail)
    go_wp2_with fail
    refine Calls.mono (c1 _) ?_
    rintro v w1 ⟨rfl, rfl⟩
    go_wp2_with fail
    refine Calls.mono (c2 _) ?_
    rintro v w1 ⟨rfl, rfl⟩
    go_wp2_with fail
    refine Calls.mono (vote_awake _) ?_
    rintro v w1 ⟨rfl, h1⟩
    have hc := second_block h1 0 (.bool _) rfl
    cases S
    · go_wp2
      go_returns
      refine ⟨rfl, ?_⟩
      refine Below.trans ?_ (h1.mono ?_)
      · exact below_drewN' (Below.alloc (Below.alloc (Below.refl _ _) (Nat.le_refl _) _) (by simp) _) _
      · (simp; try omega)
    · obtain rfl := hS rfl
      go_wp2
      go_returns
      refine ⟨rfl, ?_⟩
      refine Below.trans ?_ (h1.mono ?_)
      · exact below_drewN' (Below.alloc (Below.alloc (Below.refl _ _) (Nat.le_refl _) _) (by simp) _) _
      · (simp; try omega)
  · have c1 : ∀ w, Calls Try.prog 20 #[.int .i64 T, .int .i64 (-1), .int .i64 T, .int .i64 X, .bool n] w fun v w' => v = .returned (.bool false) ∧ w = w' := fun w => by
      have h := yes_any T (-1) T X n w
      rwa [show yesV T (-1) T X n = false by (cases n <;> simp [yesV] <;> simp at hF <;> omega)] at h
    have c2 := fun w => yes_any T (-1) T Y m w
    generalize yesV T (-1) T Y m = S at *
    have hn : n = false ∨ (n = true ∧ X = 3) := by cases n <;> simp at hF ⊢; omega
    rcases hn with rfl | ⟨rfl, rfl⟩
    all_goals
      go_enter Try.func4, Try.ntmps4
      go_wp2_with fail
      go_quiet (fail)
      go_wp2_with fail
      refine Calls.mono (c1 _) ?_
      rintro v w1 ⟨rfl, rfl⟩
      go_wp2_with fail
      refine Calls.mono (c2 _) ?_
      rintro v w1 ⟨rfl, rfl⟩
      go_wp2_with fail
      refine Calls.mono (vote_awake _) ?_
      rintro v w1 ⟨rfl, h1⟩
      have hc := second_block h1 0 (.bool _) rfl
      cases S
    all_goals go_wp2
    all_goals go_returns
    all_goals
      refine ⟨rfl, ?_⟩
      refine Below.trans ?_ (h1.mono ?_)
      · exact below_drewN' (Below.alloc (Below.alloc (Below.refl _ _) (Nat.le_refl _) _) (by simp) _) _
      · (simp; try omega)
end Go.Proofs.Ytnnmpfhliabpbaa
