/-
  Votes: the contracts of May, None, With, Many, Won; VoteOnce's walk.
-/
import Derived.Test.YtlabjemjhokcaaaBase
import Derived.Test.YtlabjemjhokcaaaMask
import Derived.WalkSpells
import Derived.WalkLawsBesides
import Derived.BigQuiet
import Derived.Deep.QuietTactic
import Derived.Handy
namespace Go.Proofs.Ytlabjemjhokcaaa
open Go.RowKit
set_option linter.unusedVariables false

/-- who may say yes to whom -/
def yesV (term voted asked who : Int) (newer : Bool) : Bool := decide (0 ≤ who ∧ who < 3 ∧ term ≤ asked ∧ newer = true ∧ (term < asked ∨ voted < 0 ∨ voted = who))
theorem voter_any (n : Int) (w : World) : Calls Try.prog 70 #[.int .i64 n] w fun v w' => v = .returned (.bool (decide (0 ≤ n ∧ n < 3))) ∧ w = w' := by
  go_enter Try.func70, Try.ntmps70
  go_wp2
  all_goals go_ret
  all_goals refine ⟨ret_bool ?_, rfl⟩
  all_goals (apply Bool.eq_iff_iff.mpr; simp; try omega)
theorem yes_any (term voted asked who : Int) (newer : Bool) (w : World) :
    Calls Try.prog 71 #[.int .i64 term, .int .i64 voted, .int .i64 asked, .int .i64 who, .bool newer] w fun v w' => v = .returned (.bool (yesV term voted asked who newer)) ∧ w = w' := by
  cases newer <;> by_cases hw : 0 ≤ who ∧ who < 3
  all_goals
    have hc := fun w => voter_any who w
    simp only [hw, decide_true, decide_false, and_self] at hc
    go_enter Try.func71, Try.ntmps71
    go_wp2_with fail
    refine Calls.mono (hc w) ?_
    rintro x w1 ⟨rfl, rfl⟩
    go_wp2
  all_goals go_ret
  all_goals refine ⟨ret_bool ?_, rfl⟩
  all_goals simp only [yesV]
  all_goals (apply Bool.eq_iff_iff.mpr; simp)
  all_goals omega
theorem none_any (w : World) : Calls Try.prog 27 #[] w fun v w' => v = .returned (.agg #[.bool false, .bool false, .bool false]) ∧ Below w.heap.size w w' := by
  go_enter Try.func27, Try.ntmps27
  go_wp2
  go_returns
  exact ⟨rfl, by go_grown⟩
set_option maxRecDepth 20000 in
set_option maxHeartbeats 1600000 in
theorem many_any (x y z : Bool) (w : World) : Calls Try.prog 29 #[.agg #[.bool x, .bool y, .bool z]] w fun v w' => v = .returned (.int .i64 (x.toNat + y.toNat + z.toNat : Nat)) ∧ Below w.heap.size w w' := by
  have i0 : ∀ w : World, (Instr.index 41 (.agg #[.bool x, .bool y, .bool z]) (.int .i64 0)).run Try.prog w = .ok (.bool x) w := fun _ => by kernel_rfl
  have i1 : ∀ w : World, (Instr.index 41 (.agg #[.bool x, .bool y, .bool z]) (.int .i64 1)).run Try.prog w = .ok (.bool y) w := fun _ => by kernel_rfl
  have i2 : ∀ w : World, (Instr.index 41 (.agg #[.bool x, .bool y, .bool z]) (.int .i64 2)).run Try.prog w = .ok (.bool z) w := fun _ => by kernel_rfl
  cases x <;> cases y <;> cases z
  all_goals
    go_enter Try.func29, Try.ntmps29
    go_wp2
    go_rounds 5
  all_goals go_ret
  all_goals exact ⟨rfl, by first | exact Below.refl _ _ | exact (Below.refl _ _).alloc (Nat.le_refl _) _⟩
theorem with_any (x y z : Bool) (n : Int) (w : World) : Calls Try.prog 28 #[.agg #[.bool x, .bool y, .bool z], .int .i64 n] w fun v w' =>
    v = .returned (.agg #[.bool (x || decide (n = 0)), .bool (y || decide (n = 1)), .bool (z || decide (n = 2))]) ∧ Below w.heap.size w w' := by
  have hn : n = 0 ∨ n = 1 ∨ n = 2 ∨ ¬ (0 ≤ n ∧ n < 3) := by omega
  rcases hn with rfl | rfl | rfl | hn
  · go_enter Try.func28, Try.ntmps28
    go_wp2_with fail
    refine Calls.mono (voter_any 0 _) ?_
    rintro v w1 ⟨rfl, rfl⟩
    go_wp2
    go_returns
    exact ⟨by simp, by go_grown⟩
  · go_enter Try.func28, Try.ntmps28
    go_wp2_with fail
    refine Calls.mono (voter_any 1 _) ?_
    rintro v w1 ⟨rfl, rfl⟩
    go_wp2
    go_returns
    exact ⟨by simp, by go_grown⟩
  · go_enter Try.func28, Try.ntmps28
    go_wp2_with fail
    refine Calls.mono (voter_any 2 _) ?_
    rintro v w1 ⟨rfl, rfl⟩
    go_wp2
    go_returns
    exact ⟨by simp, by go_grown⟩
  · have hc := fun w => voter_any n w
    simp only [hn, decide_false] at hc
    go_enter Try.func28, Try.ntmps28
    go_wp2_with fail
    refine Calls.mono (hc _) ?_
    rintro v w1 ⟨rfl, rfl⟩
    go_wp2
    go_returns
    have h0 : decide (n = 0) = false := by simp; omega
    have h1 : decide (n = 1) = false := by simp; omega
    have h2 : decide (n = 2) = false := by simp; omega
    exact ⟨by simp [h0, h1, h2], by go_grown⟩
theorem won_any (x y z : Bool) (w : World) : Calls Try.prog 30 #[.agg #[.bool x, .bool y, .bool z]] w fun v w' => v = .returned (.bool (decide (2 ≤ x.toNat + y.toNat + z.toNat))) ∧ Below w.heap.size w w' := by
  have hx : x.toNat ≤ 1 := by cases x <;> simp
  have hy : y.toNat ≤ 1 := by cases y <;> simp
  have hz : z.toNat ≤ 1 := by cases z <;> simp
  have hl : ((x.toNat + y.toNat + z.toNat : Nat) : Int) ≤ 3 := by omega
  have hl0 : 0 ≤ ((x.toNat + y.toNat + z.toNat : Nat) : Int) := by omega
  have hd : decide (2 ≤ x.toNat + y.toNat + z.toNat) = decide (3 < 2 * ((x.toNat + y.toNat + z.toNat : Nat) : Int)) := by
    apply Bool.eq_iff_iff.mpr
    simp only [decide_eq_true_eq]
    omega
  rw [hd]
  have hm := fun w => many_any x y z w
  clear hd
  generalize ((x.toNat + y.toNat + z.toNat : Nat) : Int) = m at *
  go_enter Try.func30, Try.ntmps30
  go_wp2_with fail
  refine Calls.mono (hm _) ?_
  rintro v w1 ⟨rfl, hb⟩
  go_wp2
  go_returns
  exact ⟨rfl, by go_grown; exact (Below.alloc (Below.refl _ _) (Nat.le_refl _) _).trans (hb.mono (by simp)) ⟩
theorem below_then {a b c : World} (h : Below a.heap.size a b) (k : Below b.heap.size b c) : Below a.heap.size a c := h.trans (k.mono h.size)
theorem vote_awake (w : World) : Calls Try.prog 31 #[] w fun x w' => x = .returned (.bool true) ∧ Below w.heap.size w w' := by
  have c1 : ∀ w, Calls Try.prog 28 #[.agg #[.bool false, .bool false, .bool false], .int .i64 0] w fun v w' => v = .returned (.agg #[.bool true, .bool false, .bool false]) ∧ Below w.heap.size w w' := fun w => by simpa using with_any false false false 0 w
  have c2 : ∀ w, Calls Try.prog 28 #[.agg #[.bool true, .bool false, .bool false], .int .i64 2] w fun v w' => v = .returned (.agg #[.bool true, .bool false, .bool true]) ∧ Below w.heap.size w w' := fun w => by simpa using with_any true false false 2 w
  have c3 : ∀ w, Calls Try.prog 30 #[.agg #[.bool true, .bool false, .bool false]] w fun v w' => v = .returned (.bool false) ∧ Below w.heap.size w w' := fun w => by simpa using won_any true false false w
  have c4 : ∀ w, Calls Try.prog 30 #[.agg #[.bool true, .bool false, .bool true]] w fun v w' => v = .returned (.bool true) ∧ Below w.heap.size w w' := fun w => by simpa using won_any true false true w
  have c5 : ∀ w, Calls Try.prog 71 #[.int .i64 3, .int .i64 (-1), .int .i64 3, .int .i64 1, .bool true] w fun v w' => v = .returned (.bool true) ∧ w = w' := fun w => by simpa [yesV] using yes_any 3 (-1) 3 1 true w
  go_enter Try.func31, Try.ntmps31
  go_wp2_with fail
  refine Calls.mono (none_any _) ?_
  rintro v w1 ⟨rfl, h1⟩
  go_wp2_with fail
  refine Calls.mono (c1 _) ?_
  rintro v w2 ⟨rfl, h2⟩
  replace h2 := below_then h1 h2
  clear h1
  go_wp2_with fail
  refine Calls.mono (c3 _) ?_
  rintro v w3 ⟨rfl, h3⟩
  replace h3 := below_then h2 h3
  clear h2
  go_wp2_with fail
  refine Calls.mono (none_any _) ?_
  rintro v w4 ⟨rfl, h4⟩
  replace h4 := below_then h3 h4
  clear h3
  go_wp2_with fail
  refine Calls.mono (c1 _) ?_
  rintro v w5 ⟨rfl, h5⟩
  replace h5 := below_then h4 h5
  clear h4
  go_wp2_with fail
  refine Calls.mono (c2 _) ?_
  rintro v w6 ⟨rfl, h6⟩
  replace h6 := below_then h5 h6
  clear h5
  go_wp2_with fail
  refine Calls.mono (c4 _) ?_
  rintro v w7 ⟨rfl, h7⟩
  replace h7 := below_then h6 h7
  clear h6
  go_wp2_with fail
  refine Calls.mono (c5 _) ?_
  rintro v w8 ⟨rfl, rfl⟩
  go_wp2
  go_returns
  exact ⟨rfl, h7⟩
theorem second_block {w w1 : World} {A B : Array Value} {s t : TypeId} {nq : Nat} (h : Below (((w.alloc (.cells A s)).alloc (.cells B t)).drewN nq).heap.size (((w.alloc (.cells A s)).alloc (.cells B t)).drewN nq) w1) (i : Nat) (v : Value) (hv : B[i]? = some v) :
    w1.cell? ⟨w.heap.size + 1, i, none⟩ = some v := by
  have hb : w1.heap[w.heap.size + 1]? = some (.cells B t) := by
    refine below_at h (by simp) ?_
    rw [drewN_heap]
    have := heap_alloc_self (w.alloc (.cells A s)) (.cells B t)
    simpa using this
  simp [World.cell?, hb, hv]
end Go.Proofs.Ytlabjemjhokcaaa
