/-
  Versions: VerMay's, VerOf's and VerNext's walks; all is reckoned in place, way by way.
-/
import Derived.Test.YtegnngmeegcndabBase
import Derived.WalkSpells
import Derived.WalkLawsBesides
import Derived.BigQuiet
import Derived.Deep.QuietTactic
namespace Go.Proofs.Ytegnngmeegcndab
open Go.RowKit
set_option linter.unusedVariables false

/-- is there such a version -/
def mayV (e n : Int) : Bool := decide (1 ≤ e ∧ e ≤ 1048576 ∧ 1 ≤ n ∧ n ≤ 1048576)
/-- the version of an epoch's writing -/
def ofV (e n : Int) : Int := if mayV e n then e * 1048577 + n else 0
/-- what a version is of -/
def knownV (v : Int) : Bool := mayV (v / 1048577) (v % 1048577)
def epochV (v : Int) : Int := if knownV v then v / 1048577 else 0
def countV (v : Int) : Int := if knownV v then v % 1048577 else 0
theorem u64_in (x : Int) (h0 : 0 ≤ x) (h1 : x ≤ 18446744073709551615) : IntKind.u64.wrap x = x := by
  simp [IntKind.wrap, IntKind.signed, IntKind.bits]
  omega
theorem i64_in (x : Int) (h0 : -9223372036854775808 ≤ x) (h1 : x ≤ 9223372036854775807) : IntKind.i64.wrap x = x := by
  simp [IntKind.wrap, IntKind.signed, IntKind.bits]
  omega

theorem may_any (e n : Int) (w : World) : Calls Try.prog 46 #[.int .i64 e, .int .i64 n] w fun v w' => v = .returned (.bool (mayV e n)) ∧ w = w' := by
  go_enter Try.func46, Try.ntmps46
  go_wp2
  all_goals go_ret
  all_goals refine ⟨ret_bool ?_, rfl⟩
  all_goals simp only [mayV]
  all_goals (apply Bool.eq_iff_iff.mpr; simp; try omega)

theorem may_true {e n : Int} (h : mayV e n = true) (w : World) : Calls Try.prog 46 #[.int .i64 e, .int .i64 n] w fun v w' => v = .returned (.bool true) ∧ w = w' := h ▸ may_any e n w
theorem may_false {e n : Int} (h : mayV e n = false) (w : World) : Calls Try.prog 46 #[.int .i64 e, .int .i64 n] w fun v w' => v = .returned (.bool false) ∧ w = w' := h ▸ may_any e n w
theorem of_any (e n : Int) (w : World) : Calls Try.prog 44 #[.int .i64 e, .int .i64 n] w fun v w' => v = .returned (.int .u64 (ofV e n)) ∧ w = w' := by
  cases hm : mayV e n with
  | true =>
    have hm' := hm
    simp only [mayV, decide_eq_true_eq] at hm'
    go_enter Try.func44, Try.ntmps44
    go_wp2_with fail
    refine Calls.mono (may_true hm w) ?_
    rintro x w1 ⟨rfl, rfl⟩
    go_wp2
    all_goals go_ret
    refine ⟨ret_int ?_, rfl⟩
    simp only [ofV, hm, if_true]
    try rw [u64_in _ (by omega) (by omega)]
    try omega
  | false =>
    go_enter Try.func44, Try.ntmps44
    go_wp2_with fail
    refine Calls.mono (may_false hm w) ?_
    rintro x w1 ⟨rfl, rfl⟩
    go_wp2
    all_goals go_ret
    refine ⟨ret_int ?_, rfl⟩
    simp [ofV, hm]

theorem parts_any (v : Int) (h0 : 0 ≤ v) (h1 : v ≤ 18446744073709551615) (w : World) : Calls Try.prog 66 #[.int .u64 v] w fun x w' => x = .returned (.tuple #[.int .i64 (epochV v), .int .i64 (countV v), .bool (knownV v)]) ∧ w = w' := by
  cases hm : knownV v with
  | true =>
    have hm' := hm
    simp only [knownV, mayV, decide_eq_true_eq] at hm'
    go_enter Try.func66, Try.ntmps66
    go_wp2_with fail
    refine Calls.mono (may_true hm w) ?_
    rintro x w1 ⟨rfl, rfl⟩
    go_wp2
    all_goals go_ret3
    refine ⟨?_, rfl⟩
    simp [epochV, countV, hm]
  | false =>
    go_enter Try.func66, Try.ntmps66
    go_wp2_with fail
    refine Calls.mono (may_false hm w) ?_
    rintro x w1 ⟨rfl, rfl⟩
    go_wp2
    all_goals go_ret3
    refine ⟨?_, rfl⟩
    simp [epochV, countV, hm]
theorem epoch_any (v : Int) (h0 : 0 ≤ v) (h1 : v ≤ 18446744073709551615) (w : World) : Calls Try.prog 47 #[.int .u64 v] w fun x w' => x = .returned (.int .i64 (epochV v)) ∧ w = w' := by
  go_enter Try.func47, Try.ntmps47
  go_wp2_with fail
  refine Calls.mono (parts_any v h0 h1 w) ?_
  rintro x w1 ⟨rfl, rfl⟩
  go_wp2
  go_ret
  exact ⟨rfl, rfl⟩
theorem count_any (v : Int) (h0 : 0 ≤ v) (h1 : v ≤ 18446744073709551615) (w : World) : Calls Try.prog 48 #[.int .u64 v] w fun x w' => x = .returned (.int .i64 (countV v)) ∧ w = w' := by
  go_enter Try.func48, Try.ntmps48
  go_wp2_with fail
  refine Calls.mono (parts_any v h0 h1 w) ?_
  rintro x w1 ⟨rfl, rfl⟩
  go_wp2
  go_ret
  exact ⟨rfl, rfl⟩
/-- is there one more of the same epoch -/
def moreV (v m : Int) : Bool := knownV v && decide (countV v < m ∧ countV v < 1048576)
def nextV (v m : Int) : Int := if moreV v m then ofV (epochV v) (countV v + 1) else 0
theorem next_any (v m : Int) (h0 : 0 ≤ v) (h1 : v ≤ 18446744073709551615) (w : World) :
    Calls Try.prog 50 #[.int .u64 v, .int .i64 m] w fun x w' => x = .returned (.tuple #[.int .u64 (nextV v m), .bool (moreV v m)]) ∧ w = w' := by
  have hb : 0 ≤ countV v ∧ countV v < 1048577 := by unfold countV; split <;> omega
  cases hk : knownV v with
  | true =>
    go_enter Try.func50, Try.ntmps50
    go_wp2_with fail
    have hp := parts_any v h0 h1 w
    rw [hk] at hp
    refine Calls.mono hp ?_
    rintro x w1 ⟨rfl, rfl⟩
    clear hp
    go_wp2_with fail
    all_goals (try (refine Calls.mono (of_any _ _ w) ?_; rintro x w1 ⟨rfl, rfl⟩; go_wp2))
    all_goals go_ret2
    all_goals refine ⟨?_, rfl⟩
    all_goals simp [nextV, moreV, hk]
    all_goals (try omega)
  | false =>
    go_enter Try.func50, Try.ntmps50
    go_wp2_with fail
    have hp := parts_any v h0 h1 w
    rw [hk] at hp
    refine Calls.mono hp ?_
    rintro x w1 ⟨rfl, rfl⟩
    clear hp
    go_wp2_with fail
    all_goals (try (refine Calls.mono (of_any _ _ w) ?_; rintro x w1 ⟨rfl, rfl⟩; go_wp2))
    all_goals go_ret2
    all_goals refine ⟨?_, rfl⟩
    all_goals simp [nextV, moreV, hk]
    all_goals (try omega)
/-- is there a first one -/
def firstB (e m : Int) : Bool := mayV e 1 && decide (1 ≤ m)
def firstV (e m : Int) : Int := if firstB e m then ofV e 1 else 0
theorem first_any (e m : Int) (w : World) :
    Calls Try.prog 49 #[.int .i64 e, .int .i64 m] w fun x w' => x = .returned (.tuple #[.int .u64 (firstV e m), .bool (firstB e m)]) ∧ w = w' := by
  cases hk : mayV e 1 with
  | true =>
    go_enter Try.func49, Try.ntmps49
    go_wp2_with fail
    refine Calls.mono (may_true hk w) ?_
    rintro x w1 ⟨rfl, rfl⟩
    go_wp2_with fail
    all_goals (try (refine Calls.mono (of_any _ _ w) ?_; rintro x w1 ⟨rfl, rfl⟩; go_wp2))
    all_goals go_ret2
    all_goals refine ⟨?_, rfl⟩
    all_goals simp [firstV, firstB, hk]
    all_goals (try omega)
  | false =>
    go_enter Try.func49, Try.ntmps49
    go_wp2_with fail
    refine Calls.mono (may_false hk w) ?_
    rintro x w1 ⟨rfl, rfl⟩
    go_wp2_with fail
    all_goals (try (refine Calls.mono (of_any _ _ w) ?_; rintro x w1 ⟨rfl, rfl⟩; go_wp2))
    all_goals go_ret2
    all_goals refine ⟨?_, rfl⟩
    all_goals simp [firstV, firstB, hk]
    all_goals (try omega)
theorem ver_awake (w : World) : Calls Try.prog 45 #[] w fun x w' => x = .returned (.bool true) ∧ w = w' := by
  have h1 : ofV 3 7 = 3145738 := by decide
  have h2 : nextV 3145738 100 = 3145739 := by decide
  have h3 : moreV 3145738 100 = true := by decide
  have h4 : ofV 3 8 = 3145739 := by decide
  have h5 : epochV 3145739 = 3 := by decide
  have h6 : countV 3145739 = 8 := by decide
  have c1 := fun w => of_any 3 7 w
  have c2 := fun w => next_any 3145738 100 (by omega) (by omega) w
  have c3 := fun w => of_any 3 8 w
  have c4 := fun w => epoch_any 3145739 (by omega) (by omega) w
  have c5 := fun w => count_any 3145739 (by omega) (by omega) w
  rw [h1] at c1
  rw [h2, h3] at c2
  rw [h4] at c3
  rw [h5] at c4
  rw [h6] at c5
  go_enter Try.func45, Try.ntmps45
  go_wp2_with fail
  refine Calls.mono (c1 w) ?_
  rintro x w1 ⟨rfl, rfl⟩
  go_wp2_with fail
  refine Calls.mono (c2 w) ?_
  rintro x w1 ⟨rfl, rfl⟩
  go_wp2_with fail
  refine Calls.mono (c3 w) ?_
  rintro x w1 ⟨rfl, rfl⟩
  go_wp2_with fail
  refine Calls.mono (c4 w) ?_
  rintro x w1 ⟨rfl, rfl⟩
  go_wp2_with fail
  refine Calls.mono (c5 w) ?_
  rintro x w1 ⟨rfl, rfl⟩
  go_wp2
  go_ret
  exact ⟨rfl, rfl⟩
theorem of_pos {e n : Int} : (0 < ofV e n) ↔ mayV e n = true := by
  unfold ofV
  split
  · rename_i h
    simp [mayV] at h
    simp [mayV]
    omega
  · rename_i h
    simp [h]
theorem of_back {v : Int} (h0 : 0 ≤ v) (h1 : v ≤ 18446744073709551615) (h : knownV v = true) : ofV (v / 1048577) (v % 1048577) = v := by
  unfold ofV
  rw [show mayV (v / 1048577) (v % 1048577) = true from h]
  simp
  omega
theorem wf_u64' {x : Int} (h : (Lit.int .u64 x).wf = true) : 0 ≤ x ∧ x ≤ 18446744073709551615 := by
  simp [Lit.wf, IntKind.min, IntKind.max, IntKind.signed, IntKind.bits] at h
  omega
theorem wf_i64' {x : Int} (h : (Lit.int .i64 x).wf = true) : -9223372036854775808 ≤ x ∧ x ≤ 9223372036854775807 := by
  simp [Lit.wf, IntKind.min, IntKind.max, IntKind.signed, IntKind.bits] at h
  omega
theorem of_le {e n : Int} : 0 ≤ ofV e n ∧ ofV e n ≤ 1099513724928 := by
  unfold ofV
  split
  · rename_i h
    simp [mayV] at h
    omega
  · omega
set_option maxRecDepth 20000 in
set_option maxHeartbeats 3200000 in
theorem may_law (e n v : Int) (w : World) (he : (Lit.int .i64 e).wf = true) (hn : (Lit.int .i64 n).wf = true) (hv : (Lit.int .u64 v).wf = true) :
    Calls Try.prog 10 #[.int .i64 e, .int .i64 n, .int .u64 v] w fun x w' => x = .returned (.bool true) ∧ Below w.heap.size w w' := by
  have h0 := (wf_u64' hv).1
  have h1 := (wf_u64' hv).2
  clear he hn hv
  have he : (1 ≤ e ∧ e ≤ 1048576 ∧ 1 ≤ n ∧ n ≤ 1048576) ∨ e < 1 ∨ (1 ≤ e ∧ 1048576 < e) ∨ (1 ≤ e ∧ e ≤ 1048576 ∧ n < 1) ∨ (1 ≤ e ∧ e ≤ 1048576 ∧ 1 ≤ n ∧ 1048576 < n) := by omega
  have hv : (1 ≤ v / 1048577 ∧ v / 1048577 ≤ 1048576 ∧ 1 ≤ v % 1048577) ∨ v / 1048577 < 1 ∨ (1 ≤ v / 1048577 ∧ 1048576 < v / 1048577) ∨ (1 ≤ v / 1048577 ∧ v / 1048577 ≤ 1048576 ∧ v % 1048577 < 1) := by omega
  rcases he with ⟨e1, e2, e3, e4⟩ | e1 | ⟨e1, e2⟩ | ⟨e1, e2, e3⟩ | ⟨e1, e2, e3, e4⟩ <;> rcases hv with ⟨v1, v2, v3⟩ | v1 | ⟨v1, v2⟩ | ⟨v1, v2, v3⟩
  all_goals
    have c1 := fun w => may_any e n w
    have c2 := fun w => of_any e n w
    have c3 := fun w => epoch_any v h0 h1 w
    have c4 := fun w => count_any v h0 h1 w
    have c5 := fun w => of_any (v / 1048577) (v % 1048577) w
  all_goals first
    | (have hm : mayV e n = true := by simp [mayV]; omega
       rw [hm] at c1
       have ho := of_pos.mpr hm)
    | (have hm : mayV e n = false := by simp [mayV]; omega
       rw [hm] at c1
       rw [show ofV e n = 0 by simp [ofV, hm]] at c2)
  all_goals first
    | (have hk : knownV v = true := by simp [knownV, mayV]; omega
       rw [show epochV v = v / 1048577 by simp [epochV, hk]] at c3
       rw [show countV v = v % 1048577 by simp [countV, hk]] at c4
       rw [of_back h0 h1 hk] at c5)
    | (have hk : knownV v = false := by simp [knownV, mayV]; omega
       rw [show epochV v = 0 by simp [epochV, hk]] at c3
       rw [show countV v = 0 by simp [countV, hk]] at c4)
  all_goals go_enter Try.func10, Try.ntmps10
  all_goals (go_wp2_with fail; refine Calls.mono (ver_awake w) ?_; rintro x w1 ⟨rfl, rfl⟩)
  all_goals (go_wp2_with fail; refine Calls.mono (c1 w) ?_; rintro x w1 ⟨rfl, rfl⟩)
  all_goals (go_wp2_with fail; refine Calls.mono (c2 w) ?_; rintro x w1 ⟨rfl, rfl⟩)
  all_goals (go_wp2_with fail; refine Calls.mono (c3 w) ?_; rintro x w1 ⟨rfl, rfl⟩)
  all_goals (go_wp2_with fail; refine Calls.mono (c4 w) ?_; rintro x w1 ⟨rfl, rfl⟩)
  all_goals go_wp2_with fail
  all_goals (try (go_at_call 47; refine Calls.mono (c3 w) ?_; rintro x w1 ⟨rfl, rfl⟩; go_wp2_with fail))
  all_goals (try (go_at_call 48; refine Calls.mono (c4 w) ?_; rintro x w1 ⟨rfl, rfl⟩; go_wp2_with fail))
  all_goals (try (go_at_call 44; refine Calls.mono (c5 w) ?_; rintro x w1 ⟨rfl, rfl⟩; go_wp2))
  all_goals go_ret
  all_goals first
    | exact ⟨rfl, Below.refl _ _⟩
    | (refine ⟨ret_bool ?_, Below.refl _ _⟩; simp; omega)
end Go.Proofs.Ytegnngmeegcndab
