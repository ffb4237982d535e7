/-
  VerNext's walk.
-/
import Derived.Test.YtegnngmeegcndabVer
import Derived.Test.YtegnngmeegcndabMask
import Derived.Handy
namespace Go.Proofs.Ytegnngmeegcndab
open Go.RowKit
set_option linter.unusedVariables false

theorem of_in {e n : Int} (h0 : 1 ≤ e) (h1 : e ≤ 1048576) (h2 : 1 ≤ n) (h3 : n ≤ 1048576) : ofV e n = e * 1048577 + n ∧ mayV e n = true ∧ epochV (e * 1048577 + n) = e ∧ countV (e * 1048577 + n) = n ∧ knownV (e * 1048577 + n) = true := by
  have hm : mayV e n = true := by simp [mayV]; omega
  have hd : (e * 1048577 + n) / 1048577 = e := by omega
  have hr : (e * 1048577 + n) % 1048577 = n := by omega
  have hk : knownV (e * 1048577 + n) = true := by unfold knownV; rw [hd, hr]; exact hm
  exact ⟨by simp [ofV, hm], hm, by simp [epochV, hk, hd], by simp [countV, hk, hr], hk⟩
/-- Next, of a version that there is -/
theorem next_more (e n m : Int) (h0 : 1 ≤ e) (h1 : e ≤ 1048576) (h2 : 1 ≤ n) (h3 : n < 1048576) (hm : n < m) (w : World) :
    Calls Try.prog 50 #[.int .u64 (e * 1048577 + n), .int .i64 m] w fun x w' => x = .returned (.tuple #[.int .u64 (e * 1048577 + n + 1), .bool true]) ∧ w = w' := by
  obtain ⟨_, _, o3, o4, o5⟩ := of_in h0 h1 h2 (by omega : n ≤ 1048576)
  have h := next_any (e * 1048577 + n) m (by omega) (by omega) w
  have hmv : moreV (e * 1048577 + n) m = true := by simp [moreV, o4, o5, hm, h3]
  have hn : nextV (e * 1048577 + n) m = e * 1048577 + n + 1 := by
    unfold nextV
    rw [hmv, o3, o4, (of_in h0 h1 (by omega : 1 ≤ n + 1) (by omega)).1]
    simp
    omega
  rwa [hmv, hn] at h
theorem next_last (e n m : Int) (h0 : 1 ≤ e) (h1 : e ≤ 1048576) (h2 : 1 ≤ n) (h3 : n ≤ 1048576) (hm : m ≤ n ∨ 1048576 ≤ n) (w : World) :
    Calls Try.prog 50 #[.int .u64 (e * 1048577 + n), .int .i64 m] w fun x w' => x = .returned (.tuple #[.int .u64 0, .bool false]) ∧ w = w' := by
  obtain ⟨_, _, o3, o4, o5⟩ := of_in h0 h1 h2 h3
  have h := next_any (e * 1048577 + n) m (by omega) (by omega) w
  have hmv : moreV (e * 1048577 + n) m = false := by simp [moreV, o4, o5]; omega
  have hn : nextV (e * 1048577 + n) m = 0 := by simp [nextV, hmv]
  rwa [hmv, hn] at h
set_option maxRecDepth 20000 in
set_option maxHeartbeats 1600000 in
theorem next_law (a b c : Int) (w : World) (h0 : (Lit.int .i64 a).wf = true) (h1 : (Lit.int .i64 b).wf = true) (h2 : (Lit.int .i64 c).wf = true) :
    Calls Try.prog 11 #[.int .i64 a, .int .i64 b, .int .i64 c] w fun v w' => v = .returned (.bool true) ∧ Below w.heap.size w w' := by
  clear h0 h1 h2
  obtain ⟨E0, e0, l0, u0⟩ : ∃ A, a % 1048576 = A ∧ 0 ≤ A ∧ A ≤ 1048575 := ⟨_, rfl, by omega, by omega⟩
  obtain ⟨M, e1, l1, u1⟩ : ∃ A, b % 32 = A ∧ 0 ≤ A ∧ A ≤ 31 := ⟨_, rfl, by omega, by omega⟩
  have m0 : bits .and .i64 a 1048575 = E0 := by rw [mask20, e0]
  have m1 : bits .and .i64 b 31 = M := by rw [mask31, e1]
  clear e0 e1
  obtain ⟨o1, o2, o3, o4, o5⟩ := of_in (e := E0 + 1) (n := 1) (by omega) (by omega) (by omega) (by omega)
  obtain ⟨p1, p2, p3, p4, p5⟩ := of_in (e := E0 + 1) (n := 1048576) (by omega) (by omega) (by omega) (by omega)
  have c1 := fun w => first_any (E0 + 1) M w
  have c2 := fun w => of_any (E0 + 1) 1 w
  rw [o1] at c2
  have c3 := fun w => of_any (E0 + 1) 1048576 w
  rw [p1] at c3
  have c4 := fun w => next_last (E0 + 1) 1048576 c (by omega) (by omega) (by omega) (by omega) (by omega) w
  have c5 : ∀ w, Calls Try.prog 49 #[.int .i64 (-(E0 + 1)), .int .i64 5] w fun x w' => x = .returned (.tuple #[.int .u64 0, .bool false]) ∧ w = w' := fun w => by
    have h := first_any (-(E0 + 1)) 5 w
    have hf : firstB (-(E0 + 1)) 5 = false := by simp [firstB, mayV]; omega
    rwa [hf, show firstV (-(E0 + 1)) 5 = 0 by simp [firstV, hf]] at h
  have c6 : ∀ w, Calls Try.prog 50 #[.int .u64 0, .int .i64 5] w fun x w' => x = .returned (.tuple #[.int .u64 0, .bool false]) ∧ w = w' := fun w => by
    have h := next_any 0 5 (by omega) (by omega) w
    rwa [show moreV 0 5 = false by decide, show nextV 0 5 = 0 by decide] at h
  have hM : M = 0 ∨ 1 ≤ M := by omega
  rcases hM with rfl | hM
  · have hf : firstB (E0 + 1) 0 = false := by simp [firstB]
    rw [hf, show firstV (E0 + 1) 0 = 0 by simp [firstV, hf]] at c1
    clear o1 o2 o3 o4 o5 p1 p2 p3 p4 p5
    go_enter Try.func11, Try.ntmps11
    go_wp2_with fail
    refine Calls.mono (c1 _) ?_
    rintro v w1 ⟨rfl, rfl⟩
    go_wp2_with fail
    refine wp_loop_rounds 1 ?_
    rw [rounds_succ]
    go_wp2_with fail
    refine Calls.mono (c3 _) ?_
    rintro v w1 ⟨rfl, rfl⟩
    go_wp2_with fail
    refine Calls.mono (c4 _) ?_
    rintro v w1 ⟨rfl, rfl⟩
    go_wp2_with fail
    refine Calls.mono (c5 _) ?_
    rintro v w1 ⟨rfl, rfl⟩
    go_wp2_with fail
    refine Calls.mono (c6 _) ?_
    rintro v w1 ⟨rfl, rfl⟩
    go_wp2_with fail
    refine Calls.mono (ver_awake _) ?_
    rintro v w1 ⟨rfl, rfl⟩
    go_wp2
    go_returns
    exact ⟨rfl, Below.refl _ _⟩
  · have hf : firstB (E0 + 1) M = true := by simp [firstB, o2]; omega
    rw [hf, show firstV (E0 + 1) M = (E0 + 1) * 1048577 + 1 by simp [firstV, hf, o1]] at c1
    clear o1 o2 o3 o4 o5 p1 p2 p3 p4 p5
    go_enter Try.func11, Try.ntmps11
    go_wp2_with fail
    refine Calls.mono (c1 _) ?_
    rintro v w1 ⟨rfl, rfl⟩
    go_wp2_with fail
    refine Calls.mono (c2 _) ?_
    rintro v w1 ⟨rfl, rfl⟩
    go_wp2_with fail
    go_loop [9, 10, 11] (fun v is i => ∃ k : Nat, 1 ≤ k ∧ (k : Int) ≤ M + 1 ∧ i = .int .i64 k ∧ is = .bool (decide ((k : Int) ≤ M)) ∧ v = .int .u64 (if (k : Int) ≤ M then (E0 + 1) * 1048577 + k else 0)) (fun _ _ i => 40 - (match i with | .int _ n => n.toNat | _ => 0))
    case atStart => exact ⟨1, by omega, by omega, rfl, by simp; omega, by rw [if_pos (by omega)]; rfl⟩
    case round =>
      obtain ⟨k, k1, kM, rfl, rfl, rfl⟩ := hrel
      have hk : (k : Int) < M ∨ (k : Int) = M ∨ (k : Int) = M + 1 := by omega
      rcases hk with hk | hk | hk
      · have d1 : decide ((k : Int) ≤ M) = true := by simp; omega
        have d2 : (if (k : Int) ≤ M then (E0 + 1) * 1048577 + (k : Int) else 0) = (E0 + 1) * 1048577 + (k : Int) := by rw [if_pos (by omega)]
        have cn := fun w => next_more (E0 + 1) k M (by omega) (by omega) (by omega) (by omega) hk w
        rw [d1, d2]
        go_wp2_with fail
        refine Calls.mono (cn _) ?_
        rintro v w1 ⟨rfl, rfl⟩
        go_wp2_with fail
        refine ⟨⟨k + 1, by omega, by omega, by simp, ?_, ?_⟩, ?_⟩
        · simp; omega
        · rw [if_pos (by omega)]; simp; omega
        · simp; omega
      · obtain rfl : M = (k : Int) := hk.symm
        clear hk
        have d1 : decide ((k : Int) ≤ (k : Int)) = true := by simp
        have d2 : (if (k : Int) ≤ (k : Int) then (E0 + 1) * 1048577 + (k : Int) else 0) = (E0 + 1) * 1048577 + (k : Int) := by rw [if_pos (by omega)]
        have cn := fun w => next_last (E0 + 1) k k (by omega) (by omega) (by omega) (by omega) (by omega) w
        rw [d1, d2]
        go_wp2_with fail
        refine Calls.mono (cn _) ?_
        rintro v w1 ⟨rfl, rfl⟩
        go_wp2_with fail
        refine ⟨⟨k + 1, by omega, by omega, by simp, ?_, ?_⟩, ?_⟩
        · simp; omega
        · rw [if_neg (by omega)]
        · simp; omega
      · obtain rfl : M = (k : Int) - 1 := by omega
        clear hk
        have d1 : decide ((k : Int) ≤ (k : Int) - 1) = false := by simp; omega
        have d2 : (if (k : Int) ≤ (k : Int) - 1 then (E0 + 1) * 1048577 + (k : Int) else 0) = 0 := by rw [if_neg (by omega)]
        rw [d1, d2]
        go_wp2_with fail
        refine Calls.mono (c3 _) ?_
        rintro v w1 ⟨rfl, rfl⟩
        go_wp2_with fail
        refine Calls.mono (c4 _) ?_
        rintro v w1 ⟨rfl, rfl⟩
        go_wp2_with fail
        refine Calls.mono (c5 _) ?_
        rintro v w1 ⟨rfl, rfl⟩
        go_wp2_with fail
        refine Calls.mono (c6 _) ?_
        rintro v w1 ⟨rfl, rfl⟩
        go_wp2_with fail
        refine Calls.mono (ver_awake _) ?_
        rintro v w1 ⟨rfl, rfl⟩
        go_wp2
        go_returns
        exact ⟨rfl, Below.refl _ _⟩
end Go.Proofs.Ytegnngmeegcndab
