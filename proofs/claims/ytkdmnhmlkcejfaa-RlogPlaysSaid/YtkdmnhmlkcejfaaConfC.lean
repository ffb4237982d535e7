/-
  Configurations: Index, Contains, Mirrors, Chains, Behind, Node, Gate, All.
-/
import Derived.Test.YtkdmnhmlkcejfaaConfB
namespace Go.Proofs.Ytkdmnhmlkcejfaa
open Go.RowKit
set_option linter.unusedVariables false

/-- where a number is first; -1: nowhere -/
def ixF (n : Int) : List Int → Nat → Int
  | [], _ => -1
  | x :: t, j => if x = n then j else ixF n t (j + 1)
theorem ix_at (n : Int) : ∀ (l : List Int) (j k : Nat), k < l.length → n ∉ l.take k → l.getD k 0 = n → ixF n l j = (j + k : Nat)
  | [], _, _, h, _, _ => by simp at h
  | x :: t, j, 0, _, _, h => by simp at h; simp [ixF, h]
  | x :: t, j, k + 1, h, hn, hk => by
    simp at hn
    have hx : ¬ (x = n) := fun e => hn.1 e.symm
    simp only [ixF, hx, if_false]
    have := ix_at n t (j + 1) k (by simpa using h) hn.2 (by simpa using hk)
    rw [this]
    omega
theorem ix_none (n : Int) : ∀ (l : List Int) (j : Nat), n ∉ l → ixF n l j = -1
  | [], _, _ => rfl
  | x :: t, j, h => by
    simp at h
    have hx : ¬ (x = n) := fun e => h.1 e.symm
    simp only [ixF, hx, if_false]
    exact ix_none n t (j + 1) h.2
theorem ix_in (n : Int) : ∀ (l : List Int), n ∈ l → ∃ k, k < l.length ∧ n ∉ l.take k ∧ l.getD k 0 = n ∧ ixF n l 0 = (k : Int)
  | l, h => by
    have key : ∀ (l : List Int), n ∈ l → ∃ k, k < l.length ∧ n ∉ l.take k ∧ l.getD k 0 = n := by
      intro l
      induction l with
      | nil => simp
      | cons x t ih =>
        intro h
        by_cases e : x = n
        · exact ⟨0, by simp, by simp, by simp [e]⟩
        · have ht : n ∈ t := by
            rcases List.mem_cons.1 h with h | h
            · exact absurd h.symm e
            · exact h
          obtain ⟨k, h1, h2, h3⟩ := ih ht
          exact ⟨k + 1, by simpa using h1, by simp; exact ⟨fun h => e h.symm, h2⟩, by simpa using h3⟩
    obtain ⟨k, h1, h2, h3⟩ := key l h
    exact ⟨k, h1, h2, h3, by rw [ix_at n l 0 k h1 h2 h3]; simp⟩
theorem ix_bd (n : Int) (l : List Int) : -1 ≤ ixF n l 0 ∧ ixF n l 0 < l.length ∧ (0 ≤ ixF n l 0 ↔ n ∈ l) := by
  by_cases h : n ∈ l
  · obtain ⟨k, h1, _, _, h4⟩ := ix_in n l h
    rw [h4]
    exact ⟨by omega, by omega, by simp [h]⟩
  · rw [ix_none n l 0 h]
    exact ⟨by omega, by omega, by simp [h]⟩
theorem index_any (v : Value) (l : List Int) (n : Int) (w : World) (hv : SR w v 1 l.length (nCells l)) : Calls Try.prog 88 #[v, .int .i64 n] w fun e w' => e = .returned (.int .i64 (ixF n l 0)) ∧ w = w' := by
  obtain ⟨ad, cap, rfl, hlc, hcm⟩ := hv.form
  unfold maxLen at hcm
  have HV := Lib.hid hv
  clear hv
  obtain ⟨r, hr⟩ : ∃ r, r = ixF n l 0 := ⟨_, rfl⟩
  rw [← hr]
  have HR := Lib.hid hr
  clear hr
  go_enter Try.func88, Try.ntmps88
  go_wp2_with fail
  go_loop [8] (fun i => ∃ k : Nat, k ≤ l.length ∧ i = .int .i64 k ∧ NotIn n (l.take k)) (fun i => l.length - (intOf i).toNat)
  case atStart => exact ⟨0, Nat.zero_le _, rfl, by simp [NotIn]⟩
  case round =>
    obtain ⟨k, hk, rfl, hno⟩ := hrel
    have HN := Lib.hid hno
    clear hno
    by_cases hlt : k < l.length
    · obtain ⟨b, off, rfl, hb, hcell⟩ := HV.out.int (by omega)
      have hc := hcell k hlt
      obtain ⟨x, hx⟩ : ∃ x, x = l.getD k 0 := ⟨_, rfl⟩
      rw [← hx] at hc
      have HX := Lib.hid hx
      clear hcell hx
      by_cases he : n = x
      · subst he
        go_wp2_with fail
        go_ret
        refine ⟨ret_int ?_, rfl⟩
        rw [HR.out, ix_at n l 0 k hlt HN.out HX.out.symm]
        simp
      · go_wp2_with fail
        go_round
        case rel =>
          refine ⟨k + 1, by omega, by go_num, fun h => ?_⟩
          rcases (mem_take_succ l k hlt n).1 h with h | h
          · exact HN.out h
          · exact he (h.trans HX.out.symm)
        case measure => simp [intOf]; omega
    · obtain rfl : k = l.length := by omega
      clear hlt
      go_wp2_with fail
      go_ret
      refine ⟨ret_int ?_, rfl⟩
      have := HN.out
      rw [NotIn, List.take_length] at this
      rw [HR.out, ix_none n l 0 this]
theorem contains_any (v : Value) (l : List Int) (n : Int) (w : World) (hv : SR w v 1 l.length (nCells l)) : Calls Try.prog 85 #[v, .int .i64 n] w fun e w' => e = .returned (.bool (decide (n ∈ l))) ∧ w = w' := by
  obtain ⟨ad, cap, rfl, hlc, hcm⟩ := hv.form
  have ci := index_any _ l n w hv
  obtain ⟨h1, h2, h3⟩ := ix_bd n l
  have hd : decide (n ∈ l) = decide (0 ≤ ixF n l 0) := by rw [decide_eq_decide]; exact h3.symm
  rw [hd]
  clear hv hd h3
  generalize ixF n l 0 = r at *
  go_enter Try.func85, Try.ntmps85
  go_wp2_with fail
  refine Calls.mono ci ?_
  rintro e w1 ⟨rfl, rfl⟩
  go_wp2_with fail
  go_ret
  exact ⟨rfl, rfl⟩
/-- the one behind one in a chain -/
def behindF (n : Int) (C : List Int) : Int := if ixF n C 0 < 0 ∨ ixF n C 0 = (C.length : Int) - 1 then -1 else C.getD (ixF n C 0 + 1).toNat 0
theorem cnode_any (n : Int) (w : World) : Calls Try.prog 84 #[.int .i64 n] w fun v w' => v = .returned (.bool (decide (0 ≤ n ∧ n ≤ 4))) ∧ w = w' := by
  go_enter Try.func84, Try.ntmps84
  go_wp2
  all_goals go_ret
  all_goals refine ⟨ret_bool ?_, rfl⟩
  all_goals (apply Bool.eq_iff_iff.mpr; simp; try omega)
theorem cgate_any (n : Int) (w : World) : Calls Try.prog 67 #[.int .i64 n] w fun v w' => v = .returned (.bool (decide (5 ≤ n ∧ n ≤ 6))) ∧ w = w' := by
  go_enter Try.func67, Try.ntmps67
  go_wp2
  all_goals go_ret
  all_goals refine ⟨ret_bool ?_, rfl⟩
  all_goals (apply Bool.eq_iff_iff.mpr; simp; try omega)
end Go.Proofs.Ytkdmnhmlkcejfaa
