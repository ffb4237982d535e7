/-
  tarnref35: May.
-/
import Derived.Test.YtodjlaapmbnahaaFltF
namespace Go.Proofs.Ytodjlaapmbnahaa
open Go.RowKit
set_option linter.unusedVariables false
set_option linter.unusedSimpArgs false

set_option maxHeartbeats 3200000 in
set_option maxRecDepth 100000 in
theorem rmay35 (W A Ln : Int) (D : ByteArray) (S : Bool) (n : Nat) (w : World) (hn : n ≤ 64) (hA : (Lit.int .i64 A).wf = true) (hLn : (Lit.int .i64 Ln).wf = true) (hD : D.size ≤ maxLen) :
    Calls Try.prog 25 #[.agg (askA W A Ln D S), .int .i64 (n : Int)] w fun e w' => e = .returned (.bool (decide (AskMay W A Ln D n))) ∧ Below w.heap.size w w' := by
  have hb : Below w.heap.size w (w.alloc (.cells (askA W A Ln D S) 33)) := (Below.refl _ _).alloc (Nat.le_refl _) _
  have HB := Lib.hid hb
  have hzw := asksz_wf (W := W) hLn hD
  unfold askA at *
  obtain ⟨z, hz⟩ : ∃ z, askSz W Ln D = z := ⟨_, rfl⟩
  rw [hz] at hzw
  obtain ⟨Q, hQ⟩ : ∃ Q, A.tdiv 32 = Q := ⟨_, rfl⟩
  obtain ⟨R, hR⟩ : ∃ R, z.tdiv 32 = R := ⟨_, rfl⟩
  obtain ⟨Y, hY⟩ : ∃ Y, wrap64 ((n : Int) - R) = Y := ⟨_, rfl⟩
  have fQ : A < 0 ∨ Q = A / 32 := by
    rcases (by omega : A < 0 ∨ 0 ≤ A) with h | h
    · exact .inl h
    · exact .inr (by rw [← hQ, Int.tdiv_eq_ediv_of_nonneg h])
  have fR : z < 0 ∨ R = z / 32 := by
    rcases (by omega : z < 0 ∨ 0 ≤ z) with h | h
    · exact .inl h
    · exact .inr (by rw [← hR, Int.tdiv_eq_ediv_of_nonneg h])
  have fY : z < 0 ∨ 128 < z ∨ Y = n - R := by
    rcases fR with h | h
    · exact .inl h
    · rcases (by omega : z < 0 ∨ 0 ≤ z) with h0 | h0
      · exact .inl h0
      · rcases (by omega : 128 < z ∨ z ≤ 128) with h1 | h1
        · exact .inr (.inl h1)
        · refine .inr (.inr ?_)
          rw [← hY]; unfold wrap64; omega
  have e : decide (AskMay W A Ln D n) = decide (W = 3 ∨ 0 ≤ W ∧ W < 3 ∧ 0 ≤ A ∧ A % 32 = 0 ∧ 0 < z ∧ z % 32 = 0 ∧ z ≤ 128 ∧ Q ≤ Y) := by
    rw [decide_eq_decide]
    unfold AskMay Inside
    rw [hz]
    omega
  obtain ⟨DD, hDD⟩ : ∃ DD, decide (W = 3 ∨ 0 ≤ W ∧ W < 3 ∧ 0 ≤ A ∧ A % 32 = 0 ∧ 0 < z ∧ z % 32 = 0 ∧ z ≤ 128 ∧ Q ≤ Y) = DD := ⟨_, rfl⟩
  rw [e, hDD]
  have HDD := Lib.hid hDD
  clear hDD
  have HF := Lib.hid (And.intro fQ (And.intro fR (And.intro fY (wf_le hA))))
  clear e hzw hA hLn hb fQ fR fY
  by_cases h1 : W = 1
  · subst h1
    have hz' : (D.size : Int) = z := by rw [← hz, askSz, if_pos rfl]
    have HD := Lib.hid hD
    clear hz hD
    rw [← hz'] at hR
    go_enter Try.func25, Try.ntmps25
    go_wp2_with fail
    all_goals go_ret
    all_goals refine ⟨ret_bool ?_, by go_grown⟩
    all_goals try simp only [tmod32] at *
    all_goals have hfacts := HF.out
    all_goals clear HF HB
    all_goals rw [← HDD.out, Bool.eq_iff_iff]
    all_goals clear HDD
    all_goals try simp only [decide_eq_true_eq, Bool.or_eq_true, beq_iff_eq, Bool.false_eq_true, iff_false, iff_true, false_iff, true_iff]
    all_goals try unfold wrap64 at *
    all_goals omega
  · have hz' : Ln = z := by rw [← hz, askSz, if_neg h1]
    subst hz'
    clear hz
    have hb1 : (W == 1) = false := by simpa using h1
    go_enter Try.func25, Try.ntmps25
    go_wp2_with fail
    all_goals go_ret
    all_goals refine ⟨ret_bool ?_, by go_grown⟩
    all_goals try simp only [tmod32] at *
    all_goals have hfacts := HF.out
    all_goals clear HF HB
    all_goals rw [← HDD.out, Bool.eq_iff_iff]
    all_goals clear HDD
    all_goals try simp only [decide_eq_true_eq, Bool.or_eq_true, beq_iff_eq, Bool.false_eq_true, iff_false, iff_true, false_iff, true_iff]
    all_goals try unfold wrap64 at *
    all_goals omega
end Go.Proofs.Ytodjlaapmbnahaa
