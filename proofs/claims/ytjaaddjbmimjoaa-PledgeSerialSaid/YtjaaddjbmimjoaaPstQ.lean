/-
  PledgeSerial: the waking call.
-/
import Derived.Test.YtjaaddjbmimjoaaPstO
import Derived.Test.YtjaaddjbmimjoaaFltK
namespace Go.Proofs.Ytjaaddjbmimjoaa
open Go.RowKit
set_option linter.unusedVariables false
set_option linter.unusedSimpArgs false

set_option maxHeartbeats 6400000 in
set_option maxRecDepth 100000 in
theorem awake55 (w : World) : Calls Try.prog 45 #[] w fun e w' => e = .returned (.bool true) ∧ Below w.heap.size w w' := by
  have c1 := pof0 w
  unfold POfP at c1
  obtain ⟨Z, hZ⟩ : ∃ Z, zeroL 32 = Z := ⟨_, rfl⟩
  rw [hZ] at c1
  go_enter Try.func45, Try.ntmps45
  go_wp2_with fail
  refine Calls.mono c1 ?_
  rintro e w1 ⟨rfl, hb1⟩
  have hb2 : Below w1.heap.size w1 (w1.alloc (.cells #[.string Z, .slice none 0 0] 99)) := (Below.refl _ _).alloc (Nat.le_refl _) _
  have hal := heap_alloc_self w1 (.cells #[.string Z, .slice none 0 0] 99)
  have HB := Lib.hid (hb1.trans (hb2.mono hb1.size))
  obtain ⟨Q, hQ⟩ : ∃ Q, w1.heap.size = Q := ⟨_, rfl⟩
  have hQN : (w1.alloc (.cells #[.string Z, .slice none 0 0] 99)).heap.size = Q + 1 := by simp [hQ]
  rw [hQ] at hal
  clear c1 hb1 hb2
  go_upto_region 2 with fail
  try rw [hQ]
  generalize w1.alloc (.cells #[.string Z, .slice none 0 0] 99) = w2 at *
  clear hQ
  obtain ⟨N, hN⟩ : ∃ N, w2.heap.size = N := ⟨_, rfl⟩
  have hQlt : Q < N := by omega
  have k0 := cell_atF hal 0 (v := .string Z) rfl
  have k1 := cell_atF hal 1 (v := .slice none 0 0) rfl
  have cz : ∀ w', (N ≤ w'.heap.size ∧ Below N w2 w') → Calls Try.prog 70 #[] w' fun e z => e = .returned (.string Z) ∧ Stays N w' z := fun w' h => by
    refine (zeros_any w').mono ?_
    rintro e z ⟨rfl, rfl⟩
    rw [hZ]
    exact ⟨rfl, stays_refl h.1⟩
  have ck : ∀ w', (N ≤ w'.heap.size ∧ Below N w2 w') → Calls Try.prog 79 #[.agg #[.string Z, .slice none 0 0], .string Z] w' fun e z => e = .returned (.bool true) ∧ Stays N w' z := fun w' h => by
    refine (keeps_self Z w').mono ?_
    rintro e z ⟨rfl, hb⟩
    exact ⟨rfl, stays_of h.1 hb⟩
  clear hZ hal hQN
  go_region_held3 (fun w' => N ≤ w'.heap.size ∧ Below N w2 w' ∧ ∀ b o, b < N → w'.cell? ⟨b, o, none⟩ = w2.cell? ⟨b, o, none⟩) (first | with_reducible exact keeps_next (by assumption) (by assumption) | exact keeps_start hN) (first | (go_at_call 70; (with_reducible refine Calls.mono (cz _ ?hk) ?_); (case hk => exact ksN_two (by assumption)); rintro ev wz ⟨rfl, hzz⟩) | (go_at_call 79; (with_reducible refine Calls.mono (ck _ ?hk) ?_); (case hk => exact ksN_two (by assumption)); rintro ev wz ⟨rfl, hzz⟩))
  all_goals
    have HF := Lib.hid (HB.out.trans ((And.left (And.right (by assumption : N ≤ _ ∧ Below N w2 _ ∧ ∀ b o, b < N → _))).mono (by have := HB.out.size; omega)))
    clear cz ck k0 k1
    go_wp2_with fail
    go_ret
    exact ⟨rfl, HF.out⟩
end Go.Proofs.Ytjaaddjbmimjoaa
