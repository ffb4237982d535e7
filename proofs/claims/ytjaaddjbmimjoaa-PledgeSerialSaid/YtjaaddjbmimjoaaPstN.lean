/-
  pledge: may bytes of a whole volume be there (All), behind a history in which each thing is told ahead of the next one.
-/
import Derived.Test.YtjaaddjbmimjoaaPstM
namespace Go.Proofs.Ytjaaddjbmimjoaa
open Go.RowKit
set_option linter.unusedVariables false
set_option linter.unusedSimpArgs false

/-- the block i may not be there -/
def notB (L : List ByteArray) (s : ByteArray) (i : Nat) : Prop := s.size < 32 * i + 32 ∨ L[i]? ≠ some (s.extract (32 * i) (32 * i + 32))
theorem ksN_two {N : Nat} {w w' : World} {X : Prop} (h : N ≤ w'.heap.size ∧ Below N w w' ∧ X) : N ≤ w'.heap.size ∧ Below N w w' := ⟨h.1, h.2.1⟩
def PAllP (L : List ByteArray) (s : ByteArray) (w : World) (e : Ending) (w' : World) : Prop :=
  ((∃ i : Nat, i < 4 ∧ e = .returned (.int .i64 i) ∧ notB L s i ∧ ∀ j, j < i → ¬ notB L s j) ∨ (e = .returned (.int .i64 (-1)) ∧ ∀ j, j < 4 → ¬ notB L s j)) ∧ Below w.heap.size w w'
theorem meas_4 (j : Nat) (h : j < 4) : 4 - (intOf (.int .i64 ((j : Int) + 1))).toNat < 4 - (intOf (.int .i64 (j : Int))).toNat := by
  show 4 - ((j : Int) + 1).toNat < 4 - ((j : Int)).toNat
  omega
set_option maxHeartbeats 6400000 in
set_option maxRecDepth 100000 in
theorem pall (r : List Stp) (hr : r.length ≤ 20) (s : ByteArray) (v : Value) (w : World) (hE : Elts w Ev.c 10 v (evR r)) (hok : ∀ e ∈ evR r, EvOk e) (hs : s.size ≤ maxLen) :
    Calls Try.prog 46 #[v, .int .i64 4, .string s] w (PAllP (vR r) s w) := by
  unfold PAllP
  have cO := fun (b : Nat) (hb : b < 4) (w' : World) (h : Below w.heap.size w w') => pof (evR r) 4 b v w' (hE.below h) hok (by rw [evr_len]; omega) (over_r r hr b hb)
  unfold POfP at cO
  have hS := fun (b : Nat) (hb : b < 4) => sure_r r b hb
  have HC := Lib.hid (And.intro cO hS)
  unfold maxLen at hs
  clear cO hS hE hok
  go_enter Try.func46, Try.ntmps46
  go_wp2_with fail
  go_loopw [2, 10] (fun sv iv wr => ∃ j : Nat, j ≤ 4 ∧ sv = .string (s.extract (32 * j) s.size) ∧ iv = .int .i64 j ∧ Hid (Below w.heap.size w wr ∧ ∀ i, i < j → ¬ notB (vR r) s i)) (fun _ iv _ => 4 - (intOf iv).toNat)
  case atStart =>
    refine ⟨0, by omega, ?_, rfl, Lib.hid ⟨Below.refl _ _, fun i hi => by omega⟩⟩
    rw [Nat.mul_zero, ByteArray.extract_zero_size]
  case round =>
    obtain ⟨j, hj, rfl, rfl, HR⟩ := hrel
    by_cases hlt : j < 4
    · have hss : (s.extract (32 * j) s.size).size = s.size - 32 * j := by simp
      by_cases hsz : s.size < 32 * j + 32
      · have hlt32 : ((s.extract (32 * j) s.size).size : Int) < 32 := by omega
        have hb : (decide (((s.extract (32 * j) s.size).size : Int) < 32)) = true := decide_eq_true hlt32
        have HF := Lib.hid (show notB (vR r) s j from .inl hsz)
        clear hss hsz
        generalize s.extract (32 * j) s.size = t at *
        go_upto_region 4 with fail
        go_quiet (fail)
        have HB := Lib.hid (below_drewN' HR.out.1 nq)
        go_wp2_with fail
        go_ret
        exact ⟨.inl ⟨j, hlt, rfl, HF.out, HR.out.2⟩, HB.out⟩
      · have hlt32 : ¬ ((s.extract (32 * j) s.size).size : Int) < 32 := by omega
        have hge : (32 : Int) ≤ ((s.extract (32 * j) s.size).size : Int) := by omega
        have hb : (decide (((s.extract (32 * j) s.size).size : Int) < 32)) = false := decide_eq_false hlt32
        obtain ⟨u, hu⟩ : ∃ u, sureU (wrU (evR r) 4 j) = u := ⟨_, rfl⟩
        have hget := HC.out.2 j hlt
        rw [hu] at hget
        obtain ⟨t, ht⟩ : ∃ t, s.extract (32 * j) s.size = t := ⟨_, rfl⟩
        have hts : (t.size : Int) ≤ 9223372036854775807 := by rw [← ht, hss]; omega
        have htx : t.extract 0 32 = s.extract (32 * j) (32 * j + 32) := by
          rw [← ht, ByteArray.extract_extract]
          congr 1
          omega
        have htn : t.extract 32 t.size = s.extract (32 * (j + 1)) s.size := by
          rw [← ht, ByteArray.extract_extract]
          congr 1
          simp
          omega
        obtain ⟨q, hq⟩ : ∃ q, decide (t.extract 0 32 = u) = q := ⟨_, rfl⟩
        have hno : notB (vR r) s j ↔ q = false := by
          rw [← hq, htx]
          unfold notB
          rw [hget]
          constructor
          · rintro (h | h)
            · exact absurd h hsz
            · exact decide_eq_false fun e => h (by rw [e])
          · intro h
            exact .inr fun e => of_decide_eq_false h (Option.some.inj e).symm
        obtain ⟨N, hN⟩ : ∃ N, wr.heap.size = N := ⟨_, rfl⟩
        have hNw : w.heap.size ≤ N := by rw [← hN]; exact HR.out.1.size
        have cOf : ∀ w', (N ≤ w'.heap.size ∧ Below N wr w') → Calls Try.prog 44 #[v, .int .i64 4, .int .i64 j] w' fun e z => e = .returned (.agg #[.string u, .slice none 0 0]) ∧ Stays N w' z := fun w' h => by
          have h1 := HC.out.1 j hlt w' (HR.out.1.trans (h.2.mono (by omega)))
          rw [hu] at h1
          exact h1.mono fun e z hz => ⟨hz.1, stays_of h.1 hz.2⟩
        have cKp : ∀ w', (N ≤ w'.heap.size ∧ Below N wr w') → Calls Try.prog 79 #[.agg #[.string u, .slice none 0 0], .string (t.extract 0 32)] w' fun e z => e = .returned (.bool q) ∧ Stays N w' z := fun w' h => by
          have h1 := pkeeps u (t.extract 0 32) w'
          unfold PKeepsP at h1
          rw [hq] at h1
          exact h1.mono fun e z hz => ⟨hz.1, stays_of h.1 hz.2⟩
        have HQ := Lib.hid (And.intro hno (And.intro htn hNw))
        rw [ht] at hlt32 hge hb ⊢
        clear hss hsz hu hget ht htx htn hq hno hNw
        go_upto_region 4 with fail
        go_region_held3 (fun w' => N ≤ w'.heap.size ∧ Below N wr w' ∧ ∀ b o, b < N → w'.cell? ⟨b, o, none⟩ = wr.cell? ⟨b, o, none⟩) (first | with_reducible exact keeps_next (by assumption) (by assumption) | exact keeps_start hN) (first | (go_at_call 44; (with_reducible refine Calls.mono (cOf _ ?hk) ?_); (case hk => exact ksN_two (by assumption)); rintro ev wz ⟨rfl, hzz⟩) | (go_at_call 79; (with_reducible refine Calls.mono (cKp _ ?hk) ?_); (case hk => exact ksN_two (by assumption)); rintro ev wz ⟨rfl, hzz⟩))
        all_goals
          have HB := Lib.hid (HR.out.1.trans ((And.left (And.right (by assumption : N ≤ _ ∧ Below N wr _ ∧ ∀ b o, b < N → _))).mono HQ.out.2.2))
          clear cOf cKp
          cases q
          · go_wp2_with fail
            go_ret
            exact ⟨.inl ⟨j, hlt, rfl, HQ.out.1.2 (by trivial), HR.out.2⟩, HB.out⟩
          · have hn2 : (32 : Int).toNat = 32 := rfl
            go_wp2_with fail
            go_roundw
            case rel =>
              refine ⟨j + 1, by omega, ?_, by go_num, Lib.hid ⟨HB.out, fun i hi => ?_⟩⟩
              · rw [HQ.out.2.1]
              · by_cases e : i = j
                · subst e
                  intro h
                  exact absurd (HQ.out.1.1 h) (by decide)
                · exact HR.out.2 i (by omega)
            case measure => exact meas_4 j hlt
    · obtain rfl : j = 4 := by omega
      go_wp2_with fail
      go_ret
      exact ⟨.inr ⟨rfl, HR.out.2⟩, HR.out.1⟩
end Go.Proofs.Ytjaaddjbmimjoaa
