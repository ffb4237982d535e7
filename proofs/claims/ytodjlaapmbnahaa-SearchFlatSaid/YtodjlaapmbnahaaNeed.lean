/-
  need: how much is asked for, whether it may be, and what becomes of each block.
-/
import Derived.Test.YtodjlaapmbnahaaHeld
namespace Go.Proofs.Ytodjlaapmbnahaa
open Go.RowKit
set_option linter.unusedVariables false
set_option linter.unusedSimpArgs false

/-- what is asked for -/
def askA (W A L : Int) (D : ByteArray) (S : Bool) : Array Value := #[.int .i64 W, .int .i64 A, .int .i64 L, .string D, .bool S]
def askSz (W L : Int) (D : ByteArray) : Int := if W = 1 then (D.size : Int) else L

theorem nsize (W A L : Int) (D : ByteArray) (S : Bool) (w : World) : Calls Try.prog 36 #[.agg (askA W A L D S)] w fun e w' => e = .returned (.int .i64 (askSz W L D)) ∧ Below w.heap.size w w' := by
  unfold askA askSz
  by_cases h : W = 1
  · subst h
    go_enter Try.func36, Try.ntmps36
    go_wp2_with fail
    go_ret
    exact ⟨by simp, by go_grown⟩
  · have hb : (W == 1) = false := by simpa using h
    rw [if_neg h]
    go_enter Try.func36, Try.ntmps36
    go_wp2_with fail
    go_ret
    exact ⟨rfl, by go_grown⟩

def Inside (at' size blocks : Int) : Prop := at' % 32 = 0 ∧ size % 32 = 0 ∧ 0 ≤ at' ∧ 32 ≤ size ∧ size ≤ 128 ∧ size ≤ min (max blocks 0) 64 * 32 - at'
instance (a s b : Int) : Decidable (Inside a s b) := by unfold Inside; infer_instance

theorem tmod32 (a : Int) : a.tmod 32 = 0 ↔ a % 32 = 0 := by rw [← Int.dvd_iff_tmod_eq_zero, Int.dvd_iff_emod_eq_zero]
theorem nwithin (a s b : Int) (w : World) (ha : (Lit.int .i64 a).wf = true) (hs : (Lit.int .i64 s).wf = true) : Calls Try.prog 37 #[.int .i64 a, .int .i64 s, .int .i64 b] w fun e w' => e = .returned (.bool (decide (Inside a s b))) ∧ w = w' := by
  go_enter Try.func37, Try.ntmps37
  go_wp2_with fail
  all_goals go_ret
  all_goals refine ⟨ret_bool ?_, rfl⟩
  all_goals simp only [tmod32] at *
  all_goals first | (rw [decide_eq_decide]; unfold Inside; omega) | (symm; rw [decide_eq_false_iff_not]; unfold Inside; omega) | (symm; rw [decide_eq_true_iff]; unfold Inside; omega)

/-- it may be asked for -/
def AskMay (W A L : Int) (D : ByteArray) (B : Int) : Prop := W = 3 ∨ 0 ≤ W ∧ W ≤ 2 ∧ Inside A (askSz W L D) B
instance (W A L : Int) (D : ByteArray) (B : Int) : Decidable (AskMay W A L D B) := by unfold AskMay; infer_instance
theorem asksz_wf {W L : Int} {D : ByteArray} (hL : (Lit.int .i64 L).wf = true) (hD : D.size ≤ maxLen) : (Lit.int .i64 (askSz W L D)).wf = true := by
  unfold askSz
  split
  · unfold maxLen at hD
    exact wf_of (by omega)
  · exact hL

theorem nmay (W A L : Int) (D : ByteArray) (S : Bool) (B : Int) (w : World) (hA : (Lit.int .i64 A).wf = true) (hL : (Lit.int .i64 L).wf = true) (hD : D.size ≤ maxLen) :
    Calls Try.prog 32 #[.agg (askA W A L D S), .int .i64 B] w fun e w' => e = .returned (.int .i64 (if AskMay W A L D B then 0 else 1)) ∧ Below w.heap.size w w' := by
  have c1 := fun w => nsize W A L D S w
  have c2 := fun w => nwithin A (askSz W L D) B w hA (asksz_wf hL hD)
  unfold askA at *
  by_cases h3 : W = 3
  · subst h3
    rw [if_pos (.inl rfl)]
    clear c1 c2
    go_enter Try.func32, Try.ntmps32
    go_wp2_with fail
    go_ret
    exact ⟨rfl, by go_grown⟩
  · have hb : (W == 3) = false := by simpa using h3
    by_cases hl : W < 0
    · rw [if_neg (by unfold AskMay; omega)]
      clear c1 c2
      have hd : decide (W < 0) = true := by simpa using hl
      go_enter Try.func32, Try.ntmps32
      go_upto_region 3 with fail
      go_quiet (fail)
      go_wp2_with fail
      go_ret
      exact ⟨rfl, below_drewN' (by go_grown) _⟩
    · have hl' : (decide (W < 0)) = false := by simpa using hl
      by_cases hg : 2 < W
      · rw [if_neg (by unfold AskMay; omega)]
        clear c1 c2
        have hd : decide (2 < W) = true := by simpa using hg
        go_enter Try.func32, Try.ntmps32
        go_upto_region 3 with fail
        go_quiet (fail)
        go_wp2_with fail
        go_ret
        exact ⟨rfl, below_drewN' (by go_grown) _⟩
      · have hd : decide (2 < W) = false := by simpa using hg
        have e : AskMay W A L D B ↔ Inside A (askSz W L D) B := ⟨fun h => h.elim (fun h => absurd h h3) (fun h => h.2.2), fun h => .inr ⟨by omega, by omega, h⟩⟩
        obtain ⟨z, hz⟩ : ∃ z, askSz W L D = z := ⟨_, rfl⟩
        rw [hz] at c1 c2 e
        obtain ⟨q, hq⟩ : ∃ q, decide (Inside A z B) = q := ⟨_, rfl⟩
        have e2 : (if AskMay W A L D B then (0 : Int) else 1) = if q = true then 0 else 1 := by
          rw [← hq]; simp only [e, decide_eq_true_eq]
        rw [hq] at c2
        rw [e2]
        clear e e2 hq hz hA hL hD
        have hb0 : Below w.heap.size w (w.alloc (.cells #[.int .i64 W, .int .i64 A, .int .i64 L, .string D, .bool S] 33)) := (Below.refl _ _).alloc (Nat.le_refl _) _
        have hx := heap_alloc_self w (.cells #[.int .i64 W, .int .i64 A, .int .i64 L, .string D, .bool S] 33)
        have hs : (w.alloc (.cells #[.int .i64 W, .int .i64 A, .int .i64 L, .string D, .bool S] 33)).heap.size = w.heap.size + 1 := by simp
        have HB := Lib.hid hb0
        have HX := Lib.hid hx
        have HS := Lib.hid hs
        clear hb0 hx hs
        cases q
        all_goals
          go_enter Try.func32, Try.ntmps32
          go_upto_region 3 with fail
          generalize w.alloc (.cells #[.int .i64 W, .int .i64 A, .int .i64 L, .string D, .bool S] 33) = w1 at *
          have hx := HX.out
          have k0 : w1.cell? ⟨w.heap.size, 0, none⟩ = some (.int .i64 W) := by simp [World.cell?, hx]
          have k1 : w1.cell? ⟨w.heap.size, 1, none⟩ = some (.int .i64 A) := by simp [World.cell?, hx]
          have k2 : w1.cell? ⟨w.heap.size, 2, none⟩ = some (.int .i64 L) := by simp [World.cell?, hx]
          have k3 : w1.cell? ⟨w.heap.size, 3, none⟩ = some (.string D) := by simp [World.cell?, hx]
          have k4 : w1.cell? ⟨w.heap.size, 4, none⟩ = some (.bool S) := by simp [World.cell?, hx]
          clear hx
          obtain ⟨N, hN⟩ : ∃ N, w1.heap.size = N := ⟨_, rfl⟩
          have HN := Lib.hid hN
          have hlt : w.heap.size < N := by rw [← hN, HS.out]; omega
          clear hN
          have cs : ∀ w', N ≤ w'.heap.size → Calls Try.prog 36 #[.agg #[.int .i64 W, .int .i64 A, .int .i64 L, .string D, .bool S]] w' fun x w'' => x = .returned (.int .i64 z) ∧ Stays N w' w'' := fun w' h => (c1 w').mono fun e w'' ⟨he, hw⟩ => ⟨he, stays_of h hw⟩
          clear c1
          go_region_held3 (fun w' => N ≤ w'.heap.size ∧ Below N w1 w' ∧ ∀ b o, b < N → w'.cell? ⟨b, o, none⟩ = w1.cell? ⟨b, o, none⟩) (first | assumption | exact keeps_start HN.out | exact keeps_next (by assumption) (by assumption)) (first | (go_at_call 36; refine Calls.mono (cs _ (And.left (by assumption))) ?_; rintro e wz ⟨rfl, hz⟩) | (go_at_call 37; refine Calls.mono (c2 _) ?_; rintro e wz ⟨rfl, rfl⟩))
          rename_i hfin
          have FIN := Lib.hid hfin.2.1
          clear hfin
          go_wp2_with fail
          go_ret
          exact ⟨rfl, HB.out.trans (FIN.out.mono (Nat.le_of_lt hlt))⟩
end Go.Proofs.Ytodjlaapmbnahaa
