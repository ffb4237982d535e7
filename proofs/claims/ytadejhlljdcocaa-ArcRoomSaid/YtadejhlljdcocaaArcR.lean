/-
  An arc: Use, whatever it holds; it keeps what ArcRoom's law asks.
-/
import Derived.Test.YtadejhlljdcocaaArcG
import Derived.Test.YtadejhlljdcocaaArcH
import Derived.Test.YtadejhlljdcocaaArcQ
namespace Go.Proofs.Ytadejhlljdcocaa
open Go.RowKit
set_option linter.unusedVariables false
set_option linter.unusedSimpArgs false

def AUse (w : World) (N a : Nat) (R : Int) (V : Nat → Value) (n : Int) (e : Ending) (w' : World) : Prop :=
  ∃ (o : Option Int) (W' : Int) (V' : Nat → Value) (L' : Nat → List Int), e = .returned (outV o) ∧ ArcAt w' N a R W' V' L' ∧ AI R W' L' ∧ ArcKept w w' N a V V' ∧ ((L' 0).contains n || (L' 1).contains n) = decide (0 < R)
theorem ause_all (n : Int) (w : World) (N a : Nat) (R W : Int) (V : Nat → Value) (L : Nat → List Int) (h : ArcAt w N a R W V L) (hi : AI R W L) (hR : R ≤ 64) :
    Calls Try.prog 31 #[.pointer (some ⟨a, 0, none⟩), .int .i64 n] w (AUse w N a R V n) := by
  have hw := hi.w0
  have hwR := hi.wR
  have hl := hi.len hR
  by_cases hR0 : R = 0
  · subst hR0
    refine (ause_room n w N a W V L h).mono ?_
    rintro e w' ⟨rfl, rfl⟩
    have h0 : L 0 = [] := List.length_eq_zero_iff.1 (by have := hi.a01; omega)
    have h1 : L 1 = [] := List.length_eq_zero_iff.1 (by have := hi.a01; omega)
    exact ⟨none, W, V, L, rfl, h, hi, ArcKept.refl _ _ _ _, by rw [h0, h1]; rfl⟩
  · have hpos : 0 < R := by omega
    have hd : decide (0 < R) = true := decide_eq_true hpos
    cases hc : ((L 0).contains n || (L 1).contains n)
    · have hc' := hc
      rw [Bool.or_eq_false_iff] at hc'
      obtain ⟨c0, c1⟩ := hc'
      have z0 : (L 0).count n = 0 := List.count_eq_zero.2 (by simpa using c0)
      have z1 : (L 1).count n = 0 := List.count_eq_zero.2 (by simpa using c1)
      have ho := hi.one n
      unfold cnt at ho
      cases hc2 : (L 2).contains n
      · have z2 : (L 2).count n = 0 := List.count_eq_zero.2 (by simpa using hc2)
        cases hc3 : (L 3).contains n
        · have z3 : (L 3).count n = 0 := List.count_eq_zero.2 (by simpa using hc3)
          refine (ause_fresh n w N a R W V L h hpos hR hl ?_).mono ?_
          · intro i hi4
            match i, hi4 with
            | 0, _ => exact c0
            | 1, _ => exact c1
            | 2, _ => exact hc2
            | 3, _ => exact hc3
          · rintro e w' ⟨rfl, V', hA, hK⟩
            exact ⟨_, W, V', _, rfl, hA, fresh_keeps hi hpos (by unfold cnt; omega), hK, by rw [upd_at, hd]; simp⟩
        · have p3 : 0 < (L 3).count n := List.count_pos_iff.2 (by simpa using hc3)
          refine (ause_was3 n w N a R W V L h hpos hR hw (by omega) hl hc hc2 hc3).mono ?_
          rintro e w' ⟨rfl, V', hA, hK⟩
          exact ⟨_, _, V', _, rfl, hA, again3_keeps (hi.want (by omega) (by omega)) hpos (by omega), hK, by rw [hd, show ∀ W', (sAgain W' n 3 L).1 1 = n :: ((sRoom W' (3 == 3) L).1 1).erase n from fun _ => rfl]; simp⟩
      · have p2 : 0 < (L 2).count n := List.count_pos_iff.2 (by simpa using hc2)
        refine (ause_was2 n w N a R W V L h hpos hR hw (by omega) hl hc hc2).mono ?_
        rintro e w' ⟨rfl, V', hA, hK⟩
        exact ⟨_, _, V', _, rfl, hA, again2_keeps (hi.want (by omega) (by omega)) hpos (by omega), hK, by rw [hd, show ∀ W', (sAgain W' n 2 L).1 1 = n :: ((sRoom W' (2 == 3) L).1 1).erase n from fun _ => rfl]; simp⟩
    · refine (ause_has n w N a R W V L h hpos hc (by have := hi.a01; omega) (by have := hi.a01; omega)).mono ?_
      rintro e w' ⟨rfl, V', hA, hK⟩
      have ho := hi.one n
      unfold cnt at ho
      have hs : 0 < (L 0).count n + (L 1).count n := by
        rw [Bool.or_eq_true] at hc
        rcases hc with q | q
        · have := List.count_pos_iff.2 (show n ∈ L 0 by simpa using q); omega
        · have := List.count_pos_iff.2 (show n ∈ L 1 by simpa using q); omega
      exact ⟨none, W, V', _, rfl, hA, has_keeps hi (by omega), hK, by rw [upd_at, hd]; simp⟩
end Go.Proofs.Ytadejhlljdcocaa
