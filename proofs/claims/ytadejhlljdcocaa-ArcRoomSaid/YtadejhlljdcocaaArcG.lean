/-
  An arc: Use of a number that was kept once (OPEN: region 8).
-/
import Derived.Test.YtadejhlljdcocaaArcF
namespace Go.Proofs.Ytadejhlljdcocaa
open Go.RowKit
set_option linter.unusedVariables false
set_option linter.unusedSimpArgs false

set_option maxHeartbeats 16000000 in
set_option maxRecDepth 100000 in
theorem ause_was2 (n : Int) (w : World) (N a : Nat) (R W : Int) (V : Nat → Value) (L : Nat → List Int) (h : ArcAt w N a R W V L) (hR0 : 0 < R) (hR : R ≤ 64) (hW : 0 ≤ W) (hW2 : W ≤ 64) (hl : ∀ i, i < 4 → (L i).length ≤ 99999) (h01 : ((L 0).contains n || (L 1).contains n) = false) (hn : (L 2).contains n = true) :
    Calls Try.prog 31 #[.pointer (some ⟨a, 0, none⟩), .int .i64 n] w fun e w' => e = .returned (outV (sAgain (min R (W + max 1 (((L 3).length / (L 2).length : Nat) : Int))) n 2 L).2) ∧ ∃ V', ArcAt w' N a R (min R (W + max 1 (((L 3).length / (L 2).length : Nat) : Int))) V' (sAgain (min R (W + max 1 (((L 3).length / (L 2).length : Nat) : Int))) n 2 L).1 ∧ ArcKept w w' N a V V' := by
  obtain ⟨d0, d1⟩ := h.rooms
  have ca := ahas n w N a R W V L h
  rw [h01] at ca
  have c2 := ohasA (L 2) n w N a _ _ _ _ (h.ord 2 (by decide))
  rw [hn] at c2
  have m2 := fun q => amany2 (w.drewN q) N a R W V L (h.drewN q)
  have m3 := fun q => amany3 (w.drewN q) N a R W V L (h.drewN q)
  have l2 := hl 2 (by decide)
  have l3 := hl 3 (by decide)
  have hpos : 0 < (L 2).length := by
    rcases hL : L 2 with _ | ⟨x, m⟩
    · rw [hL] at hn; cases hn
    · simp
  have hf := obj_frozenA h.obj 1
  have HH := Lib.hid h
  have HL := Lib.hid hl
  clear h hl hn h01
  generalize (L 2).length = n2 at *
  generalize (L 3).length = n3 at *
  have hR2 : ¬ R = 0 := by omega
  have hp2 : ¬ n2 = 0 := by omega
  obtain ⟨Q, hQ⟩ : ∃ Q : Int, ((n3 / n2 : Nat) : Int) = Q := ⟨_, rfl⟩
  have hQ0 : 0 ≤ Q := by rw [← hQ]; exact Int.natCast_nonneg _
  have hQ1 : Q ≤ 99999 := by rw [← hQ]; have := Nat.div_le_self n3 n2; omega
  have e1 : wrap64 ((n3 : Int) / (n2 : Int)) = Q := by
    rw [show (n3 : Int) / (n2 : Int) = Q by rw [← hQ]; simp]
    unfold wrap64
    omega
  have e2 : IntKind.i64.wrap (W + max 1 Q) = W + max 1 Q := by
    have : max 1 Q ≤ 99999 := by omega
    have : 0 ≤ max 1 Q := by omega
    rw [IntKind.wrap_i64]
    omega
  have e3 : IntKind.i64.wrap ((n3 : Int) / (n2 : Int)) = Q := by
    rw [show ((n3 : Int) / (n2 : Int)) = Q by rw [← hQ]; simp]
    rw [IntKind.wrap_i64]
    omega
  rw [hQ]
  have HE := Lib.hid (And.intro e1 (And.intro e2 e3))
  clear e1 e2 e3 hQ
  go_enter Try.func31, Try.ntmps31
  go_wp2_with fail
  refine Calls.mono ca ?_
  rintro e w1 ⟨rfl, rfl⟩
  go_wp2_with fail
  refine Calls.mono c2 ?_
  rintro e w1 ⟨rfl, rfl⟩
  go_upto_region 8 with fail
  go_cut [57] (fun p wx => p = .pointer (some ⟨a, 0, none⟩) ∧ wx = (w.drewN 1).setCell ⟨a, 1, none⟩ (.int .i64 (min R (W + max 1 Q))))
  case first =>
    go_region_with (first | (go_at_call_of 86 (Value.int .i64 2); refine Calls.mono (m2 _) ?_; rintro e wz ⟨rfl, rfl⟩) | (go_at_call_of 86 (Value.int .i64 3); refine Calls.mono (m3 _) ?_; rintro e wz ⟨rfl, rfl⟩))
    all_goals
      go_wp2_with fail
      go_meet
      exact ⟨rfl, by first | rw [HE.out.1, HE.out.2.1] | rw [HE.out.2.2, HE.out.2.1]⟩
  case rest =>
    obtain ⟨rfl, rfl⟩ := hcut
    have hA := (HH.out.drewN 1).want (min R (W + max 1 Q))
    have cg := aagain2 n _ N a R _ V L hA.1 HL.out
    have HK := Lib.hid ((ArcKept.of_below (a := a) (V := V) (below_drewN' (Below.refl _ _) 1) HH.out.le).trans hA.2)
    clear hA ca c2 m2 m3 d0 d1 hf
    generalize (w.drewN 1).setCell ⟨a, 1, none⟩ (.int .i64 (min R (W + max 1 Q))) = W1 at *
    unfold outV at *
    go_wp2_with fail
    refine Calls.mono cg ?_
    rintro e w2 ⟨rfl, V', h2, k2⟩
    go_wp2_with fail
    go_returns
    exact ⟨rfl, V', h2, HK.out.trans k2⟩
end Go.Proofs.Ytadejhlljdcocaa
