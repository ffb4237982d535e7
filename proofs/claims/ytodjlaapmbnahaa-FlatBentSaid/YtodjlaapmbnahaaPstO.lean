/-
  PledgeSerial: plain memory's step as stepV says it; the waking call.
-/
import Derived.Test.YtodjlaapmbnahaaPstN
import Derived.Test.YtodjlaapmbnahaaFltJ
namespace Go.Proofs.Ytodjlaapmbnahaa
open Go.RowKit
set_option linter.unusedVariables false
set_option linter.unusedSimpArgs false

def RStepP (s : Stp) (p : Nat) (L : List ByteArray) (w : World) (ev : Ending) (w' : World) : Prop :=
  ∃ p' cap' out ok, ev = .returned (.tuple #[.agg #[.slice (some ⟨p', 0, none⟩) 4 cap'], .string out, .bool ok]) ∧ VAt p' cap' (stepV s L) w' ∧ Blks (stepV s L) ∧ out.size ≤ 128 ∧ (p' = p ∨ w.heap.size ≤ p') ∧ Below w.heap.size w w'
theorem rstep (s : Stp) (p cap : Nat) (L : List ByteArray) (w : World) (hV : VAt p cap L w) (hA : (Lit.int .i64 s.A).wf = true) (hLn : (Lit.int .i64 s.L).wf = true) (hD : s.D.size ≤ maxLen) (hB : Blks L) (hn : L.length = 4) :
    Calls Try.prog 18 #[.agg #[.slice (some ⟨p, 0, none⟩) 4 cap], .agg #[.int .i64 s.W, .int .i64 s.A, .int .i64 s.L, .string s.D, .bool s.S]] w (RStepP s p L w) := by
  have hL4 : ((L.length : Nat) : Int) = 4 := by rw [hn]; rfl
  by_cases hm : AskMay s.W s.A s.L s.D 4
  · by_cases h3 : s.W = 3
    · have e : stepV s L = L := by unfold stepV; rw [if_neg (fun h => h.1 h3)]
      unfold RStepP
      rw [e]
      have h := rdo p cap L s.W s.A s.L 0 0 s.D s.S w hV hA hLn hD hB (by omega) (by omega) (by rw [hL4]; exact hm) (by omega) (fun _ => rfl) (fun h => absurd h3 h)
      rw [hn] at h
      refine h.mono ?_
      rintro ev w' ⟨p', cap', h1, h2, h3', h4⟩
      rw [hn] at h1
      exact ⟨p', cap', _, _, h1, h2, hB, by show (outL _ _ _ 0).toArray.size ≤ 128; simp [outL], .inr h3', h4⟩
    · have hin : 0 ≤ s.W ∧ s.W ≤ 2 ∧ Inside s.A (askSz s.W s.L s.D) 4 := hm.elim (fun h => absurd h h3) id
      have h2 := hin.2.2
      unfold Inside at h2
      obtain ⟨q, hq⟩ : ∃ q : Nat, (s.A / 32).toNat = q := ⟨_, rfl⟩
      obtain ⟨m, hz⟩ : ∃ m : Nat, (askSz s.W s.L s.D / 32).toNat = m := ⟨_, rfl⟩
      have hq' : s.A = ((32 * q : Nat) : Int) := by omega
      have hz' : askSz s.W s.L s.D = ((32 * m : Nat) : Int) := by omega
      have hqm : q + m ≤ L.length ∧ m ≤ 4 := by omega
      have hW : s.W = 0 ∨ s.W = 1 ∨ s.W = 2 := by omega
      have hdz : s.W = 1 → s.D.size = 32 * m := by
        intro h
        rw [askSz, if_pos h] at hz'
        omega
      have e : stepV s L = doL s.W q s.D L m := by unfold stepV; rw [if_pos ⟨h3, hm⟩, hq, hz]
      unfold RStepP
      rw [e]
      have h := rdo p cap L s.W s.A s.L q m s.D s.S w hV hA hLn hD hB (by omega) (by omega) (by rw [hL4]; exact hm) (by omega) (fun h => absurd h h3) (fun _ => ⟨hq', hz'⟩)
      rw [hn] at h
      refine h.mono ?_
      rintro ev w' ⟨p', cap', h1, h2', h3', h4⟩
      rw [hn] at h1
      refine ⟨p', cap', _, _, h1, h2', doL_blks hB hdz hW m (Nat.le_refl _), ?_, .inr h3', h4⟩
      show (outL s.W q L m).toArray.size ≤ 128
      rw [List.size_toArray]
      have := outL_len (W := s.W) hB hqm.1 m (Nat.le_refl _)
      omega
  · have e : stepV s L = L := by unfold stepV; rw [if_neg (fun h => hm h.2)]
    unfold RStepP
    rw [e]
    have h := rdo_no p cap L s.W s.A s.L s.D s.S w hA hLn hD (by omega) (by rw [hL4]; exact hm)
    rw [hn] at h
    refine h.mono ?_
    rintro ev w' ⟨h1, h2⟩
    rw [hn] at h1
    exact ⟨p, cap, _, _, h1, hV.below h2, hB, by decide, .inl rfl, h2⟩
end Go.Proofs.Ytodjlaapmbnahaa
