/-
  No block of plain memory begins with 255.
-/
import Derived.Test.YtjaaddjbmimjoaaPstR
import Derived.Test.YtjaaddjbmimjoaaNeedG
namespace Go.Proofs.Ytjaaddjbmimjoaa
open Go.RowKit
set_option linter.unusedVariables false

def NF (x : ByteArray) : Prop := ∃ c : UInt8, x.data.toList[0]? = some c ∧ c ≠ 255
theorem nf_ne {x : ByteArray} (h : NF x) : x ≠ ⟨#[255]⟩ ++ x.extract 1 x.size := by
  intro e
  obtain ⟨c, h1, h2⟩ := h
  rw [e, app_lP] at h1
  exact h2 (Option.some.inj h1).symm
theorem nf_zero : NF (zeroL 32) := ⟨0, rfl, by decide⟩
theorem nf_part {D : ByteArray} {m k : Nat} (h : FirstB D m) (hk : k < m) : NF (D.extract (32 * k) (32 * k + 32)) := by
  obtain ⟨c, h1, h2⟩ := h.2 k hk
  refine ⟨c, ?_, h2⟩
  rw [ext_lP, List.getElem?_take, if_pos (by omega), List.getElem?_drop, Nat.add_zero]
  exact h1
theorem nf_doL {W : Int} {q : Nat} {D : ByteArray} {L : List ByteArray} (hL : ∀ x ∈ L, NF x) : ∀ m, (W ≠ 0 → ∀ k, k < m → NF (partD W D k)) → ∀ x ∈ doL W q D L m, NF x
  | 0, _ => hL
  | m + 1, h => by
    have ih := nf_doL (q := q) hL m (fun hw k hk => h hw k (by omega))
    unfold doL
    split
    · exact ih
    · rename_i hw
      intro x hx
      rcases List.mem_or_eq_of_mem_set hx with q | q
      · exact ih x q
      · rw [q]; exact h hw m (by omega)
theorem nf_step (s : Stp) {L : List ByteArray} (hL : ∀ x ∈ L, NF x) (hw : s.W = 1 → ∃ m, FirstB s.D m) : ∀ x ∈ stepV s L, NF x := by
  unfold stepV
  split
  · rename_i hm
    refine nf_doL hL _ fun h0 k hk => ?_
    unfold partD
    by_cases h1 : s.W = 1
    · rw [if_pos h1]
      obtain ⟨m, hF⟩ := hw h1
      refine nf_part hF ?_
      rw [askSz, if_pos h1, hF.1] at hk
      omega
    · rw [if_neg h1]
      by_cases h2 : s.W = 2
      · rw [if_pos h2]; exact nf_zero
      · have hin := hm.2.elim (fun h => absurd h hm.1) (fun h => h)
        omega
  · exact hL
end Go.Proofs.Ytjaaddjbmimjoaa
