/-
  pledge: what a block may hold behind a history in which each thing is told ahead of the next one.
-/
import Derived.Test.YtodjlaapmbnahaaPstL
namespace Go.Proofs.Ytodjlaapmbnahaa
open Go.RowKit
set_option linter.unusedVariables false
set_option linter.unusedSimpArgs false

theorem doL_get (W : Int) (D : ByteArray) (L : List ByteArray) (q : Nat) (hW : W ≠ 0) : ∀ m, q + m ≤ L.length → ∀ b, (doL W q D L m)[b]? = if q ≤ b ∧ b < q + m then some (partD W D (b - q)) else L[b]?
  | 0, _, b => by rw [if_neg (by omega)]; rfl
  | m + 1, h, b => by
    have ih := doL_get W D L q hW m (by omega) b
    rw [doL, if_neg hW, List.getElem?_set]
    by_cases hb : q + m = b
    · subst hb
      rw [if_pos rfl, if_pos (by rw [doL_len]; omega), if_pos (by omega)]
      simp
    · rw [if_neg hb, ih]
      by_cases h2 : q ≤ b ∧ b < q + m
      · rw [if_pos h2, if_pos (by omega)]
      · rw [if_neg h2, if_neg (by omega)]
theorem sure_app (W : List Us) (u : Us) : sureU (W ++ [u]) = u.val := by
  unfold sureU
  rw [List.map_append]
  simp
theorem step_get (s : Stp) (r : List Stp) (b : Nat) (hb : b < 4) : (vR (s :: r))[b]? = match newW s r.length b with | [] => (vR r)[b]? | u :: _ => some u.val := by
  show (stepV s (vR r))[b]? = _
  unfold stepV newW
  by_cases hm : s.W ≠ 3 ∧ AskMay s.W s.A s.L s.D 4
  · rw [if_pos hm]
    by_cases hw : s.W = 0
    · rw [if_neg (fun h => h.2.2.1 hw), hw, doL_read]
    · have hin : Inside s.A (askSz s.W s.L s.D) 4 := hm.2.elim (fun h => absurd h hm.1) (fun h => h.2.2)
      unfold Inside at hin
      rw [doL_get _ _ _ _ hw _ (by rw [vr_len]; omega)]
      by_cases h2 : (s.A / 32).toNat ≤ b ∧ b < (s.A / 32).toNat + (askSz s.W s.L s.D / 32).toNat
      · rw [if_pos h2, if_pos ⟨hm.1, hm.2, hw, h2.1, h2.2⟩]
      · rw [if_neg h2, if_neg (fun h => h2 ⟨h.2.2.2.1, h.2.2.2.2⟩)]
  · rw [if_neg hm, if_neg (fun h => hm ⟨h.1, h.2.1⟩)]
theorem new_cases (s : Stp) (n b : Nat) : newW s n b = [] ∨ ∃ v, newW s n b = [⟨true, v, ((2 * n : Nat) : Int), ((2 * n + 1 : Nat) : Int)⟩] := by
  unfold newW
  split
  · exact .inr ⟨_, rfl⟩
  · exact .inl rfl
theorem inv_r (b : Nat) (hb : b < 4) : ∀ r : List Stp, (∀ u ∈ wrU (evR r) 4 b, 0 ≤ u.from_ ∧ 0 ≤ u.til ∧ u.from_ < u.til ∧ u.til < 2 * (r.length : Int) ∧ (u.val = sureU (wrU (evR r) 4 b) ∨ ∃ x ∈ wrU (evR r) 4 b, u.til < x.from_)) ∧ (vR r)[b]? = some (sureU (wrU (evR r) 4 b))
  | [] => by
    have e : wrU (evR []) 4 b = [] := rfl
    rw [e]
    refine ⟨fun u hu => (by simp at hu), ?_⟩
    show (List.replicate 4 (zeroL 32))[b]? = _
    rw [List.getElem?_replicate, if_pos hb]
    rfl
  | s :: r => by
    obtain ⟨h1, h2⟩ := inv_r b hb r
    rw [wr_step, step_get s r b hb]
    have hl : (((s :: r).length : Nat) : Int) = (r.length : Int) + 1 := by simp
    rw [hl]
    rcases new_cases s r.length b with e | ⟨v, e⟩
    · rw [e, List.append_nil]
      refine ⟨fun u hu => ?_, h2⟩
      obtain ⟨a1, a2, a3, a4, a5⟩ := h1 u hu
      exact ⟨a1, a2, a3, by omega, a5⟩
    · rw [e, sure_app]
      refine ⟨fun u hu => ?_, rfl⟩
      rcases List.mem_append.1 hu with q | q
      · obtain ⟨a1, a2, a3, a4, a5⟩ := h1 u q
        refine ⟨a1, a2, a3, by omega, .inr ⟨_, List.mem_append.2 (.inr (List.mem_singleton.2 rfl)), ?_⟩⟩
        show u.til < ((2 * r.length : Nat) : Int)
        omega
      · rw [List.mem_singleton.1 q]
        refine ⟨by show (0 : Int) ≤ ((2 * r.length : Nat) : Int); omega, by show (0 : Int) ≤ ((2 * r.length + 1 : Nat) : Int); omega, by show ((2 * r.length : Nat) : Int) < ((2 * r.length + 1 : Nat) : Int); omega, by show ((2 * r.length + 1 : Nat) : Int) < _; omega, .inl rfl⟩
theorem wf_small {x : Int} (h0 : 0 ≤ x) (h1 : x < 1073741824) : (Lit.int .i64 x).wf = true := wf_of (by omega)
theorem over_r (r : List Stp) (hr : r.length ≤ 20) (b : Nat) (hb : b < 4) : Over (wrU (evR r) 4 b) := by
  obtain ⟨h1, -⟩ := inv_r b hb r
  refine ⟨fun u hu => ?_, fun u hu => ?_⟩
  · obtain ⟨a1, a2, a3, a4, a5⟩ := h1 u hu
    exact ⟨by omega, wf_small a2 (by omega), wf_small a1 (by omega)⟩
  · obtain ⟨a1, a2, a3, a4, a5⟩ := h1 u hu
    rcases a5 with q | ⟨x, hx, q⟩
    · exact .inr q
    · exact .inl (List.any_eq_true.2 ⟨x.from_, List.mem_map.2 ⟨x, hx, rfl⟩, decide_eq_true q⟩)
theorem sure_r (r : List Stp) (b : Nat) (hb : b < 4) : (vR r)[b]? = some (sureU (wrU (evR r) 4 b)) := (inv_r b hb r).2
end Go.Proofs.Ytodjlaapmbnahaa
