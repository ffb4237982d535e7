/-
  pledge: a history in which each thing is told ahead of the next one, as lists.
-/
import Derived.Test.YtodjlaapmbnahaaPstK
import Derived.Test.YtodjlaapmbnahaaFltA
namespace Go.Proofs.Ytodjlaapmbnahaa
open Go.RowKit
set_option linter.unusedVariables false
set_option linter.unusedSimpArgs false

/-- something asked for, and what was told of it -/
structure Stp where
  W : Int
  A : Int
  L : Int
  D : ByteArray
  S : Bool
  out : ByteArray
def stA (n : Nat) (s : Stp) : Ev := ⟨false, ((n + 1 : Nat) : Int), 0, s.W, s.A, s.L, s.D, s.S, 0, ⟨#[]⟩⟩
def stR (n : Nat) (s : Stp) : Ev := ⟨true, ((n + 1 : Nat) : Int), 0, 0, 0, 0, ⟨#[]⟩, false, 0, s.out⟩
/-- the history (the newest step stands first) -/
def evR : List Stp → List Ev
  | [] => []
  | s :: r => evR r ++ [stA r.length s, stR r.length s]
theorem evr_len : ∀ r, (evR r).length = 2 * r.length
  | [] => rfl
  | s :: r => by simp [evR, evr_len r]; omega
/-- what plain memory holds -/
def stepV (s : Stp) (L : List ByteArray) : List ByteArray := if s.W ≠ 3 ∧ AskMay s.W s.A s.L s.D 4 then doL s.W (s.A / 32).toNat s.D L (askSz s.W s.L s.D / 32).toNat else L
def vR : List Stp → List ByteArray
  | [] => List.replicate 4 (zeroL 32)
  | s :: r => stepV s (vR r)
theorem vr_len : ∀ r, (vR r).length = 4
  | [] => rfl
  | s :: r => by
    unfold vR stepV
    split
    · rw [doL_len, vr_len r]
    · exact vr_len r
theorem told_r : ∀ (r : List Stp) (z : Int), told (evR r) z = if 1 ≤ z ∧ z ≤ r.length then some (2 * (z - 1) + 1).toNat else none
  | [], z => by
    rw [if_neg (by simp; omega)]
    rfl
  | s :: r, z => by
    have ih := told_r r z
    unfold evR
    rw [show evR r ++ [stA r.length s, stR r.length s] = (evR r ++ [stA r.length s]) ++ [stR r.length s] by simp, told_next, told_next, ih]
    have hl : (((s :: r).length : Nat) : Int) = (r.length : Int) + 1 := by simp
    rw [hl]
    by_cases h : 1 ≤ z ∧ z ≤ r.length
    · rw [if_pos h, if_pos (show 1 ≤ z ∧ z ≤ (r.length : Int) + 1 by omega)]
    · rw [if_neg h]
      have e1 : isTold z (stA r.length s) = false := rfl
      by_cases h2 : z = (r.length : Int) + 1
      · have e2 : isTold z (stR r.length s) = true := by simp [isTold, stR, h2]
        rw [if_pos (show 1 ≤ z ∧ z ≤ (r.length : Int) + 1 by omega)]
        simp only [e1, e2, List.length_append, evr_len, List.length_cons, List.length_nil]
        simp
        omega
      · have e2 : isTold z (stR r.length s) = false := by
          simp only [isTold, stR, Bool.true_and]
          exact decide_eq_false fun q => h2 (by rw [← q]; simp)
        rw [if_neg (show ¬ (1 ≤ z ∧ z ≤ (r.length : Int) + 1) by omega)]
        simp [e1, e2]
theorem ids_r : ∀ (r : List Stp) (x : Ev), x ∈ evR r → 1 ≤ x.id ∧ x.id ≤ r.length
  | [], x, h => by simp [evR] at h
  | s :: r, x, h => by
    unfold evR at h
    rcases List.mem_append.1 h with h | h
    · have := ids_r r x h
      simp; omega
    · simp only [List.mem_cons, List.not_mem_nil, or_false] at h
      rcases h with rfl | rfl <;> simp [stA, stR] <;> omega
theorem told_lt (r : List Stp) (x : Ev) (h : x ∈ evR r) : ∃ k, told (evR r) x.id = some k ∧ k < (evR r).length := by
  have hi := ids_r r x h
  rw [told_r, if_pos hi]
  exact ⟨_, rfl, by rw [evr_len]; omega⟩
/-- what was before stays where something is told more -/
theorem usesat_old (r : List Stp) (T : List Ev) (B b : Int) (i : Nat) (hi : i < (evR r).length) : usesAt (evR r ++ T) B b i = usesAt (evR r) B b i := by
  unfold usesAt
  rw [List.getElem?_append_left hi]
  cases hx : (evR r)[i]? with
  | none => rfl
  | some x =>
    obtain ⟨k, hk, hkl⟩ := told_lt r x (List.mem_of_getElem? hx)
    have e : told (evR r ++ T) x.id = some k := by
      unfold told at hk ⊢
      rw [List.findIdx?_append, hk]
      rfl
    simp only [hk, e]
    split
    · rfl
    · unfold useEv
      congr 1
      funext q
      split
      · rename_i p _
        have : ∀ wr d, useS (evR r ++ T) (some k) q wr d = useS (evR r) (some k) q wr d := fun wr d => by
          unfold useS
          simp only [List.getElem?_append_left hkl]
        unfold usePt
        simp only [this]
      · rfl
theorem flatMap_congrR {α β : Type} {l : List α} {f g : α → List β} (h : ∀ x ∈ l, f x = g x) : l.flatMap f = l.flatMap g := by
  induction l with
  | nil => rfl
  | cons a t ih => rw [List.flatMap_cons, List.flatMap_cons, h a (by simp), ih fun x hx => h x (by simp [hx])]
/-- the writing that a step adds -/
def newW (s : Stp) (n : Nat) (b : Nat) : List Us :=
  if s.W ≠ 3 ∧ AskMay s.W s.A s.L s.D 4 ∧ s.W ≠ 0 ∧ (s.A / 32).toNat ≤ b ∧ b < (s.A / 32).toNat + (askSz s.W s.L s.D / 32).toNat then [⟨true, partD s.W s.D (b - (s.A / 32).toNat), ((2 * n : Nat) : Int), ((2 * n + 1 : Nat) : Int)⟩] else []
theorem one_of {f : Nat → List Us} {m k0 : Nat} (h : ∀ k, k < m → k ≠ k0 → f k = []) : (List.range m).flatMap f = if k0 < m then f k0 else [] := by
  induction m with
  | zero => simp
  | succ m ih =>
    rw [List.range_succ, List.flatMap_append, ih fun k hk => h k (by omega)]
    simp only [List.flatMap_cons, List.flatMap_nil, List.append_nil]
    by_cases h1 : k0 < m
    · rw [if_pos h1, if_pos (by omega), h m (by omega) (by omega), List.append_nil]
    · rw [if_neg h1, List.nil_append]
      by_cases h2 : k0 = m
      · subst h2; rw [if_pos (by omega)]
      · rw [if_neg (by omega), h m (by omega) (fun e => h2 e.symm)]
theorem newpart_of (s : Stp) (r : List Stp) (T : List Ev) (o : Nat) (x : Ev) (hx : (evR r ++ T)[o]? = some x) (he : x.err = 0) (b : Nat) (n : Nat) (ho : o = 2 * n + 1) :
    (useEv (evR r ++ T) (some o) b (2 * n) (evParts s.W s.A s.L s.D 4) (evParts s.W s.A s.L s.D 4).length).filter (fun u => u.wr) = newW s n b := by
  unfold newW
  by_cases hm : s.W ≠ 3 ∧ AskMay s.W s.A s.L s.D 4
  · have e : evParts s.W s.A s.L s.D 4 = (List.range (askSz s.W s.L s.D / 32).toNat).map (fun k => ⟨(((s.A / 32).toNat + k : Nat) : Int), !(s.W == 0), partD s.W s.D k⟩) := by unfold evParts; rw [if_pos hm]
    rw [e]
    generalize (askSz s.W s.L s.D / 32).toNat = m
    generalize (s.A / 32).toNat = q
    have hu : ∀ k wr d, useS (evR r ++ T) (some o) k wr d = if wr then (true, d, (o : Int), true) else (false, x.txt.extract (min (32 * k) x.txt.size) (min (min (32 * k) x.txt.size + 32) x.txt.size), (o : Int), true) := fun k wr d => by
      unfold useS
      simp only [hx, he, if_true]
    unfold useEv
    rw [List.length_map, List.length_range]
    rw [show List.flatMap _ (List.range m) = (List.range m).flatMap (fun k => usePt (evR r ++ T) (some o) b (2 * n) k ⟨((q + k : Nat) : Int), !(s.W == 0), partD s.W s.D k⟩) from flatMap_congrR fun k hk => by
      simp only [List.getElem?_map, List.getElem?_range (List.mem_range.1 hk), Option.map_some]]
    by_cases hq : q ≤ b
    · rw [one_of (k0 := b - q) (fun k hk hne => by unfold usePt; rw [if_neg]; show ¬ ((q + k : Nat) : Int) = (b : Int); omega)]
      by_cases hb : b - q < m
      · rw [if_pos hb]
        unfold usePt
        rw [if_pos (show ((q + (b - q) : Nat) : Int) = (b : Int) by omega)]
        simp only [hu]
        by_cases hw : s.W = 0
        · rw [if_neg (show ¬ (s.W ≠ 3 ∧ AskMay s.W s.A s.L s.D 4 ∧ s.W ≠ 0 ∧ q ≤ b ∧ b < q + m) from fun h => h.2.2.1 hw)]
          simp [hw]
        · rw [if_pos (show s.W ≠ 3 ∧ AskMay s.W s.A s.L s.D 4 ∧ s.W ≠ 0 ∧ q ≤ b ∧ b < q + m from ⟨hm.1, hm.2, hw, hq, by omega⟩)]
          have : (s.W == 0) = false := beq_false_of_ne hw
          simp [this, ho]
      · rw [if_neg hb, if_neg (show ¬ (s.W ≠ 3 ∧ AskMay s.W s.A s.L s.D 4 ∧ s.W ≠ 0 ∧ q ≤ b ∧ b < q + m) from fun h => by omega)]
        rfl
    · rw [one_of (k0 := m) (fun k hk hne => by unfold usePt; rw [if_neg]; show ¬ ((q + k : Nat) : Int) = (b : Int); omega), if_neg (by omega), if_neg (show ¬ (s.W ≠ 3 ∧ AskMay s.W s.A s.L s.D 4 ∧ s.W ≠ 0 ∧ q ≤ b ∧ b < q + m) from fun h => by omega)]
      rfl
  · have e : evParts s.W s.A s.L s.D 4 = [] := by unfold evParts; rw [if_neg hm]
    rw [e, if_neg (fun h => hm ⟨h.1, h.2.1⟩)]
    rfl
theorem evr_cons (s : Stp) (r : List Stp) : evR (s :: r) = evR r ++ [stA r.length s, stR r.length s] := rfl
/-- what a step adds to a block's writings -/
theorem wr_step (s : Stp) (r : List Stp) (b : Nat) : wrU (evR (s :: r)) 4 b = wrU (evR r) 4 b ++ newW s r.length b := by
  unfold wrU
  have hlen : (evR (s :: r)).length = (evR r).length + 1 + 1 := by rw [evr_len, evr_len]; simp; omega
  rw [hlen, uses_next, uses_next]
  have h1 : usesN (evR (s :: r)) 4 b (evR r).length = usesN (evR r) 4 b (evR r).length := flatMap_congrR fun i hi => usesat_old r _ 4 b i (List.mem_range.1 hi)
  have h3 : usesAt (evR (s :: r)) 4 b ((evR r).length + 1) = [] := by
    unfold usesAt
    rw [evr_cons, List.getElem?_append_right (by omega)]
    simp [stR]
  have h2 : usesAt (evR (s :: r)) 4 b (evR r).length = useEv (evR (s :: r)) (some (2 * r.length + 1)) b (2 * r.length) (evParts s.W s.A s.L s.D 4) (evParts s.W s.A s.L s.D 4).length := by
    have e : (evR (s :: r))[(evR r).length]? = some (stA r.length s) := by
      rw [evr_cons, List.getElem?_append_right (by omega)]
      simp
    unfold usesAt
    rw [e]
    have ht : told (evR (s :: r)) (stA r.length s).id = some (2 * r.length + 1) := by
      rw [told_r, if_pos (show 1 ≤ (stA r.length s).id ∧ (stA r.length s).id ≤ (((s :: r).length : Nat) : Int) by simp [stA]; omega)]
      simp [stA]
      omega
    simp only [ht]
    rw [evr_len]
    rfl
  rw [h1, h2, h3, List.append_nil, List.filter_append]
  congr 1
  exact newpart_of s r _ (2 * r.length + 1) (stR r.length s) (by
    rw [List.getElem?_append_right (by rw [evr_len]; omega), evr_len]
    simp) rfl b r.length rfl
end Go.Proofs.Ytodjlaapmbnahaa
