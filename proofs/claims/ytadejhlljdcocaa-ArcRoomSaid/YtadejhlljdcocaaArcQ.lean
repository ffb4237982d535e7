/-
  An arc's lists: a number that was kept once, and one that is kept, keep what the law asks (pure part).
-/
import Derived.Test.YtadejhlljdcocaaArcP
namespace Go.Proofs.Ytadejhlljdcocaa
set_option linter.unusedVariables false
set_option linter.unusedSimpArgs false

theorem room_in2 (W : Int) (was : Bool) (L : Nat → List Int) (n : Int) (h : ∀ y, cnt L y ≤ 1) (hn : (L 2).count n = 1) : ((sRoom W was L).1 2).count n = 1 := by
  have h1 := h n
  unfold cnt at h1
  unfold sRoom
  split
  · rcases snoc_or (L 0) with hL | ⟨l, x, hL⟩
    · rw [sMove_nil _ _ _ hL]; exact hn
    · rw [sMove_some _ _ _ hL]
      have hx := h x
      unfold cnt at hx
      rw [hL, count_snoc] at h1
      rw [hL, count_snoc, if_pos rfl] at hx
      have hne : n ≠ x := fun e => by rw [if_pos e] at h1; omega
      dsimp only
      rw [upd_at, count_push _ _ _ (by omega), if_neg hne]; exact hn
  · rcases snoc_or (L 1) with hL | ⟨l, x, hL⟩
    · rw [sMove_nil _ _ _ hL]; exact hn
    · rw [sMove_some _ _ _ hL]
      have hx := h x
      unfold cnt at hx
      rw [hL, count_snoc] at h1
      rw [hL, count_snoc, if_pos rfl] at hx
      have hne : n ≠ x := fun e => by rw [if_pos e] at h1; omega
      dsimp only
      exact hn
theorem again2_keeps {R W : Int} {L : Nat → List Int} {n : Int} (h : AI R W L) (hR : 0 < R) (hn : (L 2).count n = 1) : AI R W (sAgain W n 2 L).1 := by
  have a01 := h.a01
  have a02 := h.a02
  have tot := h.tot
  have hw := h.w0
  have hwR := h.wR
  have ho := h.one
  have hk := room_in2 W false L n ho hn
  obtain ⟨r1, r2⟩ := room_does W false L ho
  have hst : (sAgain W n 2 L).1 = upd (upd (sRoom W false L).1 2 (((sRoom W false L).1 2).erase n)) 1 (n :: ((sRoom W false L).1 1).erase n) := rfl
  rw [hst]
  clear hst
  have hone : ∀ y, cnt (sRoom W false L).1 y ≤ 1 := fun y => by rw [r1]; exact ho y
  have hpos : 0 < (L 2).length := by
    rcases hL : L 2 with _ | ⟨x, m⟩
    · rw [hL] at hn; cases hn
    · simp
  clear h r1
  generalize (sRoom W false L).1 = r at *
  have hnn := hone n
  unfold cnt at hnn
  have hc1 : (r 1).count n = 0 := by omega
  have hm1 : n ∉ r 1 := List.count_eq_zero.1 hc1
  have hmk : n ∈ r 2 := List.count_pos_iff.1 (by omega)
  have l1 : (n :: (r 1).erase n).length = (r 1).length + 1 := by rw [len_push, if_neg hm1]
  have lk : ((r 2).erase n).length + 1 = (r 2).length := by
    rw [List.length_erase_of_mem hmk]
    have := List.length_pos_of_mem hmk
    omega
  refine ⟨hw, hwR, ?_, ?_, ?_, fun y => ?_⟩
  · rw [show (upd (upd r 2 ((r 2).erase n)) 1 (n :: (r 1).erase n)) 0 = r 0 from rfl, show (upd (upd r 2 ((r 2).erase n)) 1 (n :: (r 1).erase n)) 1 = n :: (r 1).erase n from rfl, l1]
    rcases r2 with (⟨e0, e1, e2, e3⟩ | ⟨e0, e1, e2, e3⟩) | ⟨e, e1, e2⟩
    · omega
    · omega
    · subst e; omega
  · rw [show (upd (upd r 2 ((r 2).erase n)) 1 (n :: (r 1).erase n)) 0 = r 0 from rfl, show (upd (upd r 2 ((r 2).erase n)) 1 (n :: (r 1).erase n)) 2 = (r 2).erase n from rfl]
    rcases r2 with (⟨e0, e1, e2, e3⟩ | ⟨e0, e1, e2, e3⟩) | ⟨e, e1, e2⟩
    · omega
    · omega
    · subst e; omega
  · rw [show (upd (upd r 2 ((r 2).erase n)) 1 (n :: (r 1).erase n)) 0 = r 0 from rfl, show (upd (upd r 2 ((r 2).erase n)) 1 (n :: (r 1).erase n)) 1 = n :: (r 1).erase n from rfl, show (upd (upd r 2 ((r 2).erase n)) 1 (n :: (r 1).erase n)) 2 = (r 2).erase n from rfl, show (upd (upd r 2 ((r 2).erase n)) 1 (n :: (r 1).erase n)) 3 = r 3 from rfl, l1]
    rcases r2 with (⟨e0, e1, e2, e3⟩ | ⟨e0, e1, e2, e3⟩) | ⟨e, e1, e2⟩
    · omega
    · omega
    · subst e; omega
  · have hy := hone y
    unfold cnt at hy ⊢
    rw [show (upd (upd r 2 ((r 2).erase n)) 1 (n :: (r 1).erase n)) 0 = r 0 from rfl, show (upd (upd r 2 ((r 2).erase n)) 1 (n :: (r 1).erase n)) 1 = n :: (r 1).erase n from rfl, show (upd (upd r 2 ((r 2).erase n)) 1 (n :: (r 1).erase n)) 2 = (r 2).erase n from rfl, show (upd (upd r 2 ((r 2).erase n)) 1 (n :: (r 1).erase n)) 3 = r 3 from rfl, count_push _ _ _ (by omega)]
    by_cases hyn : y = n
    · subst hyn
      rw [if_pos rfl, List.count_erase_self]
      omega
    · rw [if_neg hyn, List.count_erase_of_ne hyn]
      exact hy
theorem room_in3 (W : Int) (was : Bool) (L : Nat → List Int) (n : Int) (h : ∀ y, cnt L y ≤ 1) (hn : (L 3).count n = 1) : ((sRoom W was L).1 3).count n = 1 := by
  have h1 := h n
  unfold cnt at h1
  unfold sRoom
  split
  · rcases snoc_or (L 0) with hL | ⟨l, x, hL⟩
    · rw [sMove_nil _ _ _ hL]; exact hn
    · rw [sMove_some _ _ _ hL]
      have hx := h x
      unfold cnt at hx
      rw [hL, count_snoc] at h1
      rw [hL, count_snoc, if_pos rfl] at hx
      have hne : n ≠ x := fun e => by rw [if_pos e] at h1; omega
      dsimp only
      exact hn
  · rcases snoc_or (L 1) with hL | ⟨l, x, hL⟩
    · rw [sMove_nil _ _ _ hL]; exact hn
    · rw [sMove_some _ _ _ hL]
      have hx := h x
      unfold cnt at hx
      rw [hL, count_snoc] at h1
      rw [hL, count_snoc, if_pos rfl] at hx
      have hne : n ≠ x := fun e => by rw [if_pos e] at h1; omega
      dsimp only
      rw [upd_at, count_push _ _ _ (by omega), if_neg hne]; exact hn
theorem again3_keeps {R W : Int} {L : Nat → List Int} {n : Int} (h : AI R W L) (hR : 0 < R) (hn : (L 3).count n = 1) : AI R W (sAgain W n 3 L).1 := by
  have a01 := h.a01
  have a02 := h.a02
  have tot := h.tot
  have hw := h.w0
  have hwR := h.wR
  have ho := h.one
  have hk := room_in3 W true L n ho hn
  obtain ⟨r1, r2⟩ := room_does W true L ho
  have hst : (sAgain W n 3 L).1 = upd (upd (sRoom W true L).1 3 (((sRoom W true L).1 3).erase n)) 1 (n :: ((sRoom W true L).1 1).erase n) := rfl
  rw [hst]
  clear hst
  have hone : ∀ y, cnt (sRoom W true L).1 y ≤ 1 := fun y => by rw [r1]; exact ho y
  have hpos : 0 < (L 3).length := by
    rcases hL : L 3 with _ | ⟨x, m⟩
    · rw [hL] at hn; cases hn
    · simp
  clear h r1
  generalize (sRoom W true L).1 = r at *
  have hnn := hone n
  unfold cnt at hnn
  have hc1 : (r 1).count n = 0 := by omega
  have hm1 : n ∉ r 1 := List.count_eq_zero.1 hc1
  have hmk : n ∈ r 3 := List.count_pos_iff.1 (by omega)
  have l1 : (n :: (r 1).erase n).length = (r 1).length + 1 := by rw [len_push, if_neg hm1]
  have lk : ((r 3).erase n).length + 1 = (r 3).length := by
    rw [List.length_erase_of_mem hmk]
    have := List.length_pos_of_mem hmk
    omega
  refine ⟨hw, hwR, ?_, ?_, ?_, fun y => ?_⟩
  · rw [show (upd (upd r 3 ((r 3).erase n)) 1 (n :: (r 1).erase n)) 0 = r 0 from rfl, show (upd (upd r 3 ((r 3).erase n)) 1 (n :: (r 1).erase n)) 1 = n :: (r 1).erase n from rfl, l1]
    rcases r2 with (⟨e0, e1, e2, e3⟩ | ⟨e0, e1, e2, e3⟩) | ⟨e, e1, e2⟩
    · omega
    · omega
    · subst e
      rcases e2 with q | q | q
      · omega
      · omega
      · exact absurd q.2 (by decide)
  · rw [show (upd (upd r 3 ((r 3).erase n)) 1 (n :: (r 1).erase n)) 0 = r 0 from rfl, show (upd (upd r 3 ((r 3).erase n)) 1 (n :: (r 1).erase n)) 2 = r 2 from rfl]
    rcases r2 with (⟨e0, e1, e2, e3⟩ | ⟨e0, e1, e2, e3⟩) | ⟨e, e1, e2⟩
    · omega
    · omega
    · subst e; omega
  · rw [show (upd (upd r 3 ((r 3).erase n)) 1 (n :: (r 1).erase n)) 0 = r 0 from rfl, show (upd (upd r 3 ((r 3).erase n)) 1 (n :: (r 1).erase n)) 1 = n :: (r 1).erase n from rfl, show (upd (upd r 3 ((r 3).erase n)) 1 (n :: (r 1).erase n)) 2 = r 2 from rfl, show (upd (upd r 3 ((r 3).erase n)) 1 (n :: (r 1).erase n)) 3 = (r 3).erase n from rfl, l1]
    rcases r2 with (⟨e0, e1, e2, e3⟩ | ⟨e0, e1, e2, e3⟩) | ⟨e, e1, e2⟩
    · omega
    · omega
    · subst e; omega
  · have hy := hone y
    unfold cnt at hy ⊢
    rw [show (upd (upd r 3 ((r 3).erase n)) 1 (n :: (r 1).erase n)) 0 = r 0 from rfl, show (upd (upd r 3 ((r 3).erase n)) 1 (n :: (r 1).erase n)) 1 = n :: (r 1).erase n from rfl, show (upd (upd r 3 ((r 3).erase n)) 1 (n :: (r 1).erase n)) 2 = r 2 from rfl, show (upd (upd r 3 ((r 3).erase n)) 1 (n :: (r 1).erase n)) 3 = (r 3).erase n from rfl, count_push _ _ _ (by omega)]
    by_cases hyn : y = n
    · subst hyn
      rw [if_pos rfl, List.count_erase_self]
      omega
    · rw [if_neg hyn, List.count_erase_of_ne hyn]
      exact hy
theorem has_keeps {R W : Int} {L : Nat → List Int} {n : Int} (h : AI R W L) (hn : (L 0).count n + (L 1).count n = 1) : AI R W (upd (upd L 0 ((L 0).erase n)) 1 (n :: (L 1).erase n)) := by
  have a01 := h.a01
  have a02 := h.a02
  have tot := h.tot
  have hnn := h.one n
  unfold cnt at hnn
  have key : ((L 0).erase n).length + (n :: (L 1).erase n).length = (L 0).length + (L 1).length ∧ ((L 0).erase n).length ≤ (L 0).length := by
    refine ⟨?_, List.length_erase_le⟩
    rw [len_push]
    by_cases h1 : n ∈ L 1
    · have hc := List.count_pos_iff.2 h1
      have h0 : n ∉ L 0 := List.count_eq_zero.1 (by omega)
      rw [if_pos h1, List.erase_of_not_mem h0]
    · have hc := List.count_eq_zero.2 h1
      have h0 : n ∈ L 0 := List.count_pos_iff.1 (by omega)
      rw [if_neg h1, List.length_erase_of_mem h0]
      have := List.length_pos_of_mem h0
      omega
  refine ⟨h.w0, h.wR, ?_, ?_, ?_, fun y => ?_⟩
  · rw [show upd (upd L 0 ((L 0).erase n)) 1 (n :: (L 1).erase n) 0 = (L 0).erase n from rfl, show upd (upd L 0 ((L 0).erase n)) 1 (n :: (L 1).erase n) 1 = n :: (L 1).erase n from rfl]; omega
  · rw [show upd (upd L 0 ((L 0).erase n)) 1 (n :: (L 1).erase n) 0 = (L 0).erase n from rfl, show upd (upd L 0 ((L 0).erase n)) 1 (n :: (L 1).erase n) 2 = L 2 from rfl]; omega
  · rw [show upd (upd L 0 ((L 0).erase n)) 1 (n :: (L 1).erase n) 0 = (L 0).erase n from rfl, show upd (upd L 0 ((L 0).erase n)) 1 (n :: (L 1).erase n) 1 = n :: (L 1).erase n from rfl, show upd (upd L 0 ((L 0).erase n)) 1 (n :: (L 1).erase n) 2 = L 2 from rfl, show upd (upd L 0 ((L 0).erase n)) 1 (n :: (L 1).erase n) 3 = L 3 from rfl]; omega
  · have hy := h.one y
    unfold cnt at hy ⊢
    rw [show upd (upd L 0 ((L 0).erase n)) 1 (n :: (L 1).erase n) 0 = (L 0).erase n from rfl, show upd (upd L 0 ((L 0).erase n)) 1 (n :: (L 1).erase n) 1 = n :: (L 1).erase n from rfl, show upd (upd L 0 ((L 0).erase n)) 1 (n :: (L 1).erase n) 2 = L 2 from rfl, show upd (upd L 0 ((L 0).erase n)) 1 (n :: (L 1).erase n) 3 = L 3 from rfl, count_push _ _ _ (by omega)]
    by_cases hyn : y = n
    · subst hyn
      rw [if_pos rfl, List.count_erase_self]
      omega
    · rw [if_neg hyn, List.count_erase_of_ne hyn]
      exact hy
theorem erase_le (l : List Int) (n : Int) : (l.erase n).length ≤ l.length ∧ ∀ y, (l.erase n).count y ≤ l.count y := by
  refine ⟨List.length_erase_le, fun y => ?_⟩
  by_cases hy : y = n
  · subst hy; rw [List.count_erase_self]; omega
  · rw [List.count_erase_of_ne hy]; omega
/-- Drop keeps what the law asks, and the number is kept no more -/
theorem drop_keeps {R W : Int} {L : Nat → List Int} (n : Int) (h : AI R W L) : AI R W (if (L 0).contains n = true then upd L 0 ((L 0).erase n) else upd L 1 ((L 1).erase n)) ∧ (((if (L 0).contains n = true then upd L 0 ((L 0).erase n) else upd L 1 ((L 1).erase n)) 0).contains n || ((if (L 0).contains n = true then upd L 0 ((L 0).erase n) else upd L 1 ((L 1).erase n)) 1).contains n) = false := by
  have a01 := h.a01
  have a02 := h.a02
  have tot := h.tot
  have hn := h.one n
  unfold cnt at hn
  have z : ∀ l : List Int, l.count n = 0 → l.contains n = false := fun l q => by
    have := List.count_eq_zero.1 q
    simpa using this
  by_cases hb : (L 0).contains n = true
  · rw [if_pos hb]
    have hm : n ∈ L 0 := by simpa using hb
    have hc := List.count_pos_iff.2 hm
    obtain ⟨e1, e2⟩ := erase_le (L 0) n
    refine ⟨⟨h.w0, h.wR, ?_, ?_, ?_, fun y => ?_⟩, ?_⟩
    · rw [show upd L 0 ((L 0).erase n) 0 = (L 0).erase n from rfl, show upd L 0 ((L 0).erase n) 1 = L 1 from rfl]; omega
    · rw [show upd L 0 ((L 0).erase n) 0 = (L 0).erase n from rfl, show upd L 0 ((L 0).erase n) 2 = L 2 from rfl]; omega
    · rw [show upd L 0 ((L 0).erase n) 0 = (L 0).erase n from rfl, show upd L 0 ((L 0).erase n) 1 = L 1 from rfl, show upd L 0 ((L 0).erase n) 2 = L 2 from rfl, show upd L 0 ((L 0).erase n) 3 = L 3 from rfl]; omega
    · have hy := h.one y
      have := e2 y
      unfold cnt at hy ⊢
      rw [show upd L 0 ((L 0).erase n) 0 = (L 0).erase n from rfl, show upd L 0 ((L 0).erase n) 1 = L 1 from rfl, show upd L 0 ((L 0).erase n) 2 = L 2 from rfl, show upd L 0 ((L 0).erase n) 3 = L 3 from rfl]
      omega
    · rw [show upd L 0 ((L 0).erase n) 0 = (L 0).erase n from rfl, show upd L 0 ((L 0).erase n) 1 = L 1 from rfl, z ((L 0).erase n) (by rw [List.count_erase_self]; omega), z (L 1) (by omega)]
      rfl
  · rw [if_neg hb]
    have hm : n ∉ L 0 := by simpa using hb
    have hc := List.count_eq_zero.2 hm
    obtain ⟨e1, e2⟩ := erase_le (L 1) n
    refine ⟨⟨h.w0, h.wR, ?_, ?_, ?_, fun y => ?_⟩, ?_⟩
    · rw [show upd L 1 ((L 1).erase n) 0 = L 0 from rfl, show upd L 1 ((L 1).erase n) 1 = (L 1).erase n from rfl]; omega
    · rw [show upd L 1 ((L 1).erase n) 0 = L 0 from rfl, show upd L 1 ((L 1).erase n) 2 = L 2 from rfl]; omega
    · rw [show upd L 1 ((L 1).erase n) 0 = L 0 from rfl, show upd L 1 ((L 1).erase n) 1 = (L 1).erase n from rfl, show upd L 1 ((L 1).erase n) 2 = L 2 from rfl, show upd L 1 ((L 1).erase n) 3 = L 3 from rfl]; omega
    · have hy := h.one y
      have := e2 y
      unfold cnt at hy ⊢
      rw [show upd L 1 ((L 1).erase n) 0 = L 0 from rfl, show upd L 1 ((L 1).erase n) 1 = (L 1).erase n from rfl, show upd L 1 ((L 1).erase n) 2 = L 2 from rfl, show upd L 1 ((L 1).erase n) 3 = L 3 from rfl]
      omega
    · rw [show upd L 1 ((L 1).erase n) 0 = L 0 from rfl, show upd L 1 ((L 1).erase n) 1 = (L 1).erase n from rfl, z (L 0) hc, z ((L 1).erase n) (by rw [List.count_erase_self]; omega)]
      rfl
end Go.Proofs.Ytadejhlljdcocaa
