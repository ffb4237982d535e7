/-
  An arc's lists: what its law asks of them (pure part): no number stands twice, the sums.
-/
import Derived.Test.YtadejhlljdcocaaArcE
namespace Go.Proofs.Ytadejhlljdcocaa
set_option linter.unusedVariables false
set_option linter.unusedSimpArgs false

/-- how often a number stands in the four lists -/
def cnt (L : Nat → List Int) (y : Int) : Nat := (L 0).count y + (L 1).count y + (L 2).count y + (L 3).count y
structure AI (R W : Int) (L : Nat → List Int) : Prop where
  w0 : 0 ≤ W
  wR : W ≤ R
  a01 : ((L 0).length : Int) + (L 1).length ≤ R
  a02 : ((L 0).length : Int) + (L 2).length ≤ R
  tot : ((L 0).length : Int) + (L 1).length + (L 2).length + (L 3).length ≤ 2 * R
  one : ∀ y, cnt L y ≤ 1
theorem AI.len {R W : Int} {L : Nat → List Int} (h : AI R W L) (hR : R ≤ 64) : ∀ i, i < 4 → (L i).length ≤ 99999 := by
  intro i hi
  have h1 := h.a01
  have h2 := h.a02
  have h3 := h.tot
  match i, hi with
  | 0, _ => omega
  | 1, _ => omega
  | 2, _ => omega
  | 3, _ => omega
theorem AI.want {R W W' : Int} {L : Nat → List Int} (h : AI R W L) (h0 : 0 ≤ W') (hR : W' ≤ R) : AI R W' L := ⟨h0, hR, h.a01, h.a02, h.tot, h.one⟩
theorem count_push (l : List Int) (n y : Int) (h : l.count n ≤ 1) : (n :: l.erase n).count y = if y = n then 1 else l.count y := by
  by_cases hy : y = n
  · subst hy
    rw [if_pos rfl, List.count_cons_self, List.count_erase_self]
    omega
  · rw [if_neg hy, List.count_cons_of_ne (Ne.symm hy), List.count_erase_of_ne hy]
theorem len_push (l : List Int) (n : Int) : (n :: l.erase n).length = if n ∈ l then l.length else l.length + 1 := by
  by_cases h : n ∈ l
  · rw [if_pos h, List.length_cons, List.length_erase_of_mem h]
    have := List.length_pos_of_mem h
    omega
  · rw [if_neg h, List.length_cons, List.erase_of_not_mem h]
theorem count_snoc (l : List Int) (x y : Int) : (l ++ [x]).count y = l.count y + if y = x then 1 else 0 := by
  rw [List.count_append]
  congr 1
  by_cases h : y = x
  · subst h; simp
  · rw [if_neg h, List.count_eq_zero]
    simpa using h
/-- the last of list 0 is the first of list 2; or the last of list 1 the first of list 3: nothing is lost, nothing comes -/
theorem move02 (L : Nat → List Int) (h : ∀ y, cnt L y ≤ 1) {l : List Int} {x : Int} (hL : L 0 = l ++ [x]) (y : Int) : cnt (upd (upd L 0 l) 2 (x :: (L 2).erase x)) y = cnt L y ∧ (x :: (L 2).erase x).length = (L 2).length + 1 := by
  have hx := h x
  unfold cnt at hx
  rw [hL, count_snoc, if_pos rfl] at hx
  have h2 : (L 2).count x = 0 := by omega
  have hm : x ∉ L 2 := List.count_eq_zero.1 h2
  refine ⟨?_, by rw [len_push, if_neg hm]⟩
  unfold cnt
  rw [show upd (upd L 0 l) 2 (x :: (L 2).erase x) 0 = l from rfl, show upd (upd L 0 l) 2 (x :: (L 2).erase x) 1 = L 1 from rfl, show upd (upd L 0 l) 2 (x :: (L 2).erase x) 2 = x :: (L 2).erase x from rfl, show upd (upd L 0 l) 2 (x :: (L 2).erase x) 3 = L 3 from rfl]
  rw [hL, count_snoc, count_push _ _ _ (by omega)]
  split
  · subst_vars; omega
  · omega
theorem move13 (L : Nat → List Int) (h : ∀ y, cnt L y ≤ 1) {l : List Int} {x : Int} (hL : L 1 = l ++ [x]) (y : Int) : cnt (upd (upd L 1 l) 3 (x :: (L 3).erase x)) y = cnt L y ∧ (x :: (L 3).erase x).length = (L 3).length + 1 := by
  have hx := h x
  unfold cnt at hx
  rw [hL, count_snoc, if_pos rfl] at hx
  have h2 : (L 3).count x = 0 := by omega
  have hm : x ∉ L 3 := List.count_eq_zero.1 h2
  refine ⟨?_, by rw [len_push, if_neg hm]⟩
  unfold cnt
  rw [show upd (upd L 1 l) 3 (x :: (L 3).erase x) 0 = L 0 from rfl, show upd (upd L 1 l) 3 (x :: (L 3).erase x) 1 = l from rfl, show upd (upd L 1 l) 3 (x :: (L 3).erase x) 2 = L 2 from rfl, show upd (upd L 1 l) 3 (x :: (L 3).erase x) 3 = x :: (L 3).erase x from rfl]
  rw [hL, count_snoc, count_push _ _ _ (by omega)]
  split
  · subst_vars; omega
  · omega
/-- what makeRoom does: one goes from the lists that are kept, where there is one to go; else the first list holds no more than is wanted, and the second none -/
theorem room_does (W : Int) (was : Bool) (L : Nat → List Int) (h : ∀ y, cnt L y ≤ 1) :
    (∀ y, cnt (sRoom W was L).1 y = cnt L y) ∧
    (((((sRoom W was L).1 0).length + 1 = (L 0).length ∧ ((sRoom W was L).1 1).length = (L 1).length ∧ ((sRoom W was L).1 2).length = (L 2).length + 1 ∧ ((sRoom W was L).1 3).length = (L 3).length) ∨
     (((sRoom W was L).1 0).length = (L 0).length ∧ ((sRoom W was L).1 1).length + 1 = (L 1).length ∧ ((sRoom W was L).1 2).length = (L 2).length ∧ ((sRoom W was L).1 3).length = (L 3).length + 1)) ∨
     ((sRoom W was L).1 = L ∧ (L 1).length = 0 ∧ ((L 0).length = 0 ∨ ((L 0).length : Int) < W ∨ ((L 0).length : Int) = W ∧ was = false))) := by
  unfold sRoom
  split
  · next hc =>
    rcases snoc_or (L 0) with hL | ⟨l, x, hL⟩
    · rw [hL] at hc; simp at hc
    · rw [sMove_some _ _ _ hL]
      refine ⟨fun y => (move02 L h hL y).1, .inl (.inl ⟨?_, rfl, (move02 L h hL 0).2, rfl⟩)⟩
      rw [hL]; simp [upd]
  · next hc =>
    rcases snoc_or (L 1) with hL | ⟨l, x, hL⟩
    · rw [sMove_nil _ _ _ hL]
      refine ⟨fun y => rfl, .inr ⟨rfl, by rw [hL]; rfl, ?_⟩⟩
      by_cases hp : 0 < (L 0).length
      · by_cases h3 : W < (L 0).length
        · exact absurd ⟨hp, .inl h3⟩ hc
        · by_cases h4 : ((L 0).length : Int) = W
          · exact .inr (.inr ⟨h4, by
              cases was
              · rfl
              · exact absurd ⟨hp, .inr ⟨h4, rfl⟩⟩ hc⟩)
          · exact .inr (.inl (by omega))
      · exact .inl (by omega)
    · rw [sMove_some _ _ _ hL]
      refine ⟨fun y => (move13 L h hL y).1, .inl (.inr ⟨rfl, ?_, rfl, (move13 L h hL 0).2⟩)⟩
      rw [hL]; simp [upd]
/-- a number of which nothing is known comes to the first list -/
theorem push0 {R W : Int} {L : Nat → List Int} {n : Int} (w0 : 0 ≤ W) (wR : W ≤ R) (hn : cnt L n = 0) (h : ∀ y, cnt L y ≤ 1) (a01 : ((L 0).length : Int) + (L 1).length + 1 ≤ R) (a02 : ((L 0).length : Int) + (L 2).length + 1 ≤ R) (tot : ((L 0).length : Int) + (L 1).length + (L 2).length + (L 3).length + 1 ≤ 2 * R) :
    AI R W (upd L 0 (n :: (L 0).erase n)) := by
  have hn' := hn
  unfold cnt at hn
  have h0 : (L 0).count n = 0 := by omega
  have hm : n ∉ L 0 := List.count_eq_zero.1 h0
  have hl : (n :: (L 0).erase n).length = (L 0).length + 1 := by rw [len_push, if_neg hm]
  refine ⟨w0, wR, ?_, ?_, ?_, fun y => ?_⟩
  · rw [show upd L 0 (n :: (L 0).erase n) 0 = n :: (L 0).erase n from rfl, show upd L 0 (n :: (L 0).erase n) 1 = L 1 from rfl, hl]; omega
  · rw [show upd L 0 (n :: (L 0).erase n) 0 = n :: (L 0).erase n from rfl, show upd L 0 (n :: (L 0).erase n) 2 = L 2 from rfl, hl]; omega
  · rw [show upd L 0 (n :: (L 0).erase n) 0 = n :: (L 0).erase n from rfl, show upd L 0 (n :: (L 0).erase n) 1 = L 1 from rfl, show upd L 0 (n :: (L 0).erase n) 2 = L 2 from rfl, show upd L 0 (n :: (L 0).erase n) 3 = L 3 from rfl, hl]; omega
  · have hy := h y
    unfold cnt at hy ⊢
    rw [show upd L 0 (n :: (L 0).erase n) 0 = n :: (L 0).erase n from rfl, show upd L 0 (n :: (L 0).erase n) 1 = L 1 from rfl, show upd L 0 (n :: (L 0).erase n) 2 = L 2 from rfl, show upd L 0 (n :: (L 0).erase n) 3 = L 3 from rfl, count_push _ _ _ (by omega)]
    split
    · subst_vars; omega
    · omega
/-- the last of list f goes -/
theorem pop_does (f : Nat) (hf : f < 4) (L : Nat → List Int) (hp : 0 < (L f).length) :
    (∀ y, cnt (sPop f L).1 y ≤ cnt L y) ∧ ((sPop f L).1 f).length + 1 = (L f).length ∧ ∀ i, i ≠ f → (sPop f L).1 i = L i := by
  rcases snoc_or (L f) with hL | ⟨l, x, hL⟩
  · rw [hL] at hp; cases hp
  · rw [show sPop f L = (upd L f l, some x) by simp [sPop, hL]]
    dsimp only
    refine ⟨fun y => ?_, by rw [hL]; simp [upd], fun i hi => by rw [upd_ne _ _ hi]⟩
    have hc : l.count y ≤ (L f).count y := by rw [hL, count_snoc]; omega
    unfold cnt
    match f, hf with
    | 0, _ => rw [show upd L 0 l 0 = l from rfl, show upd L 0 l 1 = L 1 from rfl, show upd L 0 l 2 = L 2 from rfl, show upd L 0 l 3 = L 3 from rfl]; omega
    | 1, _ => rw [show upd L 1 l 0 = L 0 from rfl, show upd L 1 l 1 = l from rfl, show upd L 1 l 2 = L 2 from rfl, show upd L 1 l 3 = L 3 from rfl]; omega
    | 2, _ => rw [show upd L 2 l 0 = L 0 from rfl, show upd L 2 l 1 = L 1 from rfl, show upd L 2 l 2 = l from rfl, show upd L 2 l 3 = L 3 from rfl]; omega
    | 3, _ => rw [show upd L 3 l 0 = L 0 from rfl, show upd L 3 l 1 = L 1 from rfl, show upd L 3 l 2 = L 2 from rfl, show upd L 3 l 3 = l from rfl]; omega
/-- Use of a number of which nothing is known keeps what the law asks -/
theorem fresh_keeps {R W : Int} {L : Nat → List Int} {n : Int} (h : AI R W L) (hR : 0 < R) (hn : cnt L n = 0) : AI R W (upd (sComes R W L).1 0 (n :: ((sComes R W L).1 0).erase n)) := by
  have a01 := h.a01
  have a02 := h.a02
  have tot := h.tot
  have hle : ∀ (L' : Nat → List Int), (∀ y, cnt L' y ≤ cnt L y) → cnt L' n = 0 ∧ ∀ y, cnt L' y ≤ 1 := fun L' q => ⟨by have := q n; omega, fun y => Nat.le_trans (q y) (h.one y)⟩
  unfold sComes
  simp only
  split
  · next b1 =>
    split
    · next b2 =>
      obtain ⟨p1, p2, p3⟩ := pop_does 2 (by decide) L (by omega)
      obtain ⟨q1, q2⟩ := hle _ p1
      have p30 := p3 0 (by decide)
      have p31 := p3 1 (by decide)
      have p33 := p3 3 (by decide)
      generalize (sPop 2 L).1 = L1 at *
      obtain ⟨r1, r2⟩ := room_does W false L1 q2
      have r0 : cnt (sRoom W false L1).1 n = 0 := by rw [r1]; exact q1
      have r3 : ∀ y, cnt (sRoom W false L1).1 y ≤ 1 := fun y => by rw [r1]; exact q2 y
      generalize (sRoom W false L1).1 = L2 at *
      rw [← p30, ← p31, ← p33] at tot
      rw [← p30] at a02 b1 b2
      rw [← p30, ← p31] at a01
      rcases r2 with (⟨e0, e1, e2, e3⟩ | ⟨e0, e1, e2, e3⟩) | ⟨e, e1, e2⟩
      · exact push0 h.w0 h.wR r0 r3 (by omega) (by omega) (by omega)
      · exact push0 h.w0 h.wR r0 r3 (by omega) (by omega) (by omega)
      · subst e
        exact push0 h.w0 h.wR r0 r3 (by omega) (by omega) (by omega)
    · next b2 =>
      obtain ⟨p1, p2, p3⟩ := pop_does 0 (by decide) L (by omega)
      obtain ⟨q1, q2⟩ := hle _ p1
      have p31 := p3 1 (by decide)
      have p32 := p3 2 (by decide)
      have p33 := p3 3 (by decide)
      generalize (sPop 0 L).1 = L1 at *
      rw [← p31, ← p32, ← p33] at tot
      rw [← p32] at a02 b1
      rw [← p31] at a01
      exact push0 h.w0 h.wR q1 q2 (by omega) (by omega) (by omega)
  · next b1 =>
    split
    · next b3 =>
      obtain ⟨p1, p2, p3⟩ := pop_does 3 (by decide) L (by omega)
      obtain ⟨q1, q2⟩ := hle _ p1
      have p30 := p3 0 (by decide)
      have p31 := p3 1 (by decide)
      have p32 := p3 2 (by decide)
      generalize (sPop 3 L).1 = L1 at *
      obtain ⟨r1, r2⟩ := room_does W false L1 q2
      have r0 : cnt (sRoom W false L1).1 n = 0 := by rw [r1]; exact q1
      have r3 : ∀ y, cnt (sRoom W false L1).1 y ≤ 1 := fun y => by rw [r1]; exact q2 y
      generalize (sRoom W false L1).1 = L2 at *
      rw [← p30, ← p31, ← p32] at tot b3
      rw [← p30, ← p32] at a02 b1
      rw [← p30, ← p31] at a01
      rcases r2 with (⟨e0, e1, e2, e3⟩ | ⟨e0, e1, e2, e3⟩) | ⟨e, e1, e2⟩
      · exact push0 h.w0 h.wR r0 r3 (by omega) (by omega) (by omega)
      · exact push0 h.w0 h.wR r0 r3 (by omega) (by omega) (by omega)
      · subst e
        exact push0 h.w0 h.wR r0 r3 (by omega) (by omega) (by omega)
    · next b3 =>
      split
      · next b4 =>
        obtain ⟨r1, r2⟩ := room_does W false L h.one
        have r0 : cnt (sRoom W false L).1 n = 0 := by rw [r1]; exact hn
        have r3 : ∀ y, cnt (sRoom W false L).1 y ≤ 1 := fun y => by rw [r1]; exact h.one y
        have hw := h.w0
        have hwR := h.wR
        have ho := h.one
        clear hle h
        generalize (sRoom W false L).1 = L2 at *
        rcases r2 with (⟨e0, e1, e2, e3⟩ | ⟨e0, e1, e2, e3⟩) | ⟨e, e1, e2⟩
        · exact push0 hw hwR r0 r3 (by omega) (by omega) (by omega)
        · exact push0 hw hwR r0 r3 (by omega) (by omega) (by omega)
        · subst e
          exact push0 hw hwR r0 r3 (by omega) (by omega) (by omega)
      · next b4 =>
        dsimp only
        exact push0 h.w0 h.wR hn h.one (by omega) (by omega) (by omega)
end Go.Proofs.Ytadejhlljdcocaa
