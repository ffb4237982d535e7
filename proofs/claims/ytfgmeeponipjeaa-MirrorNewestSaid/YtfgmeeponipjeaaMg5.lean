/-
  Several texts, laid together.
-/
import Derived.Test.YtfgmeeponipjeaaMg4
/-
  An arc: Use of a number that was kept once (in the fourth list).
-/

namespace Go.Proofs.Ytfgmeeponipjeaa
open Go.RowKit
set_option linter.unusedVariables false
set_option linter.unusedSimpArgs false

set_option maxHeartbeats 16000000 in
set_option maxRecDepth 100000 in
theorem ause_was3 (n : Int) (w : World) (N a : Nat) (R W : Int) (V : Nat → Value) (L : Nat → List Int) (h : ArcAt w N a R W V L) (hR0 : 0 < R) (hR : R ≤ 64) (hW : 0 ≤ W) (hW2 : W ≤ 64) (hl : ∀ i, i < 4 → (L i).length ≤ 99999) (h01 : ((L 0).contains n || (L 1).contains n) = false) (h2 : (L 2).contains n = false) (hn : (L 3).contains n = true) :
    Calls Try.prog 83 #[.pointer (some ⟨a, 0, none⟩), .int .i64 n] w fun e w' => e = .returned (outV (sAgain (max 0 (W - max 1 (((L 2).length / (L 3).length : Nat) : Int))) n 3 L).2) ∧ ∃ V', ArcAt w' N a R (max 0 (W - max 1 (((L 2).length / (L 3).length : Nat) : Int))) V' (sAgain (max 0 (W - max 1 (((L 2).length / (L 3).length : Nat) : Int))) n 3 L).1 ∧ ArcKept w w' N a V V' := by
  obtain ⟨d0, d1⟩ := h.rooms
  have ca := ahas n w N a R W V L h
  rw [h01] at ca
  have c2 := ohasA (L 2) n w N a _ _ _ _ (h.ord 2 (by decide))
  rw [h2] at c2
  have c3 := ohasA (L 3) n w N a _ _ _ _ (h.ord 3 (by decide))
  rw [hn] at c3
  have m2 := fun q => amany2 (w.drewN q) N a R W V L (h.drewN q)
  have m3 := fun q => amany3 (w.drewN q) N a R W V L (h.drewN q)
  have l2 := hl 2 (by decide)
  have l3 := hl 3 (by decide)
  have hpos : 0 < (L 3).length := by
    rcases hL : L 3 with _ | ⟨x, m⟩
    · rw [hL] at hn; cases hn
    · simp
  have hf := obj_frozenA h.obj 1
  have HH := Lib.hid h
  have HL := Lib.hid hl
  clear h hl hn h01 h2
  generalize (L 2).length = n2 at *
  generalize (L 3).length = n3 at *
  have hR2 : ¬ R = 0 := by omega
  have hp2 : ¬ n3 = 0 := by omega
  obtain ⟨Q, hQ⟩ : ∃ Q : Int, ((n2 / n3 : Nat) : Int) = Q := ⟨_, rfl⟩
  have hQ0 : 0 ≤ Q := by rw [← hQ]; exact Int.natCast_nonneg _
  have hQ1 : Q ≤ 99999 := by rw [← hQ]; have := Nat.div_le_self n2 n3; omega
  have e1 : wrap64 ((n2 : Int) / (n3 : Int)) = Q := by
    rw [show (n2 : Int) / (n3 : Int) = Q by rw [← hQ]; simp]
    unfold wrap64
    omega
  have e2 : IntKind.i64.wrap (W - max 1 Q) = W - max 1 Q := by
    have : max 1 Q ≤ 99999 := by omega
    have : 0 ≤ max 1 Q := by omega
    rw [IntKind.wrap_i64]
    omega
  have e3 : IntKind.i64.wrap ((n2 : Int) / (n3 : Int)) = Q := by
    rw [show ((n2 : Int) / (n3 : Int)) = Q by rw [← hQ]; simp]
    rw [IntKind.wrap_i64]
    omega
  rw [hQ]
  have HE := Lib.hid (And.intro e1 (And.intro e2 e3))
  clear e1 e2 e3 hQ
  go_enter Try.func83, Try.ntmps83
  go_wp2_with fail
  refine Calls.mono ca ?_
  rintro e w1 ⟨rfl, rfl⟩
  go_wp2_with fail
  refine Calls.mono c2 ?_
  rintro e w1 ⟨rfl, rfl⟩
  go_wp2_with fail
  refine Calls.mono c3 ?_
  rintro e w1 ⟨rfl, rfl⟩
  go_upto_region 11 with fail
  go_cut [84] (fun p wx => p = .pointer (some ⟨a, 0, none⟩) ∧ wx = (w.drewN 1).setCell ⟨a, 1, none⟩ (.int .i64 (max 0 (W - max 1 Q))))
  case first =>
    go_region_with (first | (go_at_call_of 99 (Value.int .i64 2); refine Calls.mono (m2 _) ?_; rintro e wz ⟨rfl, rfl⟩) | (go_at_call_of 99 (Value.int .i64 3); refine Calls.mono (m3 _) ?_; rintro e wz ⟨rfl, rfl⟩))
    all_goals
      go_wp2_with fail
      go_meet
      exact ⟨rfl, by first | rw [HE.out.1, HE.out.2.1] | rw [HE.out.2.2, HE.out.2.1]⟩
  case rest =>
    obtain ⟨rfl, rfl⟩ := hcut
    have hA := (HH.out.drewN 1).want (max 0 (W - max 1 Q))
    have cg := aagain3 n _ N a R _ V L hA.1 HL.out
    have HK := Lib.hid ((ArcKept.of_below (a := a) (V := V) (below_drewN' (Below.refl _ _) 1) HH.out.le).trans hA.2)
    clear hA ca c2 c3 m2 m3 d0 d1 hf
    generalize (w.drewN 1).setCell ⟨a, 1, none⟩ (.int .i64 (max 0 (W - max 1 Q))) = W1 at *
    unfold outV at *
    go_wp2_with fail
    refine Calls.mono cg ?_
    rintro e w2 ⟨rfl, V', h2, k2⟩
    go_wp2_with fail
    go_returns
    exact ⟨rfl, V', h2, HK.out.trans k2⟩
end Go.Proofs.Ytfgmeeponipjeaa
/-
  An arc's lists: what its law asks of them (pure part): no number stands twice, the sums.
-/

namespace Go.Proofs.Ytfgmeeponipjeaa
set_option linter.unusedVariables false
set_option linter.unusedSimpArgs false

/-- how often a number stands in the four lists -/
def cnt (L : Nat → List Int) (y : Int) : Nat := (L 0).count y + (L 1).count y + (L 2).count y + (L 3).count y
structure AI (R W : Int) (L : Nat → List Int) : Prop where
  w0 : 0 ≤ W
  wR : W ≤ R
  a01 : ((L 0).length : Int) + (L 1).length ≤ R
  a02 : ((L 0).length : Int) + (L 2).length ≤ R
  tot : ((L 0).length : Int) + (L 1).length + (L 2).length + (L 3).length ≤ 2 * R
  one : ∀ y, cnt L y ≤ 1
theorem AI.len {R W : Int} {L : Nat → List Int} (h : AI R W L) (hR : R ≤ 64) : ∀ i, i < 4 → (L i).length ≤ 99999 := by
  intro i hi
  have h1 := h.a01
  have h2 := h.a02
  have h3 := h.tot
  match i, hi with
  | 0, _ => omega
  | 1, _ => omega
  | 2, _ => omega
  | 3, _ => omega
theorem AI.want {R W W' : Int} {L : Nat → List Int} (h : AI R W L) (h0 : 0 ≤ W') (hR : W' ≤ R) : AI R W' L := ⟨h0, hR, h.a01, h.a02, h.tot, h.one⟩
theorem count_push (l : List Int) (n y : Int) (h : l.count n ≤ 1) : (n :: l.erase n).count y = if y = n then 1 else l.count y := by
  by_cases hy : y = n
  · subst hy
    rw [if_pos rfl, List.count_cons_self, List.count_erase_self]
    omega
  · rw [if_neg hy, List.count_cons_of_ne (Ne.symm hy), List.count_erase_of_ne hy]
theorem len_push (l : List Int) (n : Int) : (n :: l.erase n).length = if n ∈ l then l.length else l.length + 1 := by
  by_cases h : n ∈ l
  · rw [if_pos h, List.length_cons, List.length_erase_of_mem h]
    have := List.length_pos_of_mem h
    omega
  · rw [if_neg h, List.length_cons, List.erase_of_not_mem h]
theorem count_snoc (l : List Int) (x y : Int) : (l ++ [x]).count y = l.count y + if y = x then 1 else 0 := by
  rw [List.count_append]
  congr 1
  by_cases h : y = x
  · subst h; simp
  · rw [if_neg h, List.count_eq_zero]
    simpa using h
/-- the last of list 0 is the first of list 2; or the last of list 1 the first of list 3: nothing is lost, nothing comes -/
theorem move02 (L : Nat → List Int) (h : ∀ y, cnt L y ≤ 1) {l : List Int} {x : Int} (hL : L 0 = l ++ [x]) (y : Int) : cnt (upd (upd L 0 l) 2 (x :: (L 2).erase x)) y = cnt L y ∧ (x :: (L 2).erase x).length = (L 2).length + 1 := by
  have hx := h x
  unfold cnt at hx
  rw [hL, count_snoc, if_pos rfl] at hx
  have h2 : (L 2).count x = 0 := by omega
  have hm : x ∉ L 2 := List.count_eq_zero.1 h2
  refine ⟨?_, by rw [len_push, if_neg hm]⟩
  unfold cnt
  rw [show upd (upd L 0 l) 2 (x :: (L 2).erase x) 0 = l from rfl, show upd (upd L 0 l) 2 (x :: (L 2).erase x) 1 = L 1 from rfl, show upd (upd L 0 l) 2 (x :: (L 2).erase x) 2 = x :: (L 2).erase x from rfl, show upd (upd L 0 l) 2 (x :: (L 2).erase x) 3 = L 3 from rfl]
  rw [hL, count_snoc, count_push _ _ _ (by omega)]
  split
  · subst_vars; omega
  · omega
theorem move13 (L : Nat → List Int) (h : ∀ y, cnt L y ≤ 1) {l : List Int} {x : Int} (hL : L 1 = l ++ [x]) (y : Int) : cnt (upd (upd L 1 l) 3 (x :: (L 3).erase x)) y = cnt L y ∧ (x :: (L 3).erase x).length = (L 3).length + 1 := by
  have hx := h x
  unfold cnt at hx
  rw [hL, count_snoc, if_pos rfl] at hx
  have h2 : (L 3).count x = 0 := by omega
  have hm : x ∉ L 3 := List.count_eq_zero.1 h2
  refine ⟨?_, by rw [len_push, if_neg hm]⟩
  unfold cnt
  rw [show upd (upd L 1 l) 3 (x :: (L 3).erase x) 0 = L 0 from rfl, show upd (upd L 1 l) 3 (x :: (L 3).erase x) 1 = l from rfl, show upd (upd L 1 l) 3 (x :: (L 3).erase x) 2 = L 2 from rfl, show upd (upd L 1 l) 3 (x :: (L 3).erase x) 3 = x :: (L 3).erase x from rfl]
  rw [hL, count_snoc, count_push _ _ _ (by omega)]
  split
  · subst_vars; omega
  · omega
/-- what makeRoom does: one goes from the lists that are kept, where there is one to go; else the first list holds no more than is wanted, and the second none -/
theorem room_does (W : Int) (was : Bool) (L : Nat → List Int) (h : ∀ y, cnt L y ≤ 1) :
    (∀ y, cnt (sRoom W was L).1 y = cnt L y) ∧
    (((((sRoom W was L).1 0).length + 1 = (L 0).length ∧ ((sRoom W was L).1 1).length = (L 1).length ∧ ((sRoom W was L).1 2).length = (L 2).length + 1 ∧ ((sRoom W was L).1 3).length = (L 3).length) ∨
     (((sRoom W was L).1 0).length = (L 0).length ∧ ((sRoom W was L).1 1).length + 1 = (L 1).length ∧ ((sRoom W was L).1 2).length = (L 2).length ∧ ((sRoom W was L).1 3).length = (L 3).length + 1)) ∨
     ((sRoom W was L).1 = L ∧ (L 1).length = 0 ∧ ((L 0).length = 0 ∨ ((L 0).length : Int) < W ∨ ((L 0).length : Int) = W ∧ was = false))) := by
  unfold sRoom
  split
  · next hc =>
    rcases snoc_or (L 0) with hL | ⟨l, x, hL⟩
    · rw [hL] at hc; simp at hc
    · rw [sMove_some _ _ _ hL]
      refine ⟨fun y => (move02 L h hL y).1, .inl (.inl ⟨?_, rfl, (move02 L h hL 0).2, rfl⟩)⟩
      rw [hL]; simp [upd]
  · next hc =>
    rcases snoc_or (L 1) with hL | ⟨l, x, hL⟩
    · rw [sMove_nil _ _ _ hL]
      refine ⟨fun y => rfl, .inr ⟨rfl, by rw [hL]; rfl, ?_⟩⟩
      by_cases hp : 0 < (L 0).length
      · by_cases h3 : W < (L 0).length
        · exact absurd ⟨hp, .inl h3⟩ hc
        · by_cases h4 : ((L 0).length : Int) = W
          · exact .inr (.inr ⟨h4, by
              cases was
              · rfl
              · exact absurd ⟨hp, .inr ⟨h4, rfl⟩⟩ hc⟩)
          · exact .inr (.inl (by omega))
      · exact .inl (by omega)
    · rw [sMove_some _ _ _ hL]
      refine ⟨fun y => (move13 L h hL y).1, .inl (.inr ⟨rfl, ?_, rfl, (move13 L h hL 0).2⟩)⟩
      rw [hL]; simp [upd]
/-- a number of which nothing is known comes to the first list -/
theorem push0 {R W : Int} {L : Nat → List Int} {n : Int} (w0 : 0 ≤ W) (wR : W ≤ R) (hn : cnt L n = 0) (h : ∀ y, cnt L y ≤ 1) (a01 : ((L 0).length : Int) + (L 1).length + 1 ≤ R) (a02 : ((L 0).length : Int) + (L 2).length + 1 ≤ R) (tot : ((L 0).length : Int) + (L 1).length + (L 2).length + (L 3).length + 1 ≤ 2 * R) :
    AI R W (upd L 0 (n :: (L 0).erase n)) := by
  have hn' := hn
  unfold cnt at hn
  have h0 : (L 0).count n = 0 := by omega
  have hm : n ∉ L 0 := List.count_eq_zero.1 h0
  have hl : (n :: (L 0).erase n).length = (L 0).length + 1 := by rw [len_push, if_neg hm]
  refine ⟨w0, wR, ?_, ?_, ?_, fun y => ?_⟩
  · rw [show upd L 0 (n :: (L 0).erase n) 0 = n :: (L 0).erase n from rfl, show upd L 0 (n :: (L 0).erase n) 1 = L 1 from rfl, hl]; omega
  · rw [show upd L 0 (n :: (L 0).erase n) 0 = n :: (L 0).erase n from rfl, show upd L 0 (n :: (L 0).erase n) 2 = L 2 from rfl, hl]; omega
  · rw [show upd L 0 (n :: (L 0).erase n) 0 = n :: (L 0).erase n from rfl, show upd L 0 (n :: (L 0).erase n) 1 = L 1 from rfl, show upd L 0 (n :: (L 0).erase n) 2 = L 2 from rfl, show upd L 0 (n :: (L 0).erase n) 3 = L 3 from rfl, hl]; omega
  · have hy := h y
    unfold cnt at hy ⊢
    rw [show upd L 0 (n :: (L 0).erase n) 0 = n :: (L 0).erase n from rfl, show upd L 0 (n :: (L 0).erase n) 1 = L 1 from rfl, show upd L 0 (n :: (L 0).erase n) 2 = L 2 from rfl, show upd L 0 (n :: (L 0).erase n) 3 = L 3 from rfl, count_push _ _ _ (by omega)]
    split
    · subst_vars; omega
    · omega
/-- the last of list f goes -/
theorem pop_does (f : Nat) (hf : f < 4) (L : Nat → List Int) (hp : 0 < (L f).length) :
    (∀ y, cnt (sPop f L).1 y ≤ cnt L y) ∧ ((sPop f L).1 f).length + 1 = (L f).length ∧ ∀ i, i ≠ f → (sPop f L).1 i = L i := by
  rcases snoc_or (L f) with hL | ⟨l, x, hL⟩
  · rw [hL] at hp; cases hp
  · rw [show sPop f L = (upd L f l, some x) by simp [sPop, hL]]
    dsimp only
    refine ⟨fun y => ?_, by rw [hL]; simp [upd], fun i hi => by rw [upd_ne _ _ hi]⟩
    have hc : l.count y ≤ (L f).count y := by rw [hL, count_snoc]; omega
    unfold cnt
    match f, hf with
    | 0, _ => rw [show upd L 0 l 0 = l from rfl, show upd L 0 l 1 = L 1 from rfl, show upd L 0 l 2 = L 2 from rfl, show upd L 0 l 3 = L 3 from rfl]; omega
    | 1, _ => rw [show upd L 1 l 0 = L 0 from rfl, show upd L 1 l 1 = l from rfl, show upd L 1 l 2 = L 2 from rfl, show upd L 1 l 3 = L 3 from rfl]; omega
    | 2, _ => rw [show upd L 2 l 0 = L 0 from rfl, show upd L 2 l 1 = L 1 from rfl, show upd L 2 l 2 = l from rfl, show upd L 2 l 3 = L 3 from rfl]; omega
    | 3, _ => rw [show upd L 3 l 0 = L 0 from rfl, show upd L 3 l 1 = L 1 from rfl, show upd L 3 l 2 = L 2 from rfl, show upd L 3 l 3 = l from rfl]; omega
/-- Use of a number of which nothing is known keeps what the law asks -/
theorem fresh_keeps {R W : Int} {L : Nat → List Int} {n : Int} (h : AI R W L) (hR : 0 < R) (hn : cnt L n = 0) : AI R W (upd (sComes R W L).1 0 (n :: ((sComes R W L).1 0).erase n)) := by
  have a01 := h.a01
  have a02 := h.a02
  have tot := h.tot
  have hle : ∀ (L' : Nat → List Int), (∀ y, cnt L' y ≤ cnt L y) → cnt L' n = 0 ∧ ∀ y, cnt L' y ≤ 1 := fun L' q => ⟨by have := q n; omega, fun y => Nat.le_trans (q y) (h.one y)⟩
  unfold sComes
  simp only
  split
  · next b1 =>
    split
    · next b2 =>
      obtain ⟨p1, p2, p3⟩ := pop_does 2 (by decide) L (by omega)
      obtain ⟨q1, q2⟩ := hle _ p1
      have p30 := p3 0 (by decide)
      have p31 := p3 1 (by decide)
      have p33 := p3 3 (by decide)
      generalize (sPop 2 L).1 = L1 at *
      obtain ⟨r1, r2⟩ := room_does W false L1 q2
      have r0 : cnt (sRoom W false L1).1 n = 0 := by rw [r1]; exact q1
      have r3 : ∀ y, cnt (sRoom W false L1).1 y ≤ 1 := fun y => by rw [r1]; exact q2 y
      generalize (sRoom W false L1).1 = L2 at *
      rw [← p30, ← p31, ← p33] at tot
      rw [← p30] at a02 b1 b2
      rw [← p30, ← p31] at a01
      rcases r2 with (⟨e0, e1, e2, e3⟩ | ⟨e0, e1, e2, e3⟩) | ⟨e, e1, e2⟩
      · exact push0 h.w0 h.wR r0 r3 (by omega) (by omega) (by omega)
      · exact push0 h.w0 h.wR r0 r3 (by omega) (by omega) (by omega)
      · subst e
        exact push0 h.w0 h.wR r0 r3 (by omega) (by omega) (by omega)
    · next b2 =>
      obtain ⟨p1, p2, p3⟩ := pop_does 0 (by decide) L (by omega)
      obtain ⟨q1, q2⟩ := hle _ p1
      have p31 := p3 1 (by decide)
      have p32 := p3 2 (by decide)
      have p33 := p3 3 (by decide)
      generalize (sPop 0 L).1 = L1 at *
      rw [← p31, ← p32, ← p33] at tot
      rw [← p32] at a02 b1
      rw [← p31] at a01
      exact push0 h.w0 h.wR q1 q2 (by omega) (by omega) (by omega)
  · next b1 =>
    split
    · next b3 =>
      obtain ⟨p1, p2, p3⟩ := pop_does 3 (by decide) L (by omega)
      obtain ⟨q1, q2⟩ := hle _ p1
      have p30 := p3 0 (by decide)
      have p31 := p3 1 (by decide)
      have p32 := p3 2 (by decide)
      generalize (sPop 3 L).1 = L1 at *
      obtain ⟨r1, r2⟩ := room_does W false L1 q2
      have r0 : cnt (sRoom W false L1).1 n = 0 := by rw [r1]; exact q1
      have r3 : ∀ y, cnt (sRoom W false L1).1 y ≤ 1 := fun y => by rw [r1]; exact q2 y
      generalize (sRoom W false L1).1 = L2 at *
      rw [← p30, ← p31, ← p32] at tot b3
      rw [← p30, ← p32] at a02 b1
      rw [← p30, ← p31] at a01
      rcases r2 with (⟨e0, e1, e2, e3⟩ | ⟨e0, e1, e2, e3⟩) | ⟨e, e1, e2⟩
      · exact push0 h.w0 h.wR r0 r3 (by omega) (by omega) (by omega)
      · exact push0 h.w0 h.wR r0 r3 (by omega) (by omega) (by omega)
      · subst e
        exact push0 h.w0 h.wR r0 r3 (by omega) (by omega) (by omega)
    · next b3 =>
      split
      · next b4 =>
        obtain ⟨r1, r2⟩ := room_does W false L h.one
        have r0 : cnt (sRoom W false L).1 n = 0 := by rw [r1]; exact hn
        have r3 : ∀ y, cnt (sRoom W false L).1 y ≤ 1 := fun y => by rw [r1]; exact h.one y
        have hw := h.w0
        have hwR := h.wR
        have ho := h.one
        clear hle h
        generalize (sRoom W false L).1 = L2 at *
        rcases r2 with (⟨e0, e1, e2, e3⟩ | ⟨e0, e1, e2, e3⟩) | ⟨e, e1, e2⟩
        · exact push0 hw hwR r0 r3 (by omega) (by omega) (by omega)
        · exact push0 hw hwR r0 r3 (by omega) (by omega) (by omega)
        · subst e
          exact push0 hw hwR r0 r3 (by omega) (by omega) (by omega)
      · next b4 =>
        dsimp only
        exact push0 h.w0 h.wR hn h.one (by omega) (by omega) (by omega)
end Go.Proofs.Ytfgmeeponipjeaa
/-
  An arc's lists: a number that was kept once, and one that is kept, keep what the law asks (pure part).
-/

namespace Go.Proofs.Ytfgmeeponipjeaa
set_option linter.unusedVariables false
set_option linter.unusedSimpArgs false

theorem room_in2 (W : Int) (was : Bool) (L : Nat → List Int) (n : Int) (h : ∀ y, cnt L y ≤ 1) (hn : (L 2).count n = 1) : ((sRoom W was L).1 2).count n = 1 := by
  have h1 := h n
  unfold cnt at h1
  unfold sRoom
  split
  · rcases snoc_or (L 0) with hL | ⟨l, x, hL⟩
    · rw [sMove_nil _ _ _ hL]; exact hn
    · rw [sMove_some _ _ _ hL]
      have hx := h x
      unfold cnt at hx
      rw [hL, count_snoc] at h1
      rw [hL, count_snoc, if_pos rfl] at hx
      have hne : n ≠ x := fun e => by rw [if_pos e] at h1; omega
      dsimp only
      rw [upd_at, count_push _ _ _ (by omega), if_neg hne]; exact hn
  · rcases snoc_or (L 1) with hL | ⟨l, x, hL⟩
    · rw [sMove_nil _ _ _ hL]; exact hn
    · rw [sMove_some _ _ _ hL]
      have hx := h x
      unfold cnt at hx
      rw [hL, count_snoc] at h1
      rw [hL, count_snoc, if_pos rfl] at hx
      have hne : n ≠ x := fun e => by rw [if_pos e] at h1; omega
      dsimp only
      exact hn
theorem again2_keeps {R W : Int} {L : Nat → List Int} {n : Int} (h : AI R W L) (hR : 0 < R) (hn : (L 2).count n = 1) : AI R W (sAgain W n 2 L).1 := by
  have a01 := h.a01
  have a02 := h.a02
  have tot := h.tot
  have hw := h.w0
  have hwR := h.wR
  have ho := h.one
  have hk := room_in2 W false L n ho hn
  obtain ⟨r1, r2⟩ := room_does W false L ho
  have hst : (sAgain W n 2 L).1 = upd (upd (sRoom W false L).1 2 (((sRoom W false L).1 2).erase n)) 1 (n :: ((sRoom W false L).1 1).erase n) := rfl
  rw [hst]
  clear hst
  have hone : ∀ y, cnt (sRoom W false L).1 y ≤ 1 := fun y => by rw [r1]; exact ho y
  have hpos : 0 < (L 2).length := by
    rcases hL : L 2 with _ | ⟨x, m⟩
    · rw [hL] at hn; cases hn
    · simp
  clear h r1
  generalize (sRoom W false L).1 = r at *
  have hnn := hone n
  unfold cnt at hnn
  have hc1 : (r 1).count n = 0 := by omega
  have hm1 : n ∉ r 1 := List.count_eq_zero.1 hc1
  have hmk : n ∈ r 2 := List.count_pos_iff.1 (by omega)
  have l1 : (n :: (r 1).erase n).length = (r 1).length + 1 := by rw [len_push, if_neg hm1]
  have lk : ((r 2).erase n).length + 1 = (r 2).length := by
    rw [List.length_erase_of_mem hmk]
    have := List.length_pos_of_mem hmk
    omega
  refine ⟨hw, hwR, ?_, ?_, ?_, fun y => ?_⟩
  · rw [show (upd (upd r 2 ((r 2).erase n)) 1 (n :: (r 1).erase n)) 0 = r 0 from rfl, show (upd (upd r 2 ((r 2).erase n)) 1 (n :: (r 1).erase n)) 1 = n :: (r 1).erase n from rfl, l1]
    rcases r2 with (⟨e0, e1, e2, e3⟩ | ⟨e0, e1, e2, e3⟩) | ⟨e, e1, e2⟩
    · omega
    · omega
    · subst e; omega
  · rw [show (upd (upd r 2 ((r 2).erase n)) 1 (n :: (r 1).erase n)) 0 = r 0 from rfl, show (upd (upd r 2 ((r 2).erase n)) 1 (n :: (r 1).erase n)) 2 = (r 2).erase n from rfl]
    rcases r2 with (⟨e0, e1, e2, e3⟩ | ⟨e0, e1, e2, e3⟩) | ⟨e, e1, e2⟩
    · omega
    · omega
    · subst e; omega
  · rw [show (upd (upd r 2 ((r 2).erase n)) 1 (n :: (r 1).erase n)) 0 = r 0 from rfl, show (upd (upd r 2 ((r 2).erase n)) 1 (n :: (r 1).erase n)) 1 = n :: (r 1).erase n from rfl, show (upd (upd r 2 ((r 2).erase n)) 1 (n :: (r 1).erase n)) 2 = (r 2).erase n from rfl, show (upd (upd r 2 ((r 2).erase n)) 1 (n :: (r 1).erase n)) 3 = r 3 from rfl, l1]
    rcases r2 with (⟨e0, e1, e2, e3⟩ | ⟨e0, e1, e2, e3⟩) | ⟨e, e1, e2⟩
    · omega
    · omega
    · subst e; omega
  · have hy := hone y
    unfold cnt at hy ⊢
    rw [show (upd (upd r 2 ((r 2).erase n)) 1 (n :: (r 1).erase n)) 0 = r 0 from rfl, show (upd (upd r 2 ((r 2).erase n)) 1 (n :: (r 1).erase n)) 1 = n :: (r 1).erase n from rfl, show (upd (upd r 2 ((r 2).erase n)) 1 (n :: (r 1).erase n)) 2 = (r 2).erase n from rfl, show (upd (upd r 2 ((r 2).erase n)) 1 (n :: (r 1).erase n)) 3 = r 3 from rfl, count_push _ _ _ (by omega)]
    by_cases hyn : y = n
    · subst hyn
      rw [if_pos rfl, List.count_erase_self]
      omega
    · rw [if_neg hyn, List.count_erase_of_ne hyn]
      exact hy
theorem room_in3 (W : Int) (was : Bool) (L : Nat → List Int) (n : Int) (h : ∀ y, cnt L y ≤ 1) (hn : (L 3).count n = 1) : ((sRoom W was L).1 3).count n = 1 := by
  have h1 := h n
  unfold cnt at h1
  unfold sRoom
  split
  · rcases snoc_or (L 0) with hL | ⟨l, x, hL⟩
    · rw [sMove_nil _ _ _ hL]; exact hn
    · rw [sMove_some _ _ _ hL]
      have hx := h x
      unfold cnt at hx
      rw [hL, count_snoc] at h1
      rw [hL, count_snoc, if_pos rfl] at hx
      have hne : n ≠ x := fun e => by rw [if_pos e] at h1; omega
      dsimp only
      exact hn
  · rcases snoc_or (L 1) with hL | ⟨l, x, hL⟩
    · rw [sMove_nil _ _ _ hL]; exact hn
    · rw [sMove_some _ _ _ hL]
      have hx := h x
      unfold cnt at hx
      rw [hL, count_snoc] at h1
      rw [hL, count_snoc, if_pos rfl] at hx
      have hne : n ≠ x := fun e => by rw [if_pos e] at h1; omega
      dsimp only
      rw [upd_at, count_push _ _ _ (by omega), if_neg hne]; exact hn
theorem again3_keeps {R W : Int} {L : Nat → List Int} {n : Int} (h : AI R W L) (hR : 0 < R) (hn : (L 3).count n = 1) : AI R W (sAgain W n 3 L).1 := by
  have a01 := h.a01
  have a02 := h.a02
  have tot := h.tot
  have hw := h.w0
  have hwR := h.wR
  have ho := h.one
  have hk := room_in3 W true L n ho hn
  obtain ⟨r1, r2⟩ := room_does W true L ho
  have hst : (sAgain W n 3 L).1 = upd (upd (sRoom W true L).1 3 (((sRoom W true L).1 3).erase n)) 1 (n :: ((sRoom W true L).1 1).erase n) := rfl
  rw [hst]
  clear hst
  have hone : ∀ y, cnt (sRoom W true L).1 y ≤ 1 := fun y => by rw [r1]; exact ho y
  have hpos : 0 < (L 3).length := by
    rcases hL : L 3 with _ | ⟨x, m⟩
    · rw [hL] at hn; cases hn
    · simp
  clear h r1
  generalize (sRoom W true L).1 = r at *
  have hnn := hone n
  unfold cnt at hnn
  have hc1 : (r 1).count n = 0 := by omega
  have hm1 : n ∉ r 1 := List.count_eq_zero.1 hc1
  have hmk : n ∈ r 3 := List.count_pos_iff.1 (by omega)
  have l1 : (n :: (r 1).erase n).length = (r 1).length + 1 := by rw [len_push, if_neg hm1]
  have lk : ((r 3).erase n).length + 1 = (r 3).length := by
    rw [List.length_erase_of_mem hmk]
    have := List.length_pos_of_mem hmk
    omega
  refine ⟨hw, hwR, ?_, ?_, ?_, fun y => ?_⟩
  · rw [show (upd (upd r 3 ((r 3).erase n)) 1 (n :: (r 1).erase n)) 0 = r 0 from rfl, show (upd (upd r 3 ((r 3).erase n)) 1 (n :: (r 1).erase n)) 1 = n :: (r 1).erase n from rfl, l1]
    rcases r2 with (⟨e0, e1, e2, e3⟩ | ⟨e0, e1, e2, e3⟩) | ⟨e, e1, e2⟩
    · omega
    · omega
    · subst e
      rcases e2 with q | q | q
      · omega
      · omega
      · exact absurd q.2 (by decide)
  · rw [show (upd (upd r 3 ((r 3).erase n)) 1 (n :: (r 1).erase n)) 0 = r 0 from rfl, show (upd (upd r 3 ((r 3).erase n)) 1 (n :: (r 1).erase n)) 2 = r 2 from rfl]
    rcases r2 with (⟨e0, e1, e2, e3⟩ | ⟨e0, e1, e2, e3⟩) | ⟨e, e1, e2⟩
    · omega
    · omega
    · subst e; omega
  · rw [show (upd (upd r 3 ((r 3).erase n)) 1 (n :: (r 1).erase n)) 0 = r 0 from rfl, show (upd (upd r 3 ((r 3).erase n)) 1 (n :: (r 1).erase n)) 1 = n :: (r 1).erase n from rfl, show (upd (upd r 3 ((r 3).erase n)) 1 (n :: (r 1).erase n)) 2 = r 2 from rfl, show (upd (upd r 3 ((r 3).erase n)) 1 (n :: (r 1).erase n)) 3 = (r 3).erase n from rfl, l1]
    rcases r2 with (⟨e0, e1, e2, e3⟩ | ⟨e0, e1, e2, e3⟩) | ⟨e, e1, e2⟩
    · omega
    · omega
    · subst e; omega
  · have hy := hone y
    unfold cnt at hy ⊢
    rw [show (upd (upd r 3 ((r 3).erase n)) 1 (n :: (r 1).erase n)) 0 = r 0 from rfl, show (upd (upd r 3 ((r 3).erase n)) 1 (n :: (r 1).erase n)) 1 = n :: (r 1).erase n from rfl, show (upd (upd r 3 ((r 3).erase n)) 1 (n :: (r 1).erase n)) 2 = r 2 from rfl, show (upd (upd r 3 ((r 3).erase n)) 1 (n :: (r 1).erase n)) 3 = (r 3).erase n from rfl, count_push _ _ _ (by omega)]
    by_cases hyn : y = n
    · subst hyn
      rw [if_pos rfl, List.count_erase_self]
      omega
    · rw [if_neg hyn, List.count_erase_of_ne hyn]
      exact hy
theorem has_keeps {R W : Int} {L : Nat → List Int} {n : Int} (h : AI R W L) (hn : (L 0).count n + (L 1).count n = 1) : AI R W (upd (upd L 0 ((L 0).erase n)) 1 (n :: (L 1).erase n)) := by
  have a01 := h.a01
  have a02 := h.a02
  have tot := h.tot
  have hnn := h.one n
  unfold cnt at hnn
  have key : ((L 0).erase n).length + (n :: (L 1).erase n).length = (L 0).length + (L 1).length ∧ ((L 0).erase n).length ≤ (L 0).length := by
    refine ⟨?_, List.length_erase_le⟩
    rw [len_push]
    by_cases h1 : n ∈ L 1
    · have hc := List.count_pos_iff.2 h1
      have h0 : n ∉ L 0 := List.count_eq_zero.1 (by omega)
      rw [if_pos h1, List.erase_of_not_mem h0]
    · have hc := List.count_eq_zero.2 h1
      have h0 : n ∈ L 0 := List.count_pos_iff.1 (by omega)
      rw [if_neg h1, List.length_erase_of_mem h0]
      have := List.length_pos_of_mem h0
      omega
  refine ⟨h.w0, h.wR, ?_, ?_, ?_, fun y => ?_⟩
  · rw [show upd (upd L 0 ((L 0).erase n)) 1 (n :: (L 1).erase n) 0 = (L 0).erase n from rfl, show upd (upd L 0 ((L 0).erase n)) 1 (n :: (L 1).erase n) 1 = n :: (L 1).erase n from rfl]; omega
  · rw [show upd (upd L 0 ((L 0).erase n)) 1 (n :: (L 1).erase n) 0 = (L 0).erase n from rfl, show upd (upd L 0 ((L 0).erase n)) 1 (n :: (L 1).erase n) 2 = L 2 from rfl]; omega
  · rw [show upd (upd L 0 ((L 0).erase n)) 1 (n :: (L 1).erase n) 0 = (L 0).erase n from rfl, show upd (upd L 0 ((L 0).erase n)) 1 (n :: (L 1).erase n) 1 = n :: (L 1).erase n from rfl, show upd (upd L 0 ((L 0).erase n)) 1 (n :: (L 1).erase n) 2 = L 2 from rfl, show upd (upd L 0 ((L 0).erase n)) 1 (n :: (L 1).erase n) 3 = L 3 from rfl]; omega
  · have hy := h.one y
    unfold cnt at hy ⊢
    rw [show upd (upd L 0 ((L 0).erase n)) 1 (n :: (L 1).erase n) 0 = (L 0).erase n from rfl, show upd (upd L 0 ((L 0).erase n)) 1 (n :: (L 1).erase n) 1 = n :: (L 1).erase n from rfl, show upd (upd L 0 ((L 0).erase n)) 1 (n :: (L 1).erase n) 2 = L 2 from rfl, show upd (upd L 0 ((L 0).erase n)) 1 (n :: (L 1).erase n) 3 = L 3 from rfl, count_push _ _ _ (by omega)]
    by_cases hyn : y = n
    · subst hyn
      rw [if_pos rfl, List.count_erase_self]
      omega
    · rw [if_neg hyn, List.count_erase_of_ne hyn]
      exact hy
theorem erase_le (l : List Int) (n : Int) : (l.erase n).length ≤ l.length ∧ ∀ y, (l.erase n).count y ≤ l.count y := by
  refine ⟨List.length_erase_le, fun y => ?_⟩
  by_cases hy : y = n
  · subst hy; rw [List.count_erase_self]; omega
  · rw [List.count_erase_of_ne hy]; omega
/-- Drop keeps what the law asks, and the number is kept no more -/
theorem drop_keeps {R W : Int} {L : Nat → List Int} (n : Int) (h : AI R W L) : AI R W (if (L 0).contains n = true then upd L 0 ((L 0).erase n) else upd L 1 ((L 1).erase n)) ∧ (((if (L 0).contains n = true then upd L 0 ((L 0).erase n) else upd L 1 ((L 1).erase n)) 0).contains n || ((if (L 0).contains n = true then upd L 0 ((L 0).erase n) else upd L 1 ((L 1).erase n)) 1).contains n) = false := by
  have a01 := h.a01
  have a02 := h.a02
  have tot := h.tot
  have hn := h.one n
  unfold cnt at hn
  have z : ∀ l : List Int, l.count n = 0 → l.contains n = false := fun l q => by
    have := List.count_eq_zero.1 q
    simpa using this
  by_cases hb : (L 0).contains n = true
  · rw [if_pos hb]
    have hm : n ∈ L 0 := by simpa using hb
    have hc := List.count_pos_iff.2 hm
    obtain ⟨e1, e2⟩ := erase_le (L 0) n
    refine ⟨⟨h.w0, h.wR, ?_, ?_, ?_, fun y => ?_⟩, ?_⟩
    · rw [show upd L 0 ((L 0).erase n) 0 = (L 0).erase n from rfl, show upd L 0 ((L 0).erase n) 1 = L 1 from rfl]; omega
    · rw [show upd L 0 ((L 0).erase n) 0 = (L 0).erase n from rfl, show upd L 0 ((L 0).erase n) 2 = L 2 from rfl]; omega
    · rw [show upd L 0 ((L 0).erase n) 0 = (L 0).erase n from rfl, show upd L 0 ((L 0).erase n) 1 = L 1 from rfl, show upd L 0 ((L 0).erase n) 2 = L 2 from rfl, show upd L 0 ((L 0).erase n) 3 = L 3 from rfl]; omega
    · have hy := h.one y
      have := e2 y
      unfold cnt at hy ⊢
      rw [show upd L 0 ((L 0).erase n) 0 = (L 0).erase n from rfl, show upd L 0 ((L 0).erase n) 1 = L 1 from rfl, show upd L 0 ((L 0).erase n) 2 = L 2 from rfl, show upd L 0 ((L 0).erase n) 3 = L 3 from rfl]
      omega
    · rw [show upd L 0 ((L 0).erase n) 0 = (L 0).erase n from rfl, show upd L 0 ((L 0).erase n) 1 = L 1 from rfl, z ((L 0).erase n) (by rw [List.count_erase_self]; omega), z (L 1) (by omega)]
      rfl
  · rw [if_neg hb]
    have hm : n ∉ L 0 := by simpa using hb
    have hc := List.count_eq_zero.2 hm
    obtain ⟨e1, e2⟩ := erase_le (L 1) n
    refine ⟨⟨h.w0, h.wR, ?_, ?_, ?_, fun y => ?_⟩, ?_⟩
    · rw [show upd L 1 ((L 1).erase n) 0 = L 0 from rfl, show upd L 1 ((L 1).erase n) 1 = (L 1).erase n from rfl]; omega
    · rw [show upd L 1 ((L 1).erase n) 0 = L 0 from rfl, show upd L 1 ((L 1).erase n) 2 = L 2 from rfl]; omega
    · rw [show upd L 1 ((L 1).erase n) 0 = L 0 from rfl, show upd L 1 ((L 1).erase n) 1 = (L 1).erase n from rfl, show upd L 1 ((L 1).erase n) 2 = L 2 from rfl, show upd L 1 ((L 1).erase n) 3 = L 3 from rfl]; omega
    · have hy := h.one y
      have := e2 y
      unfold cnt at hy ⊢
      rw [show upd L 1 ((L 1).erase n) 0 = L 0 from rfl, show upd L 1 ((L 1).erase n) 1 = (L 1).erase n from rfl, show upd L 1 ((L 1).erase n) 2 = L 2 from rfl, show upd L 1 ((L 1).erase n) 3 = L 3 from rfl]
      omega
    · rw [show upd L 1 ((L 1).erase n) 0 = L 0 from rfl, show upd L 1 ((L 1).erase n) 1 = (L 1).erase n from rfl, z (L 0) hc, z ((L 1).erase n) (by rw [List.count_erase_self]; omega)]
      rfl
end Go.Proofs.Ytfgmeeponipjeaa
