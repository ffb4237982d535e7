/-
  An arc: Lists.
-/
import Derived.Test.YtadejhlljdcocaaArcS
import Derived.Test.YtadejhlljdcocaaHeld
namespace Go.Proofs.Ytadejhlljdcocaa
open Go.RowKit
set_option linter.unusedVariables false
set_option linter.unusedSimpArgs false

theorem sr_keeps {N : Nat} {W w' : World} {v : Value} {size n : Nat} {xs : List Value} {X : Prop} (h : SR W v size n xs) (hN : W.heap.size = N) (hb : N ≤ w'.heap.size ∧ Below N W w' ∧ X) : SR w' v size n xs := by
  subst hN
  exact h.below hb.2.1
/-- what Lists' loop keeps: the array of the first k lists -/
structure LRel (L : Nat → List Int) (w wr : World) (k : Nat) (v0 v1 v2 v3 : Value) : Prop where
  below : Below w.heap.size w wr
  out : wr.heap[w.heap.size]? = some (.cells #[.slice none 0 0, .slice none 0 0, .slice none 0 0, .slice none 0 0] 62)
  f0 : ∃ a n c, v0 = .slice a n c
  f1 : ∃ a n c, v1 = .slice a n c
  f2 : ∃ a n c, v2 = .slice a n c
  f3 : ∃ a n c, v3 = .slice a n c
  obj : wr.heap[w.heap.size + 1]? = some (.cells #[v0, v1, v2, v3] 62)
  r0 : 0 < k → SR wr v0 1 (L 0).length (nCells (L 0))
  r1 : 1 < k → SR wr v1 1 (L 1).length (nCells (L 1))
  r2 : 2 < k → SR wr v2 1 (L 2).length (nCells (L 2))
  r3 : 3 < k → SR wr v3 1 (L 3).length (nCells (L 3))
theorem LRel.go {L : Nat → List Int} {w wr wx : World} {k : Nat} {v0 v1 v2 v3 : Value} (h : LRel L w wr k v0 v1 v2 v3) (hb : Below wr.heap.size wr wx) : LRel L w wx k v0 v1 v2 v3 :=
  ⟨h.below.trans (hb.mono h.below.size), below_at hb (lt_heap h.out) h.out, h.f0, h.f1, h.f2, h.f3, below_at hb (lt_heap h.obj) h.obj, fun q => (h.r0 q).below hb, fun q => (h.r1 q).below hb, fun q => (h.r2 q).below hb, fun q => (h.r3 q).below hb⟩
theorem sr_set {w : World} {v u : Value} {size n : Nat} {xs : List Value} {b o : Nat} (h : SR w v size n xs) (hb : n = 0 ∨ ∀ g, v.ownBlock = some g → g ≠ b) : SR (w.setCell ⟨b, o, none⟩ u) v size n xs := by
  obtain ⟨a, cap, rfl, h1, h2, h3, h4⟩ := h
  refine ⟨a, cap, rfl, h1, h2, h3, ?_⟩
  rcases h4 with h4 | ⟨g, off, rfl, hg, hc⟩
  · exact .inl h4
  · rcases hb with hb | hb
    · exact .inl hb
    · refine .inr ⟨g, off, rfl, by simpa [World.setCell] using hg, fun j y hj => ?_⟩
      have hne := hb g rfl
      have := hc j y hj
      simp only [World.cell?] at this ⊢
      rw [heap_setCell_other _ _ _ _ hne]
      exact this
/-- a row of integers is no block of arrays -/
theorem sr_other {w : World} {v : Value} {n p : Nat} {l : List Int} {A : Array Value} {t : TypeId} (h : SR w v 1 n (nCells l)) (hp : w.heap[p]? = some (.cells A t)) (hA : ∀ (i : Nat) (x : Value), A[i]? = some x → ∀ (k : IntKind) (z : Int), x ≠ Value.int k z) : n = 0 ∨ ∀ g, v.ownBlock = some g → g ≠ p := by
  obtain ⟨a, cap, rfl, h1, h2, h3, h4⟩ := h
  rcases h4 with h4 | ⟨g, off, rfl, hg, hc⟩
  · exact .inl h4
  · rcases Nat.eq_zero_or_pos n with h0 | h0
    · exact .inl h0
    · right
      intro g' e
      cases e
      rintro rfl
      have hl : 0 < l.length := by simp only [nCells_length] at h3; omega
      have := hc 0 (.int .i64 l[0]) (by simp [nCells, hl])
      simp only [World.cell?, hp] at this
      exact hA _ _ this _ _ rfl
theorem LRel.noint {L : Nat → List Int} {w wr : World} {k : Nat} {v0 v1 v2 v3 : Value} (h : LRel L w wr k v0 v1 v2 v3) : ∀ (i : Nat) (x : Value), (#[v0, v1, v2, v3] : Array Value)[i]? = some x → ∀ (q : IntKind) (z : Int), x ≠ Value.int q z := by
  obtain ⟨a0, n0, c0, rfl⟩ := h.f0
  obtain ⟨a1, n1, c1, rfl⟩ := h.f1
  obtain ⟨a2, n2, c2, rfl⟩ := h.f2
  obtain ⟨a3, n3, c3, rfl⟩ := h.f3
  intro i x hx q z e
  subst e
  match i with
  | 0 => simp at hx
  | 1 => simp at hx
  | 2 => simp at hx
  | 3 => simp at hx
  | n + 4 => simp at hx
theorem LRel.put0 {L : Nat → List Int} {w wr : World} {v0 v1 v2 v3 : Value} (h : LRel L w wr 0 v0 v1 v2 v3) {a' : Option Addr} {m c' : Nat} (hs : SR wr (.slice a' m c') 1 (L 0).length (nCells (L 0))) : LRel L w (wr.setCell ⟨w.heap.size + 1, 0, none⟩ (.slice a' m c')) 1 (.slice a' m c') v1 v2 v3 := by
  have hn := h.noint
  have ho := h.obj
  refine ⟨h.below.setCell (p := ⟨w.heap.size + 1, 0, none⟩) (by simp) _, (heap_setCell_other _ _ _ _ (by simp)).trans h.out, ⟨_, _, _, rfl⟩, h.f1, h.f2, h.f3, (heap_setCell_same _ _ _ _ _ _ h.obj).trans rfl, fun _ => sr_set hs (sr_other hs ho hn), fun q => absurd q (by decide), fun q => absurd q (by decide), fun q => absurd q (by decide)⟩
theorem LRel.put1 {L : Nat → List Int} {w wr : World} {v0 v1 v2 v3 : Value} (h : LRel L w wr 1 v0 v1 v2 v3) {a' : Option Addr} {m c' : Nat} (hs : SR wr (.slice a' m c') 1 (L 1).length (nCells (L 1))) : LRel L w (wr.setCell ⟨w.heap.size + 1, 1, none⟩ (.slice a' m c')) 2 v0 (.slice a' m c') v2 v3 := by
  have hn := h.noint
  have ho := h.obj
  refine ⟨h.below.setCell (p := ⟨w.heap.size + 1, 1, none⟩) (by simp) _, (heap_setCell_other _ _ _ _ (by simp)).trans h.out, h.f0, ⟨_, _, _, rfl⟩, h.f2, h.f3, (heap_setCell_same _ _ _ _ _ _ h.obj).trans rfl, fun _ => sr_set (h.r0 (by decide)) (sr_other (h.r0 (by decide)) ho hn), fun _ => sr_set hs (sr_other hs ho hn), fun q => absurd q (by decide), fun q => absurd q (by decide)⟩
theorem LRel.put2 {L : Nat → List Int} {w wr : World} {v0 v1 v2 v3 : Value} (h : LRel L w wr 2 v0 v1 v2 v3) {a' : Option Addr} {m c' : Nat} (hs : SR wr (.slice a' m c') 1 (L 2).length (nCells (L 2))) : LRel L w (wr.setCell ⟨w.heap.size + 1, 2, none⟩ (.slice a' m c')) 3 v0 v1 (.slice a' m c') v3 := by
  have hn := h.noint
  have ho := h.obj
  refine ⟨h.below.setCell (p := ⟨w.heap.size + 1, 2, none⟩) (by simp) _, (heap_setCell_other _ _ _ _ (by simp)).trans h.out, h.f0, h.f1, ⟨_, _, _, rfl⟩, h.f3, (heap_setCell_same _ _ _ _ _ _ h.obj).trans rfl, fun _ => sr_set (h.r0 (by decide)) (sr_other (h.r0 (by decide)) ho hn), fun _ => sr_set (h.r1 (by decide)) (sr_other (h.r1 (by decide)) ho hn), fun _ => sr_set hs (sr_other hs ho hn), fun q => absurd q (by decide)⟩
theorem LRel.put3 {L : Nat → List Int} {w wr : World} {v0 v1 v2 v3 : Value} (h : LRel L w wr 3 v0 v1 v2 v3) {a' : Option Addr} {m c' : Nat} (hs : SR wr (.slice a' m c') 1 (L 3).length (nCells (L 3))) : LRel L w (wr.setCell ⟨w.heap.size + 1, 3, none⟩ (.slice a' m c')) 4 v0 v1 v2 (.slice a' m c') := by
  have hn := h.noint
  have ho := h.obj
  refine ⟨h.below.setCell (p := ⟨w.heap.size + 1, 3, none⟩) (by simp) _, (heap_setCell_other _ _ _ _ (by simp)).trans h.out, h.f0, h.f1, h.f2, ⟨_, _, _, rfl⟩, (heap_setCell_same _ _ _ _ _ _ h.obj).trans rfl, fun _ => sr_set (h.r0 (by decide)) (sr_other (h.r0 (by decide)) ho hn), fun _ => sr_set (h.r1 (by decide)) (sr_other (h.r1 (by decide)) ho hn), fun _ => sr_set (h.r2 (by decide)) (sr_other (h.r2 (by decide)) ho hn), fun _ => sr_set hs (sr_other hs ho hn)⟩
def ListsPost (L : Nat → List Int) (w : World) (e : Ending) (w' : World) : Prop :=
  ∃ v0 v1 v2 v3, e = .returned (.agg #[v0, v1, v2, v3]) ∧ SR w' v0 1 (L 0).length (nCells (L 0)) ∧ SR w' v1 1 (L 1).length (nCells (L 1)) ∧ SR w' v2 1 (L 2).length (nCells (L 2)) ∧ SR w' v3 1 (L 3).length (nCells (L 3)) ∧ Below w.heap.size w w'
theorem LRel.cells {L : Nat → List Int} {w wr : World} {k : Nat} {v0 v1 v2 v3 : Value} (h : LRel L w wr k v0 v1 v2 v3) :
    (wr.cell? ⟨w.heap.size + 1, 0, none⟩ = some v0 ∧ wr.cell? ⟨w.heap.size + 1, 1, none⟩ = some v1 ∧ wr.cell? ⟨w.heap.size + 1, 2, none⟩ = some v2 ∧ wr.cell? ⟨w.heap.size + 1, 3, none⟩ = some v3) ∧ ∀ i, wr.frozen? ⟨w.heap.size + 1, i, none⟩ = false := by
  have ho := h.obj
  exact ⟨⟨by simp [World.cell?, ho], by simp [World.cell?, ho], by simp [World.cell?, ho], by simp [World.cell?, ho]⟩, fun i => by simp [World.frozen?, ho]⟩
theorem alists_start (L : Nat → List Int) (w : World) : LRel L w ((w.alloc (.cells #[.slice none 0 0, .slice none 0 0, .slice none 0 0, .slice none 0 0] 62)).alloc (.cells #[.slice none 0 0, .slice none 0 0, .slice none 0 0, .slice none 0 0] 62)) 0 (.slice none 0 0) (.slice none 0 0) (.slice none 0 0) (.slice none 0 0) := by
  refine ⟨((Below.refl _ _).alloc (Nat.le_refl _) _).alloc (by simp) _, heap_alloc_old (heap_alloc_self _ _) _, ⟨_, _, _, rfl⟩, ⟨_, _, _, rfl⟩, ⟨_, _, _, rfl⟩, ⟨_, _, _, rfl⟩, ?_, fun q => absurd q (by decide), fun q => absurd q (by decide), fun q => absurd q (by decide), fun q => absurd q (by decide)⟩
  have := heap_alloc_self (w.alloc (.cells #[.slice none 0 0, .slice none 0 0, .slice none 0 0, .slice none 0 0] 62)) (.cells #[.slice none 0 0, .slice none 0 0, .slice none 0 0, .slice none 0 0] 62)
  simpa using this
def nilA : Array Value := #[.slice none 0 0, .slice none 0 0, .slice none 0 0, .slice none 0 0]
theorem nilA_noint : ∀ (i : Nat) (x : Value), nilA[i]? = some x → ∀ (q : IntKind) (z : Int), x ≠ Value.int q z := by
  intro i x hx q z e
  subst e
  unfold nilA at hx
  match i with
  | 0 => simp at hx
  | 1 => simp at hx
  | 2 => simp at hx
  | 3 => simp at hx
  | n + 4 => simp at hx
def finW (w wr : World) (v0 v1 v2 v3 : Value) : World := (((wr.setCell ⟨w.heap.size, 0, none⟩ v0).setCell ⟨w.heap.size, 1, none⟩ v1).setCell ⟨w.heap.size, 2, none⟩ v2).setCell ⟨w.heap.size, 3, none⟩ v3
theorem LRel.fin {L : Nat → List Int} {w wr : World} {v0 v1 v2 v3 : Value} (h : LRel L w wr 4 v0 v1 v2 v3) :
    (finW w wr v0 v1 v2 v3).heap[w.heap.size]? = some (.cells #[v0, v1, v2, v3] 62) ∧ SR (finW w wr v0 v1 v2 v3) v0 1 (L 0).length (nCells (L 0)) ∧ SR (finW w wr v0 v1 v2 v3) v1 1 (L 1).length (nCells (L 1)) ∧ SR (finW w wr v0 v1 v2 v3) v2 1 (L 2).length (nCells (L 2)) ∧ SR (finW w wr v0 v1 v2 v3) v3 1 (L 3).length (nCells (L 3)) ∧ Below w.heap.size w (finW w wr v0 v1 v2 v3) := by
  have ho : wr.heap[w.heap.size]? = some (.cells nilA 62) := h.out
  have key : ∀ {v : Value} {n : Nat} {l : List Int}, SR wr v 1 n (nCells l) → SR (finW w wr v0 v1 v2 v3) v 1 n (nCells l) := fun q => by
    have d := sr_other q ho nilA_noint
    exact sr_set (sr_set (sr_set (sr_set q d) d) d) d
  refine ⟨(heap_setCell_same _ _ _ _ _ _ ((heap_setCell_same _ _ _ _ _ _ ((heap_setCell_same _ _ _ _ _ _ ((heap_setCell_same _ _ _ _ _ _ ho).trans rfl)).trans rfl)).trans rfl)).trans rfl, key (h.r0 (by decide)), key (h.r1 (by decide)), key (h.r2 (by decide)), key (h.r3 (by decide)), ?_⟩
  exact (((h.below.setCell (p := ⟨w.heap.size, 0, none⟩) (Nat.le_refl _) _).setCell (p := ⟨w.heap.size, 1, none⟩) (Nat.le_refl _) _).setCell (p := ⟨w.heap.size, 2, none⟩) (Nat.le_refl _) _).setCell (p := ⟨w.heap.size, 3, none⟩) (Nat.le_refl _) _
set_option maxHeartbeats 3200000 in
set_option maxRecDepth 100000 in
theorem alists (w : World) (N a : Nat) (R W : Int) (V : Nat → Value) (L : Nat → List Int) (h : ArcAt w N a R W V L) (hl : ∀ i, i < 4 → (L i).length ≤ 100000) :
    Calls Try.prog 35 #[.pointer (some ⟨a, 0, none⟩)] w (ListsPost L w) := by
  have HA := Lib.hid h
  have HL := Lib.hid hl
  have HS := Lib.hid (alists_start L w)
  clear h hl
  go_enter Try.func35, Try.ntmps35
  go_wp2_with fail
  go_loopw [8] (fun i wr => ∃ (k : Nat) (v0 v1 v2 v3 : Value), k ≤ 4 ∧ i = .int .i64 k ∧ LRel L w wr k v0 v1 v2 v3) (fun i _ => 4 - (intOf i).toNat)
  case atStart => exact ⟨0, _, _, _, _, by decide, rfl, HS.out⟩
  case round =>
    obtain ⟨k, v0, v1, v2, v3, hk, rfl, hr⟩ := hrel
    have hA := HA.out.below hr.below
    obtain ⟨⟨e0, e1, e2, e3⟩, ef⟩ := hr.cells
    clear HS
    obtain ⟨W0, hW0⟩ : ∃ W0, W0 = wr := ⟨_, rfl⟩
    subst hW0
    rcases (by omega : k = 4 ∨ k = 0 ∨ k = 1 ∨ k = 2 ∨ k = 3) with rfl | rfl | rfl | rfl | rfl
    · obtain ⟨a0, n0, q0, rfl⟩ := hr.f0
      obtain ⟨a1, n1, q1, rfl⟩ := hr.f1
      obtain ⟨a2, n2, q2, rfl⟩ := hr.f2
      obtain ⟨a3, n3, q3, rfl⟩ := hr.f3
      have HR := Lib.hid hr.fin
      clear hA
      have ho := hr.out
      have fo : ∀ i, W0.frozen? ⟨w.heap.size, i, none⟩ = false := fun i => by simp [World.frozen?, ho]
      have g0 : W0.cell? ⟨w.heap.size, 0, none⟩ = some (.slice none 0 0) := by simp [World.cell?, ho]
      have g1 : W0.cell? ⟨w.heap.size, 1, none⟩ = some (.slice none 0 0) := by simp [World.cell?, ho]
      have g2 : W0.cell? ⟨w.heap.size, 2, none⟩ = some (.slice none 0 0) := by simp [World.cell?, ho]
      have g3 : W0.cell? ⟨w.heap.size, 3, none⟩ = some (.slice none 0 0) := by simp [World.cell?, ho]
      have ho' := Lib.hid ho
      clear hr ho
      go_wp2_with fail
      have hfin := HR.out
      unfold finW at hfin
      generalize ((((W0.setCell ⟨w.heap.size, 0, none⟩ (.slice a0 n0 q0)).setCell ⟨w.heap.size, 1, none⟩ (.slice a1 n1 q1)).setCell ⟨w.heap.size, 2, none⟩ (.slice a2 n2 q2)).setCell ⟨w.heap.size, 3, none⟩ (.slice a3 n3 q3)) = W6 at hfin ⊢
      obtain ⟨h6, r0, r1, r2, r3, hb6⟩ := hfin
      have k0 : W6.cell? ⟨w.heap.size, 0, none⟩ = some (.slice a0 n0 q0) := by simp [World.cell?, h6]
      have k1 : W6.cell? ⟨w.heap.size, 1, none⟩ = some (.slice a1 n1 q1) := by simp [World.cell?, h6]
      have k2 : W6.cell? ⟨w.heap.size, 2, none⟩ = some (.slice a2 n2 q2) := by simp [World.cell?, h6]
      have k3 : W6.cell? ⟨w.heap.size, 3, none⟩ = some (.slice a3 n3 q3) := by simp [World.cell?, h6]
      refine bodyPost_ret (v := .agg #[.slice a0 n0 q0, .slice a1 n1 q1, .slice a2 n2 q2, .slice a3 n3 q3]) (by simp [results, Try.results35, go_sem, k0, k1, k2, k3]) rfl ?_
      exact ⟨_, _, _, _, rfl, r0, r1, r2, r3, hb6⟩
    · have c := oallA (L 0) W0 N a _ _ _ _ (hA.ord 0 (by decide)) (Nat.le_trans (HL.out 0 (by decide)) (by decide))
      have HR := Lib.hid hr
      clear hA hr e0 e1 e2 e3 ef
      go_wp2_with fail
      refine Calls.mono c ?_
      rintro e w1 ⟨v', rfl, hs, hb⟩
      have hr1 := HR.out.go hb
      obtain ⟨a', c', rfl, -, -⟩ := hs.form
      obtain ⟨⟨e0, e1, e2, e3⟩, ef⟩ := hr1.cells
      have ef0 := ef 0
      have HR1 := Lib.hid (hr1.put0 hs)
      clear c hs hb hr1 ef e1 e2 e3
      go_wp2_with fail
      go_roundw
      case rel => exact ⟨1, _, _, _, _, by decide, rfl, HR1.out⟩
      case measure => simp [intOf]
    · have c := oallA (L 1) W0 N a _ _ _ _ (hA.ord 1 (by decide)) (Nat.le_trans (HL.out 1 (by decide)) (by decide))
      have HR := Lib.hid hr
      clear hA hr e0 e1 e2 e3 ef
      go_wp2_with fail
      refine Calls.mono c ?_
      rintro e w1 ⟨v', rfl, hs, hb⟩
      have hr1 := HR.out.go hb
      obtain ⟨a', c', rfl, -, -⟩ := hs.form
      obtain ⟨⟨e0, e1, e2, e3⟩, ef⟩ := hr1.cells
      have ef1 := ef 1
      have HR1 := Lib.hid (hr1.put1 hs)
      clear c hs hb hr1 ef e0 e2 e3
      go_wp2_with fail
      go_roundw
      case rel => exact ⟨2, _, _, _, _, by decide, rfl, HR1.out⟩
      case measure => simp [intOf]
    · have c := oallA (L 2) W0 N a _ _ _ _ (hA.ord 2 (by decide)) (Nat.le_trans (HL.out 2 (by decide)) (by decide))
      have HR := Lib.hid hr
      clear hA hr e0 e1 e2 e3 ef
      go_wp2_with fail
      refine Calls.mono c ?_
      rintro e w1 ⟨v', rfl, hs, hb⟩
      have hr1 := HR.out.go hb
      obtain ⟨a', c', rfl, -, -⟩ := hs.form
      obtain ⟨⟨e0, e1, e2, e3⟩, ef⟩ := hr1.cells
      have ef2 := ef 2
      have HR1 := Lib.hid (hr1.put2 hs)
      clear c hs hb hr1 ef e0 e1 e3
      go_wp2_with fail
      go_roundw
      case rel => exact ⟨3, _, _, _, _, by decide, rfl, HR1.out⟩
      case measure => simp [intOf]
    · have c := oallA (L 3) W0 N a _ _ _ _ (hA.ord 3 (by decide)) (Nat.le_trans (HL.out 3 (by decide)) (by decide))
      have HR := Lib.hid hr
      clear hA hr e0 e1 e2 e3 ef
      go_wp2_with fail
      refine Calls.mono c ?_
      rintro e w1 ⟨v', rfl, hs, hb⟩
      have hr1 := HR.out.go hb
      obtain ⟨a', c', rfl, -, -⟩ := hs.form
      obtain ⟨⟨e0, e1, e2, e3⟩, ef⟩ := hr1.cells
      have ef3 := ef 3
      have HR1 := Lib.hid (hr1.put3 hs)
      clear c hs hb hr1 ef e0 e1 e2
      go_wp2_with fail
      go_roundw
      case rel => exact ⟨4, _, _, _, _, by decide, rfl, HR1.out⟩
      case measure => simp [intOf]
end Go.Proofs.Ytadejhlljdcocaa
