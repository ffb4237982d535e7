/-
  An arc: its want changes; Drop; Use of a number of which nothing is known.
-/
import Derived.Test.YtadejhlljdcocaaArcE
namespace Go.Proofs.Ytadejhlljdcocaa
open Go.RowKit
set_option linter.unusedVariables false
set_option linter.unusedSimpArgs false

theorem ArcAt.want {w : World} {N a : Nat} {R W : Int} {V : Nat → Value} {L : Nat → List Int} (h : ArcAt w N a R W V L) (W' : Int) : ArcAt (w.setCell ⟨a, 1, none⟩ (.int .i64 W')) N a R W' V L ∧ ArcKept w (w.setCell ⟨a, 1, none⟩ (.int .i64 W')) N a V V := by
  have hne : ∀ i, i < 4 → ∀ g, (V i).ownBlock = some g → g ≠ a := fun i hi g hg e => (h.row i hi).other h.obj (by decide) (e ▸ hg)
  have ho : (w.setCell ⟨a, 1, none⟩ (.int .i64 W')).heap[a]? = some (.cells (arcC R W' V) 147) := (heap_setCell_same _ _ _ _ _ _ h.obj).trans rfl
  exact ⟨⟨h.low, ho, fun i hi => (h.row i hi).kept fun g hg => heap_setCell_other _ _ _ _ (hne i hi g hg), h.dis⟩,
    ⟨below_setCells h.low [.int .i64 W'] 1 w (Below.refl _ _), by simp, fun j hj hja _ => heap_setCell_other _ _ _ _ hja, fun i hi k e => .inl ⟨i, hi, e⟩⟩⟩
set_option maxHeartbeats 1600000 in
/-- Drop: of the first list that has it, else of the second -/
theorem adropA (n : Int) (w : World) (N a : Nat) (R W : Int) (V : Nat → Value) (L : Nat → List Int) (h : ArcAt w N a R W V L) (hl : ∀ i, i < 4 → (L i).length ≤ 100000) :
    Calls Try.prog 30 #[.pointer (some ⟨a, 0, none⟩), .int .i64 n] w fun e w' => e = .returned (.bool ((L 0).contains n || (L 1).contains n)) ∧ ∃ V', ArcAt w' N a R W V' (if (L 0).contains n = true then upd L 0 ((L 0).erase n) else upd L 1 ((L 1).erase n)) ∧ ArcKept w w' N a V V' := by
  have c0 := odropA (L 0) n w N a _ _ _ _ (h.ord 0 (by decide)) (Nat.le_trans (hl 0 (by decide)) (by decide))
  have l1 : (L 1).length ≤ 1000000 := Nat.le_trans (hl 1 (by decide)) (by decide)
  have HH := Lib.hid h
  clear h hl
  cases hb : (L 0).contains n
  · have he : (L 0).erase n = L 0 := List.erase_of_not_mem (by simpa using hb)
    rw [hb, he] at c0
    rw [if_neg (by decide)]
    have hu : upd L 0 (L 0) = L := by funext i; unfold upd; split <;> simp_all
    clear he hb
    obtain ⟨q, hq⟩ : ∃ q, (L 1).contains n = q := ⟨_, rfl⟩
    rw [hq]
    have HQ := Lib.hid hq
    clear hq
    go_enter Try.func30, Try.ntmps30
    go_wp2_with fail
    refine Calls.mono c0 ?_
    rintro e w1 ⟨rfl, v1, ho1, hk1⟩
    obtain ⟨hA1, hK1⟩ := HH.out.step 0 (by decide) ho1 hk1
    have hA1 : ArcAt w1 N a R W (upd V 0 v1) L := hu ▸ hA1
    have c1 := odropA (L 1) n w1 N a _ _ _ _ (hA1.ord 1 (by decide)) l1
    rw [HQ.out] at c1
    have HA := Lib.hid (And.intro hA1 hK1)
    clear hA1 hK1 ho1 hk1 c0
    go_wp2_with fail
    refine Calls.mono c1 ?_
    rintro e w2 ⟨rfl, v2, ho2, hk2⟩
    obtain ⟨hA2, hK2⟩ := HA.out.1.step 1 (by decide) ho2 hk2
    clear ho2 hk2 c1
    go_wp2_with fail
    go_returns
    exact ⟨by simp, _, hA2, HA.out.2.trans hK2⟩
  · rw [hb] at c0
    rw [if_pos rfl]
    clear hb
    go_enter Try.func30, Try.ntmps30
    go_wp2_with fail
    refine Calls.mono c0 ?_
    rintro e w1 ⟨rfl, v1, ho1, hk1⟩
    obtain ⟨hA1, hK1⟩ := HH.out.step 0 (by decide) ho1 hk1
    clear ho1 hk1 c0
    go_wp2_with fail
    go_returns
    exact ⟨rfl, _, hA1, hK1⟩
set_option maxHeartbeats 1600000 in
/-- Use of a number of which nothing is known -/
theorem ause_fresh (n : Int) (w : World) (N a : Nat) (R W : Int) (V : Nat → Value) (L : Nat → List Int) (h : ArcAt w N a R W V L) (hR0 : 0 < R) (hR : R ≤ 64) (hl : ∀ i, i < 4 → (L i).length ≤ 99999) (hn : ∀ i, i < 4 → (L i).contains n = false) :
    Calls Try.prog 31 #[.pointer (some ⟨a, 0, none⟩), .int .i64 n] w fun e w' => e = .returned (outV (sComes R W L).2) ∧ ∃ V', ArcAt w' N a R W V' (upd (sComes R W L).1 0 (n :: ((sComes R W L).1 0).erase n)) ∧ ArcKept w w' N a V V' := by
  obtain ⟨d0, d1⟩ := h.rooms
  have ca := ahas n w N a R W V L h
  rw [hn 0 (by decide), hn 1 (by decide)] at ca
  have c2 := ohasA (L 2) n w N a _ _ _ _ (h.ord 2 (by decide))
  have c3 := ohasA (L 3) n w N a _ _ _ _ (h.ord 3 (by decide))
  rw [hn 2 (by decide)] at c2
  rw [hn 3 (by decide)] at c3
  have hl2 : ∀ i, i < 4 → (L i).length ≤ 100000 := fun i hi => Nat.le_trans (hl i hi) (by decide)
  have cc := acomes w N a R W V L h (by omega) hR hl2
  have hcl : ((sComes R W L).1 0).length ≤ 1000000 := by
    have hr : ∀ L' : Nat → List Int, (∀ i, i < 4 → (L' i).length ≤ 99999) → ((sRoom W false L').1 0).length ≤ 1000000 := fun L' h' => Nat.le_trans (sRoom_len W false L' 99999 h' 0 (by decide)) (by decide)
    unfold sComes
    simp only
    split
    · split
      · exact hr _ (sPop_len 2 L _ hl)
      · exact Nat.le_trans (sPop_len 0 L _ hl 0 (by decide)) (by decide)
    · split
      · exact hr _ (sPop_len 3 L _ hl)
      · split
        · exact hr _ hl
        · exact Nat.le_trans (hl 0 (by decide)) (by decide)
  generalize sComes R W L = r at *
  obtain ⟨L1, o⟩ := r
  simp only at cc hcl ⊢
  have hR2 : ¬ R = 0 := by omega
  have HH := Lib.hid h
  clear h hn hl hl2
  unfold outV at *
  go_enter Try.func31, Try.ntmps31
  go_wp2_with fail
  refine Calls.mono ca ?_
  rintro e w1 ⟨rfl, rfl⟩
  go_wp2_with fail
  refine Calls.mono c2 ?_
  rintro e w1 ⟨rfl, rfl⟩
  go_wp2_with fail
  refine Calls.mono c3 ?_
  rintro e w1 ⟨rfl, rfl⟩
  go_wp2_with fail
  refine Calls.mono cc ?_
  rintro e w1 ⟨rfl, V1, hA1, hK1⟩
  have cu := ouseA (L1 0) n w1 N a _ _ _ _ (hA1.ord 0 (by decide)) hcl
  have HQ := Lib.hid (And.intro hA1 hK1)
  clear hA1 hK1 cc c3 c2 ca d0 d1
  go_wp2_with fail
  refine Calls.mono cu ?_
  rintro e w2 ⟨rfl, v0, ho, hk⟩
  obtain ⟨hA, hK⟩ := HQ.out.1.step 0 (by decide) ho hk
  clear ho hk cu
  go_wp2_with fail
  go_returns
  exact ⟨rfl, _, hA, HQ.out.2.trans hK⟩
end Go.Proofs.Ytadejhlljdcocaa
