/-
  Rows of integers of the call's own, and what slices.Insert, Delete, Contains and Index make of them; the shelf's contracts in the words of rows.
-/
import Derived.Test.YtadejhlljdcocaaRow
import Derived.Test.YtadejhlljdcocaaShelfI
namespace Go.Proofs.Ytadejhlljdcocaa
open Go.RowKit
set_option linter.unusedVariables false
set_option linter.unusedSimpArgs false

/-- v is a row of integers of blocks from N on -/
def RowAt (w : World) (N : Nat) (v : Value) (l : List Int) : Prop :=
  (v = .slice none 0 0 ∧ l = []) ∨ ∃ g cap f, v = .slice (some ⟨g, 0, none⟩) l.length cap ∧ N ≤ g ∧ w.rowIs g 3 cap f ∧ l.length ≤ cap ∧ cap ≤ maxLen ∧ ∀ j, j < l.length → f j = .int .i64 (l.getD j 0)

theorem grown_sets {w : World} {row : Option Nat} {b : Nat} (hb : ∀ k, k < w.heap.size → some k ≠ row → k ≠ b) : ∀ (vs : List Value) (o : Nat) (w' : World), w.grownBy w' row → w.grownBy (w'.setCells b o vs) row
  | [], o, w', h => h
  | v :: r, o, w', h => grown_sets hb r (o + 1) _ ⟨h.os, h.tape, h.output, by simpa [World.setCell] using h.size, fun k hk hr => (heap_setCell_other _ _ _ _ (hb k hk hr)).trans (h.block k hk hr)⟩
theorem grown_drew {w w' : World} {row : Option Nat} (h : w.grownBy w' row) : w.grownBy w'.drew row := ⟨h.os, h.tape, h.output, h.size, h.block⟩
theorem grown_drewN {w w' : World} {row : Option Nat} (h : w.grownBy w' row) (q : Nat) : w.grownBy (w'.drewN q) row := ⟨h.os, h.tape, h.output, h.size, h.block⟩
theorem row_drewN {w : World} {b : Nat} {t : TypeId} {n : Nat} {f : Nat → Value} (h : w.rowIs b t n f) (q : Nat) : (w.drewN q).rowIs b t n f := h
theorem row_alloc (w : World) (c : Array Value) (t : TypeId) (n : Nat) (hn : c.size = n) : (w.alloc (.cells c t)).rowIs w.heap.size t n (fun i => c.getD i default) := by
  subst hn
  exact World.rowIs_alloc w c t _ (fun i hi => by simp [Array.getD, hi])
theorem nCells_get (l : List Int) (j : Nat) (u : Value) (h : (nCells l)[j]? = some u) : j < l.length ∧ u = .int .i64 (l.getD j 0) := by
  simp only [nCells, List.getElem?_map, Option.map_eq_some_iff] at h
  obtain ⟨x, hx, rfl⟩ := h
  have hj : j < l.length := by
    rcases Nat.lt_or_ge j l.length with h | h
    · exact h
    · rw [List.getElem?_eq_none h] at hx; cases hx
  refine ⟨hj, ?_⟩
  rw [List.getD_eq_getElem?_getD, hx]
  rfl
theorem one_get (x : Value) (j : Nat) (u : Value) (h : [x][j]? = some u) : j = 0 ∧ u = x := by
  cases j with
  | zero => simp at h; exact ⟨rfl, h.symm⟩
  | succ j => simp at h
theorem one_one (x : Int) : ∀ v ∈ [Value.int .i64 x], v.oneCell' = true := by
  intro v hv
  simp at hv
  subst hv
  rfl
theorem row_cells {w : World} {g cap : Nat} {f : Nat → Value} {l : List Int} (hrow : w.rowIs g 3 cap f) (hl : l.length ≤ cap) (hf : ∀ j, j < l.length → f j = .int .i64 (l.getD j 0)) :
    ∀ (j : Nat) u, (nCells l)[j]? = some u → w.cell? ⟨g, 0 + j, none⟩ = some u := by
  intro j u h
  obtain ⟨hj, rfl⟩ := nCells_get l j u h
  rw [Nat.zero_add, hrow.cell (i := j) (by omega), hf j hj]
theorem row_size {w : World} {g n : Nat} {t : TypeId} {f : Nat → Value} (h : w.rowIs g t n f) : w.shape? g = some (t, n) := by
  obtain ⟨c, hc, hs, _⟩ := h
  simp [World.shape?, hc, hs]

/-- slices.Insert of one number ahead of all -/
theorem ins_any (l : List Int) (x : Int) (w : World) (N vb : Nat) (v : Value) (hv : RowAt w N v l) (hvb : w.rowIs vb 3 1 (fun _ => .int .i64 x)) (hne : some vb ≠ v.ownBlock) (hl : l.length ≤ 1000000) (hN : N ≤ w.heap.size) :
    Calls Try.prog 137 #[v, .int .i64 0, .slice (some ⟨vb, 0, none⟩) 1 1] w fun e w' => ∃ v', e = .returned v' ∧ RowAt w' N v' (x :: l) ∧ w.grownBy w' v.ownBlock ∧ NewRow w v v' := by
  have hxc : ∀ (j : Nat) u, [Value.int .i64 x][j]? = some u → w.cell? ⟨vb, 0 + j, none⟩ = some u := by
    intro j u h
    obtain ⟨rfl, rfl⟩ := one_get _ _ _ h
    exact hvb.cell (i := 0) (by omega)
  have hmax : 1000001 ≤ maxLen := by decide
  rcases hv with ⟨rfl, rfl⟩ | ⟨g, cap, f, rfl, hg, hrow, hlc, hcm, hf⟩
  · refine Calls.mono (Any2.slices_Insert_int_end_grow Try.laysNm221 none 0 0 vb 0 1 1 [] [.int .i64 x] w (by decide) (by decide) (by decide) (by decide) rfl rfl (fun _ => rfl) (by intro a h; cases h) hxc (one_one x)) ?_
    rintro e w' ⟨rfl, rfl⟩
    refine ⟨_, rfl, .inr ⟨w.heap.size, _, _, rfl, hN, row_alloc w.drew _ _ _ ?_, ?_, ?_, ?_⟩, grown_of_drew (World.grownBy_alloc w.drew _ _), newrow_new (Nat.le_refl _)⟩
    · obtain ⟨G, hG⟩ : ∃ G, G = grownCap w (0 + 1) 0 (Try.laysNm221_ren.t 3) := ⟨_, rfl⟩
      have := grownCap_ge w (0 + 1) 0 (Try.laysNm221_ren.t 3)
      rw [← hG] at this ⊢
      simp [Builtin.zeroCells, Value.cells]
      omega
    · exact grownCap_ge w (0 + 1) 0 3
    · exact grownCap_le_maxLen _ _ _ _ (by omega)
    · intro j hj
      simp at hj
      subst hj
      simp [Array.getD]
  · by_cases h0 : l.length = 0
    · have : l = [] := List.eq_nil_of_length_eq_zero h0
      subst this
      by_cases hc : 1 ≤ cap
      · refine Calls.mono (Any2.slices_Insert_int_end_room Try.laysNm221 g 0 0 cap vb 0 1 1 [.int .i64 x] w (by decide) hc hcm rfl (fun j hj => ?_) (fun j hj => hrow.frozen _) hxc (one_one x)) ?_
        · rw [hrow.cell (i := 0 + 0 + j) (by omega)]
          rfl
        rintro e w' ⟨rfl, rfl⟩
        refine ⟨_, rfl, .inr ⟨g, cap, _, rfl, hg, rowIs_setCells _ _ _ _ hrow, hc, hcm, ?_⟩, grown_sets (fun k _ h => fun e => h (by rw [e]; rfl)) _ _ _ (World.grownBy.refl w _), .inl rfl⟩
        intro j hj
        simp at hj
        subst hj
        simp
      · have : cap = 0 := by omega
        subst this
        refine Calls.mono (Any2.slices_Insert_int_end_grow Try.laysNm221 (some ⟨g, 0, none⟩) 0 0 vb 0 1 1 [] [.int .i64 x] w (by decide) (by decide) (by decide) (by decide) rfl rfl (fun _ => rfl) (by intro a h j u hu; simp at hu) hxc (one_one x)) ?_
        rintro e w' ⟨rfl, rfl⟩
        refine ⟨_, rfl, .inr ⟨w.heap.size, _, _, rfl, hN, row_alloc w.drew _ _ _ ?_, ?_, ?_, ?_⟩, grown_of_drew (World.grownBy_alloc w.drew _ _), newrow_new (Nat.le_refl _)⟩
        · obtain ⟨G, hG⟩ : ∃ G, G = grownCap w (0 + 1) 0 (Try.laysNm221_ren.t 3) := ⟨_, rfl⟩
          have := grownCap_ge w (0 + 1) 0 (Try.laysNm221_ren.t 3)
          rw [← hG] at this ⊢
          simp [Builtin.zeroCells, Value.cells]
          omega
        · exact grownCap_ge w (0 + 1) 0 3
        · exact grownCap_le_maxLen _ _ _ _ (by omega)
        · intro j hj
          simp at hj
          subst hj
          simp [Array.getD]
    · by_cases hc : l.length + 1 ≤ cap
      · refine Calls.mono (Any2.slices_Insert_int_shift Try.laysNm221 g 0 l.length cap 0 vb 0 1 1 (nCells l) [.int .i64 x] w (by omega) (by decide) hc hcm (fun e => hne (by rw [e]; rfl)) (nCells_length l) rfl
          (row_cells hrow hlc hf) (fun j hj => ?_) (fun j hj => hrow.frozen _) hxc (nCells_one l) (one_one x) _ _ _ _ (row_size hvb) (row_size hrow) (by omega) (hvb.frozen _) (hvb.frozen _)) ?_
        · rw [hrow.cell (i := 0 + j) (by omega)]
          rfl
        rintro e w' ⟨rfl, rfl⟩
        refine ⟨_, rfl, .inr ⟨g, cap, _, rfl, hg, rowIs_setCells _ _ _ _ (rowIs_setCells _ _ _ _ hrow.drew), hc, hcm, ?_⟩,
          grown_sets (fun k _ h => fun e => h (by rw [e]; rfl)) _ _ _ (grown_sets (fun k _ h => fun e => h (by rw [e]; rfl)) _ _ _ (grown_drew (World.grownBy.refl w _))), .inl rfl⟩
        intro j hj
        simp only [List.length_cons] at hj
        rcases j with _ | j
        · simp
        · have hj' : j < l.length := by omega
          simp [nCells, hj', List.getD_eq_getElem?_getD]
          intro h; exfalso; omega
      · refine Calls.mono (Any2.slices_Insert_int_grow Try.laysNm221 g 0 l.length cap 0 vb 0 1 1 (nCells l) [.int .i64 x] w (by omega) (by decide) hlc (by omega) (by omega) (nCells_length l) rfl
          (row_cells hrow hlc hf) hxc (nCells_one l) (one_one x)) ?_
        rintro e w' ⟨rfl, rfl⟩
        have hal := row_alloc w (((List.take 0 (nCells l)).toArray ++ Builtin.zeroCells (Value.int .i64 0).cells (l.length + 1 - 0)) ++ Builtin.zeroCells (Value.int .i64 0).cells (grownCap w (l.length + 1) cap 3 - (l.length + 1))) 3 (grownCap w (l.length + 1) cap 3) (by
          have := grownCap_ge w (l.length + 1) cap 3
          simp [Builtin.zeroCells, Value.cells]
          omega)
        refine ⟨_, rfl, .inr ⟨w.heap.size, _, _, rfl, hN, rowIs_setCells _ _ _ _ (World.rowIs.drew (rowIs_setCells _ _ _ _ hal.drew)), ?_, ?_, ?_⟩,
          grown_sets (fun k hk _ e => by omega) _ _ _ (grown_drew (grown_sets (fun k hk _ e => by omega) _ _ _ (grown_drew (World.grownBy_alloc w _ _)))), newrow_new (Nat.le_refl _)⟩
        · exact grownCap_ge w (l.length + 1) cap 3
        · exact grownCap_le_maxLen _ _ _ _ (by omega)
        · intro j hj
          simp only [List.length_cons] at hj
          rcases j with _ | j
          · simp
          · have hj' : j < l.length := by omega
            simp [nCells, hj', List.getD_eq_getElem?_getD]
            intro h; exfalso; omega

theorem row_getD {w : World} {g cap : Nat} {f : Nat → Value} {l : List Int} (hrow : w.rowIs g 3 cap f) (hl : l.length ≤ cap) (hf : ∀ j, j < l.length → f j = .int .i64 (l.getD j 0)) :
    ∀ j, j < l.length → w.cell? ⟨g, 0 + j, none⟩ = some (.int .i64 (l.getD j 0)) := by
  intro j h
  rw [Nat.zero_add, hrow.cell (i := j) (by omega), hf j h]
theorem cont_any (l : List Int) (x : Int) (w : World) (N : Nat) (v : Value) (hv : RowAt w N v l) :
    Calls Try.prog 138 #[v, .int .i64 x] w fun e w' => e = .returned (.bool (l.contains x)) ∧ w = w' := by
  rcases hv with ⟨rfl, rfl⟩ | ⟨g, cap, f, rfl, hg, hrow, hlc, hcm, hf⟩
  · refine Calls.mono (Try.slices_Contains_int_empty none 0 x w) ?_
    rintro e w' ⟨rfl, rfl⟩
    exact ⟨rfl, rfl⟩
  · refine Calls.mono (Try.slices_Contains_int g 0 l.length cap l x w (Nat.le_refl _) (Nat.le_trans hlc hcm) (row_getD hrow hlc hf)) ?_
    rintro e w' ⟨rfl, rfl⟩
    exact ⟨by rw [List.take_length], rfl⟩
theorem index_any (l : List Int) (x : Int) (w : World) (N : Nat) (v : Value) (hv : RowAt w N v l) :
    Calls Try.prog 135 #[v, .int .i64 x] w fun e w' => e = .returned (.int .i64 (Lib.idxOf l x)) ∧ w = w' := by
  rcases hv with ⟨rfl, rfl⟩ | ⟨g, cap, f, rfl, hg, hrow, hlc, hcm, hf⟩
  · refine Calls.mono (Try.slices_Index_int_empty none 0 x w) ?_
    rintro e w' ⟨rfl, rfl⟩
    exact ⟨rfl, rfl⟩
  · refine Calls.mono (Try.slices_Index_int g 0 l.length cap l x w (Nat.le_refl _) (Nat.le_trans hlc hcm) (row_getD hrow hlc hf)) ?_
    rintro e w' ⟨rfl, rfl⟩
    exact ⟨by rw [List.take_length], rfl⟩
/-- slices.Delete of one -/
theorem del_any (l : List Int) (i : Nat) (w : World) (N : Nat) (v : Value) (hv : RowAt w N v l) (hi : i < l.length) :
    Calls Try.prog 136 #[v, .int .i64 i, .int .i64 ((i : Int) + 1)] w fun e w' => ∃ v', e = .returned v' ∧ RowAt w' N v' (l.eraseIdx i) ∧ w.grownBy w' v.ownBlock ∧ NewRow w v v' := by
  rcases hv with ⟨rfl, rfl⟩ | ⟨g, cap, f, rfl, hg, hrow, hlc, hcm, hf⟩
  · simp at hi
  · refine Calls.mono (Try.slices_Delete_int_cells g 0 l.length cap i (i + 1) l w (Nat.le_refl _) hlc hcm (by omega) (by omega) (row_getD hrow hlc hf) (fun j hj => hrow.frozen _)) ?_
    rintro e w' ⟨rfl, q, rfl⟩
    have hlen : (l.eraseIdx i).length = l.length - (i + 1 - i) := by rw [List.length_eraseIdx, if_pos hi]; omega
    refine ⟨_, rfl, .inr ⟨g, cap, _, by rw [hlen], hg, rowIs_setCells _ _ _ _ (row_drewN hrow q), by omega, hcm, ?_⟩, grown_sets (fun k _ h => fun e => h (by rw [e]; rfl)) _ _ _ (grown_drewN (World.grownBy.refl w _) q), .inl rfl⟩
    intro j hj
    rw [hlen] at hj
    rw [List.take_length, List.eraseIdx_eq_take_drop_succ]
    have h1 : (l.take i ++ l.drop (i + 1)).length = l.length - 1 := by simp; omega
    have h2 : j < (l.take i ++ l.drop (i + 1)).length := by omega
    have h3 : 0 ≤ j ∧ j < 0 + (List.map (Value.int .i64) (l.take i ++ l.drop (i + 1) ++ List.replicate (i + 1 - i) 0)).length := by simp; omega
    rw [if_pos h3, List.getElem?_map, Nat.sub_zero, List.getElem?_append_left h2, List.getD_eq_getElem?_getD, List.getElem?_eq_getElem h2]
    rfl
end Go.Proofs.Ytadejhlljdcocaa
