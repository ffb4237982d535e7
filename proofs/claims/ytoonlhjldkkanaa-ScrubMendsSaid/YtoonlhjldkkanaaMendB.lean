/-
  scrub.Mend: what many hold together, and what each of them lacks.
-/
import Derived.Test.YtoonlhjldkkanaaMend
namespace Go.Proofs.Ytoonlhjldkkanaa
open Go.RowKit
set_option linter.unusedVariables false
set_option linter.unusedSimpArgs false

theorem info_list : (Try.prog.info? 38).map (fun i => (i.zero, i.size, i.bytes)) = some (some (.slice none 0 0), 1, 24) := by kernel_rfl
/-- a slice of slices of items -/
def SRR (w : World) (v : Value) (vs : List Value) (Ls : List (List HI)) : Prop :=
  SR w v 1 Ls.length vs ∧ vs.length = Ls.length ∧ ∀ (j : Nat) L u, Ls[j]? = some L → vs[j]? = some u → SR w u 3 L.length (hCells L)
theorem SRR.below {w w' : World} {v : Value} {vs : List Value} {Ls : List (List HI)} (h : SRR w v vs Ls) (hb : Below w.heap.size w w') : SRR w' v vs Ls :=
  ⟨h.1.below hb, h.2.1, fun j L u h1 h2 => (h.2.2 j L u h1 h2).below hb⟩
/-- the slice at a place, and its cell -/
theorem srr_at {w : World} {a : Option Addr} {len cap : Nat} {vs : List Value} {Ls : List (List HI)} (h : SRR w (.slice a len cap) vs Ls) {j : Nat} {L : List HI} (hj : Ls[j]? = some L) :
    ∃ b off u, a = some ⟨b, off, none⟩ ∧ b < w.heap.size ∧ w.cell? ⟨b, off + j, none⟩ = some u ∧ SR w u 3 L.length (hCells L) := by
  obtain ⟨⟨a', cap', he, h1, h2, h3, h4⟩, hl, hs⟩ := h
  injection he with e1 e3 e2
  subst e1 e2
  have hlt := (List.getElem?_eq_some_iff.1 hj).1
  rcases h4 with h4 | ⟨b, off, rfl, hb, hc⟩
  · omega
  · obtain ⟨u, hu⟩ : ∃ u, vs[j]? = some u := ⟨_, List.getElem?_eq_getElem (by omega)⟩
    exact ⟨b, off, u, rfl, hb, hc j u hu, hs j L u hj hu⟩
/-- a row of the call's own, of such slices -/
structure OwnV (w : World) (N : Nat) (v : Value) (vs : List Value) (Ls : List (List HI)) : Prop where
  own : w.ownsRow N 38 1 v Ls.length vs
  len : vs.length = Ls.length
  at_ : ∀ (j : Nat) L u, Ls[j]? = some L → vs[j]? = some u → SR w u 3 L.length (hCells L) ∧ ∀ k, u.ownBlock = some k → k < w.heap.size ∧ some k ≠ v.ownBlock
theorem OwnV.nil (w : World) (N : Nat) : OwnV w N (.slice none 0 0) [] [] := ⟨World.ownsRow_nil _ _ _ _, rfl, fun j L u h _ => by simp at h⟩
theorem OwnV.below {w w' : World} {N : Nat} {v : Value} {vs : List Value} {Ls : List (List HI)} (h : OwnV w N v vs Ls) (hb : Below w.heap.size w w') : OwnV w' N v vs Ls :=
  ⟨owns_below h.own hb, h.len, fun j L u a b => ⟨(h.at_ j L u a b).1.below hb, fun k e => ⟨Nat.lt_of_lt_of_le ((h.at_ j L u a b).2 k e).1 hb.size, ((h.at_ j L u a b).2 k e).2⟩⟩⟩
theorem OwnV.srr {w : World} {N : Nat} {v : Value} {vs : List Value} {Ls : List (List HI)} (h : OwnV w N v vs Ls) : SRR w v vs Ls := ⟨SR.owns h.own, h.len, fun j L u a b => (h.at_ j L u a b).1⟩
theorem slice_one {u : Value} {w : World} {size n : Nat} {xs : List Value} (h : SR w u size n xs) : ∀ y ∈ [u], y.oneCell' = true := by
  obtain ⟨a, cap, rfl, _⟩ := h
  intro y hy
  rw [List.mem_singleton.1 hy]
  rfl
theorem slice_lit (u : Value) (w : World) : SR (w.alloc (.cells #[u] 38)) (.slice (some ⟨w.heap.size, 0, none⟩) 1 1) 1 1 [u] := SR.lit w 38 #[u] 1 1 (by decide) rfl
/-- a slice stays as it was through what append does to another row -/
theorem sr_grown {w w' : World} {v u : Value} {size n : Nat} {xs : List Value} {o : Obj} (h : SR w u size n xs) (hg : (w.alloc o).grownBy w' v.ownBlock) (hne : ∀ k, u.ownBlock = some k → some k ≠ v.ownBlock) : SR w' u size n xs := by
  obtain ⟨a, cap, rfl, h1, h2, h3, h4⟩ := h
  refine ⟨a, cap, rfl, h1, h2, h3, h4.imp id ?_⟩
  rintro ⟨g, off, rfl, hb, hc⟩
  refine ⟨g, off, rfl, Nat.lt_of_lt_of_le hb (by have := hg.size; simp at this; omega), fun j y hj => ?_⟩
  have e := (hg.block g (by simp; omega) (hne g rfl)).trans (Below.heap_alloc w o g hb)
  have hcu := hc j y hj
  simp only [World.cell?] at hcu ⊢
  rw [e]
  exact hcu
theorem OwnV.app {w w' : World} {N : Nat} {v v' u : Value} {vs : List Value} {Ls : List (List HI)} {L : List HI} {o : Obj} (h : OwnV w N v vs Ls) (hu : SR w u 3 L.length (hCells L)) (hlt : ∀ k, u.ownBlock = some k → k < w.heap.size ∧ some k ≠ v.ownBlock)
    (hown : w'.ownsRow N 38 1 v' (Ls.length + 1) (vs ++ [u])) (hg : (w.alloc o).grownBy w' v.ownBlock) (hn : v'.ownBlock = v.ownBlock ∨ v'.ownBlock = some (w.alloc o).heap.size) : OwnV w' N v' (vs ++ [u]) (Ls ++ [L]) := by
  refine ⟨by rw [List.length_append]; exact hown, by simp [h.len], fun j M x hj hx => ?_⟩
  have key : ∀ (y : Value) (K : List HI), SR w y 3 K.length (hCells K) → (∀ k, y.ownBlock = some k → k < w.heap.size ∧ some k ≠ v.ownBlock) → SR w' y 3 K.length (hCells K) ∧ ∀ k, y.ownBlock = some k → k < w'.heap.size ∧ some k ≠ v'.ownBlock := fun y K a b =>
    ⟨sr_grown a hg (fun k e => (b k e).2), fun k e => ⟨Nat.lt_of_lt_of_le (b k e).1 (by have := hg.size; simp at this; omega), fun e2 => by
      rcases hn with q | q
      · exact (b k e).2 (e2.trans q)
      · rw [q] at e2; injection e2 with e2; have := (b k e).1; simp at e2; omega⟩⟩
  rcases Nat.lt_trichotomy j Ls.length with q | q | q
  · rw [List.getElem?_append_left q] at hj
    rw [List.getElem?_append_left (by rw [h.len]; exact q)] at hx
    obtain ⟨a, b⟩ := h.at_ j M x hj hx
    exact key x M a b
  · subst q
    rw [List.getElem?_append_right (Nat.le_refl _), Nat.sub_self] at hj
    rw [List.getElem?_append_right (by rw [h.len]; exact Nat.le_refl _), ← h.len, Nat.sub_self] at hx
    simp only [List.getElem?_cons_zero, Option.some.injEq] at hj hx
    subst hj hx
    exact key u L hu hlt
  · have := (List.getElem?_eq_some_iff.1 hj).1
    simp at this
    omega
/-- all of them together -/
noncomputable def allL (Ls : List (List HI)) : List HI := Ls.foldl (fun W I => putAll [] (W ++ I)) []
theorem allL_next {Ls : List (List HI)} {j : Nat} {L : List HI} (h : Ls[j]? = some L) : allL (Ls.take (j + 1)) = putAll [] (allL (Ls.take j) ++ L) := by
  have hj := (List.getElem?_eq_some_iff.1 h).1
  rw [List.getElem?_eq_getElem hj] at h
  rw [List.take_succ_eq_append_getElem hj, Option.some.inj h, allL, List.foldl_append]
  rfl
/-- each is in order, and may be -/
def Fine (Ls : List (List HI)) : Prop := ∀ L ∈ Ls, Srt L ∧ AllM L
theorem fine_at {Ls : List (List HI)} (h : Fine Ls) {j : Nat} {L : List HI} (hj : Ls[j]? = some L) : Srt L ∧ AllM L := h L (List.mem_of_getElem? hj)
theorem fine_take {Ls : List (List HI)} (h : Fine Ls) (j : Nat) : Fine (Ls.take j) := fun L hL => h L (List.mem_of_mem_take hL)
theorem app_ok {A B : List HI} (hA : Srt A) (hB : Srt B) : ∀ x ∈ A ++ B, Ok x := fun h hh => by rcases List.mem_append.1 hh with q | q; exact hA.ok h q; exact hB.ok h q
theorem allL_fine : ∀ (n : Nat) {Ls : List (List HI)}, Ls.length = n → Fine Ls → Srt (allL Ls) ∧ AllM (allL Ls) ∧ ∀ L ∈ Ls, LE L (allL Ls)
  | 0, Ls, hn, h => by
    obtain rfl := List.eq_nil_of_length_eq_zero hn
    exact ⟨Srt.nil, (fun x hx => by cases hx), fun L hL => by cases hL⟩
  | n + 1, Ls, hn, h => by
    obtain ⟨L, hL⟩ : ∃ L, Ls[n]? = some L := ⟨_, List.getElem?_eq_getElem (by omega)⟩
    have e : Ls.take (n + 1) = Ls := by rw [← hn, List.take_length]
    have hx := allL_next hL
    rw [e] at hx
    obtain ⟨h1, h2, h3⟩ := allL_fine n (Ls := Ls.take n) (by rw [List.length_take]; omega) (fine_take h n)
    obtain ⟨l1, l2⟩ := fine_at h hL
    have hs : Srt (allL Ls) := by rw [hx]; exact srt_putAll Srt.nil (app_ok h1 l1)
    refine ⟨hs, by rw [hx]; exact allM_putAll (by intro x hx; cases hx), fun M hM => ?_⟩
    rw [← e, List.take_succ_eq_append_getElem (by omega), List.mem_append, List.mem_singleton] at hM
    rw [hx]
    rcases hM with q | q
    · exact (h3 M q).trans (le_merge_left h1 h2 l1)
    · rw [List.getElem?_eq_getElem (by omega)] at hL
      rw [q, Option.some.inj hL]
      exact le_merge_right h1 l1 l2
end Go.Proofs.Ytoonlhjldkkanaa
