/-
  Use and Pop of an order; OrderNone.
-/
import Derived.Test.YtlabjemjhokcaaaOrdB
namespace Go.Proofs.Ytlabjemjhokcaaa
open Go.RowKit
set_option linter.unusedVariables false
set_option linter.unusedSimpArgs false

theorem RowAt.lt {w : World} {N : Nat} {v : Value} {l : List Int} (h : RowAt w N v l) : ∀ k, v.ownBlock = some k → k < w.heap.size := by
  rcases h with ⟨rfl, rfl⟩ | ⟨g, cap, f, rfl, hg, hrow, _⟩
  · exact fun k e => by cases e
  · intro k e
    cases e
    exact hrow.lt
theorem RowAt.alloc {w : World} {N : Nat} {v : Value} {l : List Int} (h : RowAt w N v l) (o : Obj) : RowAt (w.alloc o) N v l :=
  h.kept fun g hg => (World.grownBy_alloc w o none).block g (h.lt g hg) (by simp)
theorem heap_alloc_old {w : World} {p : Nat} {o' : Obj} (h : w.heap[p]? = some o') (o : Obj) : (w.alloc o).heap[p]? = some o' := ((World.grownBy_alloc w o none).block p (obj_lt h) (by simp)).trans h
theorem below_alloc (w : World) (o : Obj) (N : Nat) (hN : N ≤ w.heap.size) : Below N w (w.alloc o) := (Below.refl N w).alloc hN _

theorem okept_alloc (w : World) (o : Obj) (N p : Nat) (v : Value) (hN : N ≤ w.heap.size) : OKept w (w.alloc o) N p v v := ⟨below_alloc w o N hN, (World.grownBy_alloc w o none).size, fun k hk _ _ => (World.grownBy_alloc w o none).block k hk (by simp), .inl rfl⟩
set_option maxHeartbeats 1600000 in
theorem ouse (l : List Int) (n : Int) (w : World) (N p : Nat) (v : Value) (h : Ord w N p v l) (hl : l.length ≤ 1000000) : Calls Try.prog 35 #[.pointer (some ⟨p, 0, none⟩), .int .i64 n] w fun e w' => e = .returned (.tuple #[]) ∧ ∃ v', Ord w' N p v' (n :: l.erase n) ∧ OKept w w' N p v v' := by
  go_enter Try.func35, Try.ntmps35
  go_wp2_with fail
  refine Calls.mono (odrop l n _ N p v h hl) ?_
  rintro e w1 ⟨rfl, v1, ⟨hN, hp, hr⟩, hb⟩
  have hc := obj_cell hp
  have hlen : (l.erase n).length ≤ 1000000 := Nat.le_trans (List.length_erase_le) hl
  have hNs : N ≤ w1.heap.size := Nat.le_trans hN (Nat.le_of_lt (obj_lt hp))
  go_wp2_with fail
  refine Calls.mono (ins_any (l.erase n) n (w1.alloc (.cells #[.int .i64 n] 3)) N w1.heap.size v1 (hr.alloc _) (World.rowIs_alloc w1 #[Value.int .i64 n] 3 (fun _ => .int .i64 n) (by intro i hi; simp at hi; subst hi; rfl))
    (fun e => Nat.lt_irrefl _ (hr.lt _ e.symm)) hlen (Nat.le_trans hNs (World.grownBy_alloc w1 _ none).size)) ?_
  rintro e w2 ⟨v', rfl, hr2, hg2, hnr⟩
  have hpA := heap_alloc_old hp (.cells #[.int .i64 n] 3)
  have hrA := hr.alloc (.cells #[.int .i64 n] 3)
  have hput := put_ord hN hpA hrA hg2 hr2 hnr
  have hp2 : w2.heap[p]? = some (.cells #[v1] 51) := (hg2.block p (obj_lt hpA) (fun e => hrA.other hpA e.symm)).trans hpA
  have hc2 := obj_cell hp2
  have hf2 := obj_frozen hp2 0
  obtain ⟨a, c, rfl, _, _⟩ := hr2.form
  go_wp2_with fail
  go_returns
  exact ⟨rfl, _, hput.1, (hb.trans (okept_alloc w1 _ N p v1 hNs)).trans hput.2⟩

set_option maxHeartbeats 1600000 in
theorem opop (l : List Int) (x : Int) (w : World) (N p : Nat) (v : Value) (h : Ord w N p v (l ++ [x])) (hl : l.length ≤ 1000000) : Calls Try.prog 34 #[.pointer (some ⟨p, 0, none⟩)] w fun e w' => e = .returned (.tuple #[.int .i64 x, .bool true]) ∧ ∃ v', Ord w' N p v' l ∧ OKept w w' N p v v' := by
  have hO := h
  obtain ⟨hN, hp, hr⟩ := h
  have hc := obj_cell hp
  have hf := obj_frozen hp 0
  have hr0 := hr
  rcases hr with ⟨rfl, he⟩ | ⟨g, cap, f, rfl, hg, hrow, hlc, hcm, hff⟩
  · simp at he
  · have hlen : (l ++ [x]).length = l.length + 1 := by simp
    have hx := hrow.cell (i := l.length) (by omega)
    rw [hff l.length (by omega)] at hx
    simp only [List.getD_eq_getElem?_getD, List.getElem?_append_right (Nat.le_refl _), Nat.sub_self, List.getElem?_cons_zero, Option.getD_some] at hx
    have hr1 : RowAt w N (.slice (some ⟨g, 0, none⟩) l.length cap) l := .inr ⟨g, cap, f, rfl, hg, hrow, by omega, hcm, fun j hj => by
      rw [hff j (by omega), List.getD_eq_getElem?_getD, List.getElem?_append_left hj, ← List.getD_eq_getElem?_getD]⟩
    have hput := put_ord hN hp hr0 (World.grownBy.refl w _) hr1 (.inl rfl)
    have hol := olen (l ++ [x]) w N p _ hO
    rw [hlen] at hol hc hlc
    clear hff hrow hr0 hO
    have hcap : (cap : Int) ≤ 9223372036854775807 := by unfold maxLen at hcm; omega
    go_enter Try.func34, Try.ntmps34
    go_wp2_with fail
    refine Calls.mono hol ?_
    rintro e w1 ⟨rfl, rfl⟩
    go_wp2_with fail
    all_goals go_returns
    all_goals exact ⟨rfl, _, hput.1, hput.2⟩

set_option maxHeartbeats 1600000 in
theorem oawake (w : World) : Calls Try.prog 39 #[] w fun e w' => e = .returned (.bool true) ∧ Below w.heap.size w w' := by
  go_enter Try.func39, Try.ntmps39
  go_wp2_with fail
  have hO : Ord (w.alloc (.cells #[.slice none 0 0] 51)) w.heap.size w.heap.size (.slice none 0 0) [] := ⟨Nat.le_refl _, heap_alloc_self _ _, .inl ⟨rfl, rfl⟩⟩
  have hb0 := below_alloc w (.cells #[.slice none 0 0] 51) _ (Nat.le_refl _)
  refine Calls.mono (ouse [] 1 _ _ _ _ hO (by decide)) ?_
  rintro e w1 ⟨rfl, v1, hO1, hb1⟩
  go_wp2_with fail
  refine Calls.mono (ouse _ 2 _ _ _ _ hO1 (by decide)) ?_
  rintro e w2 ⟨rfl, v2, hO2, hb2⟩
  go_wp2_with fail
  refine Calls.mono (opop [2] 1 _ _ _ _ hO2 (by decide)) ?_
  rintro e w3 ⟨rfl, v3, hO3, hb3⟩
  go_wp2_with fail
  refine Calls.mono (olen _ _ _ _ _ hO3) ?_
  rintro e w4 ⟨rfl, rfl⟩
  go_wp2_with fail
  go_returns
  exact ⟨rfl, ((hb0.trans hb1.below).trans hb2.below).trans hb3.below⟩

set_option maxHeartbeats 1600000 in
theorem onone_law (n : Int) (w : World) (_hn : (Lit.int .i64 n).wf = true) : Calls Try.prog 7 #[.int .i64 n] w fun e w' => e = .returned (.bool true) ∧ Below w.heap.size w w' := by
  go_enter Try.func7, Try.ntmps7
  go_wp2_with fail
  refine Calls.mono (oawk n _) ?_
  rintro e w1 ⟨rfl, rfl⟩
  go_wp2_with fail
  refine Calls.mono (opop0 _) ?_
  rintro e w1 ⟨rfl, rfl⟩
  go_wp2_with fail
  refine Calls.mono (oawake _) ?_
  rintro e w1 ⟨rfl, hb⟩
  go_wp2_with fail
  refine Calls.mono (ohas0 n _) ?_
  rintro e w2 ⟨rfl, rfl⟩
  go_wp2_with fail
  refine Calls.mono (olen0 _) ?_
  rintro e w2 ⟨rfl, rfl⟩
  go_wp2_with fail
  refine Calls.mono (odrop0 n _) ?_
  rintro e w2 ⟨rfl, rfl⟩
  go_wp2_with fail
  refine Calls.mono (oall0 _) ?_
  rintro e w2 ⟨rfl, rfl⟩
  go_wp2_with fail
  go_returns
  exact ⟨rfl, hb⟩
end Go.Proofs.Ytlabjemjhokcaaa
