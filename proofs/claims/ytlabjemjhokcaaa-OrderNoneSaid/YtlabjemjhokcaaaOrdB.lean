/-
  What the methods of an order answer, of one that is there and of none.
-/
import Derived.Test.YtlabjemjhokcaaaOrd
import Derived.WalkSpells
import Derived.WalkLawsBesides
import Derived.BigQuiet
import Derived.BigRegion
import Derived.Deep.QuietTactic
import Derived.Deep.RegionWith
import Derived.Deep.RegionHeld3
import Derived.StillTailTactics
import Derived.Deep.DeepCutAuto
import Derived.Handy
namespace Go.Proofs.Ytlabjemjhokcaaa
open Go.RowKit
set_option linter.unusedVariables false
set_option linter.unusedSimpArgs false

theorem oawk (n : Int) (w : World) : Calls Try.prog 35 #[.pointer none, .int .i64 n] w fun e w' => e = .returned (.tuple #[]) ∧ w = w' := by
  go_enter Try.func35, Try.ntmps35
  go_wp2
  go_returns
  exact ⟨rfl, rfl⟩
theorem olen0 (w : World) : Calls Try.prog 37 #[.pointer none] w fun e w' => e = .returned (.int .i64 0) ∧ w = w' := by
  go_enter Try.func37, Try.ntmps37
  go_wp2
  go_ret
  exact ⟨rfl, rfl⟩
theorem oall0 (w : World) : Calls Try.prog 36 #[.pointer none] w fun e w' => e = .returned (.slice none 0 0) ∧ w = w' := by
  go_enter Try.func36, Try.ntmps36
  go_wp2
  go_ret
  exact ⟨rfl, rfl⟩
theorem ohas0 (n : Int) (w : World) : Calls Try.prog 38 #[.pointer none, .int .i64 n] w fun e w' => e = .returned (.bool false) ∧ w = w' := by
  go_enter Try.func38, Try.ntmps38
  go_wp2
  go_ret
  exact ⟨rfl, rfl⟩
theorem odrop0 (n : Int) (w : World) : Calls Try.prog 33 #[.pointer none, .int .i64 n] w fun e w' => e = .returned (.bool false) ∧ w = w' := by
  go_enter Try.func33, Try.ntmps33
  go_wp2_with fail
  refine Calls.mono (ohas0 n _) ?_
  rintro e w1 ⟨rfl, rfl⟩
  go_wp2_with fail
  go_ret
  exact ⟨rfl, rfl⟩
theorem opop0 (w : World) : Calls Try.prog 34 #[.pointer none] w fun e w' => e = .returned (.tuple #[.int .i64 0, .bool false]) ∧ w = w' := by
  go_enter Try.func34, Try.ntmps34
  go_wp2_with fail
  refine Calls.mono (olen0 _) ?_
  rintro e w1 ⟨rfl, rfl⟩
  go_wp2_with fail
  go_returns
  exact ⟨rfl, rfl⟩

/-- an order at block p has these numbers; all that is its own lies from N on -/
def Ord (w : World) (N p : Nat) (v : Value) (l : List Int) : Prop := N ≤ p ∧ w.heap[p]? = some (.cells #[v] 51) ∧ RowAt w N v l
/-- what a change of an order leaves -/
structure OKept (w w' : World) (N p : Nat) (v v' : Value) : Prop where
  below : Below N w w'
  size : w.heap.size ≤ w'.heap.size
  block : ∀ k, k < w.heap.size → k ≠ p → some k ≠ v.ownBlock → w'.heap[k]? = w.heap[k]?
  new : NewRow w v v'
theorem OKept.refl (w : World) (N p : Nat) (v : Value) : OKept w w N p v v := ⟨Below.refl _ _, Nat.le_refl _, fun _ _ _ _ => rfl, .inl rfl⟩
theorem OKept.trans {a b c : World} {N p : Nat} {u v x : Value} (h : OKept a b N p u v) (g : OKept b c N p v x) : OKept a c N p u x := by
  refine ⟨h.below.trans g.below, Nat.le_trans h.size g.size, fun k hk hp hu => ?_, ?_⟩
  · refine (g.block k (Nat.lt_of_lt_of_le hk h.size) hp fun e => ?_).trans (h.block k hk hp hu)
    rcases h.new with hn | hn
    · exact hu (e.trans hn)
    · exact absurd (hn k e.symm) (by omega)
  · rcases g.new with hn | hn
    · rcases h.new with hm | hm
      · exact .inl (hn.trans hm)
      · exact .inr fun k e => hm k (hn.symm.trans e)
    · exact .inr fun k e => Nat.le_trans h.size (hn k e)
theorem RowAt.form {w : World} {N : Nat} {v : Value} {l : List Int} (h : RowAt w N v l) : ∃ a c, v = .slice a l.length c ∧ l.length ≤ c ∧ c ≤ maxLen := by
  rcases h with ⟨rfl, rfl⟩ | ⟨g, cap, f, rfl, hg, hrow, hlc, hcm, hf⟩
  · exact ⟨none, 0, rfl, Nat.le_refl _, Nat.zero_le _⟩
  · exact ⟨_, cap, rfl, hlc, hcm⟩
theorem RowAt.kept {w w' : World} {N : Nat} {v : Value} {l : List Int} (h : RowAt w N v l) (hk : ∀ g, v.ownBlock = some g → w'.heap[g]? = w.heap[g]?) : RowAt w' N v l := by
  rcases h with h | ⟨g, cap, f, rfl, hg, hrow, h⟩
  · exact .inl h
  · exact .inr ⟨g, cap, f, rfl, hg, hrow.of_block (hk g rfl), h⟩
/-- a row's block is no order's -/
theorem RowAt.other {w : World} {N p : Nat} {v u : Value} {l : List Int} (h : RowAt w N v l) (hp : w.heap[p]? = some (.cells #[u] 51)) : v.ownBlock ≠ some p := by
  rcases h with ⟨rfl, rfl⟩ | ⟨g, cap, f, rfl, hg, ⟨c, hc, _⟩, _⟩
  · exact fun e => by cases e
  · intro e
    injection e with e
    simp only at e
    subst e
    rw [hc] at hp
    injection hp with hp
    injection hp with _ h2
    exact absurd h2 (by decide)
theorem RowAt.from {w : World} {N : Nat} {v : Value} {l : List Int} (h : RowAt w N v l) : ∀ k, v.ownBlock = some k → N ≤ k := by
  rcases h with ⟨rfl, rfl⟩ | ⟨g, cap, f, rfl, hg, _⟩
  · exact fun k e => by cases e
  · intro k e
    cases e
    exact hg
theorem obj_cell {w : World} {p : Nat} {v : Value} {t : TypeId} (h : w.heap[p]? = some (.cells #[v] t)) : w.cell? ⟨p, 0, none⟩ = some v := by simp [World.cell?, h]
theorem obj_frozen {w : World} {p : Nat} {v : Value} {t : TypeId} (h : w.heap[p]? = some (.cells #[v] t)) (o : Nat) : w.frozen? ⟨p, o, none⟩ = false := by simp [World.frozen?, h]
theorem obj_lt {w : World} {p : Nat} {o : Obj} (h : w.heap[p]? = some o) : p < w.heap.size := by
  rcases Nat.lt_or_ge p w.heap.size with h1 | h1
  · exact h1
  · rw [Array.getElem?_eq_none h1] at h; cases h
theorem Ord.below {w w' : World} {N p : Nat} {v : Value} {l : List Int} (h : Ord w N p v l) (hb : Below w.heap.size w w') : Ord w' N p v l := by
  obtain ⟨hN, hp, hr⟩ := h
  refine ⟨hN, (hb.block p (obj_lt hp)).trans hp, hr.kept fun g hg => hb.block g ?_⟩
  rcases hr with ⟨rfl, rfl⟩ | ⟨g', cap, f, rfl, _, hrow, _⟩
  · cases hg
  · cases hg
    exact hrow.lt

theorem ohas (l : List Int) (n : Int) (w : World) (N p : Nat) (v : Value) (h : Ord w N p v l) : Calls Try.prog 38 #[.pointer (some ⟨p, 0, none⟩), .int .i64 n] w fun e w' => e = .returned (.bool (l.contains n)) ∧ w = w' := by
  obtain ⟨hN, hp, hr⟩ := h
  have hc := obj_cell hp
  have ch : ∀ m, Calls Try.prog 62 #[v, .int .i64 n] (w.drewN m) fun e w' => e = .returned (.bool (l.contains n)) ∧ w.drewN m = w' := fun m => cont_any l n (w.drewN m) N v (hr.kept fun _ _ => rfl)
  go_enter Try.func38, Try.ntmps38
  go_wp2_with fail
  refine Calls.mono (cont_any l n _ N v hr) ?_
  rintro e w1 ⟨rfl, rfl⟩
  go_wp2_with fail
  all_goals go_ret
  all_goals simp_all
theorem olen (l : List Int) (w : World) (N p : Nat) (v : Value) (h : Ord w N p v l) : Calls Try.prog 37 #[.pointer (some ⟨p, 0, none⟩)] w fun e w' => e = .returned (.int .i64 l.length) ∧ w = w' := by
  obtain ⟨hN, hp, hr⟩ := h
  have hc := obj_cell hp
  obtain ⟨a, c, rfl, _, _⟩ := hr.form
  go_enter Try.func37, Try.ntmps37
  go_wp2
  go_ret
  exact ⟨rfl, rfl⟩
theorem idx_mem (l : List Int) (n : Int) (h : n ∈ l) : Lib.idxOf l n = ((l.idxOf n : Nat) : Int) := by
  have hlt : l.idxOf n < l.length := List.idxOf_lt_length_of_mem h
  have := Lib.idxOf_hit l l.length (l.idxOf n) n hlt (Nat.le_refl _) (by rw [List.getD_eq_getElem?_getD, List.getElem?_eq_getElem hlt]; simp) (by
    intro j hj e
    have hj2 : j < l.length := by omega
    rw [List.getD_eq_getElem?_getD, List.getElem?_eq_getElem hj2] at e
    simp only [Option.getD_some] at e
    have h3 := List.not_of_lt_findIdx (p := fun y => y == n) (xs := l) (i := j) hj
    simp [e] at h3)
  rw [List.take_length] at this
  exact this
theorem put_ord {w w1 : World} {N p : Nat} {v v' : Value} {l m : List Int} (hN : N ≤ p) (hp : w.heap[p]? = some (.cells #[v] 51)) (hr : RowAt w N v l) (hg : w.grownBy w1 v.ownBlock) (hr1 : RowAt w1 N v' m) (hn : NewRow w v v') :
    Ord (w1.setCell ⟨p, 0, none⟩ v') N p v' m ∧ OKept w (w1.setCell ⟨p, 0, none⟩ v') N p v v' := by
  have hp1 : w1.heap[p]? = some (.cells #[v] 51) := (hg.block p (obj_lt hp) (fun e => hr.other hp e.symm)).trans hp
  refine ⟨⟨hN, ?_, hr1.kept fun g hg' => heap_setCell_other _ _ _ _ (fun e => hr1.other hp1 (by rw [hg', e]))⟩, ?_⟩
  · rw [heap_setCell_same _ _ _ _ _ _ hp1]
    rfl
  · have hb : Below N w w1 := (Below.refl N w).grown hg (Nat.le_trans hN (Nat.le_of_lt (obj_lt hp))) hr.from
    have hb2 := below_setCells hN [v'] 0 w1 hb
    refine ⟨hb2, hb2.size, fun k hk hkp hu => ?_, hn⟩
    rw [heap_setCell_other _ _ _ _ hkp]
    exact hg.block k hk hu

set_option maxHeartbeats 1600000 in
theorem odrop (l : List Int) (n : Int) (w : World) (N p : Nat) (v : Value) (h : Ord w N p v l) (hl : l.length ≤ 1000000) : Calls Try.prog 33 #[.pointer (some ⟨p, 0, none⟩), .int .i64 n] w fun e w' => e = .returned (.bool (l.contains n)) ∧ ∃ v', Ord w' N p v' (l.erase n) ∧ OKept w w' N p v v' := by
  have hO := h
  obtain ⟨hN, hp, hr⟩ := h
  have hc := obj_cell hp
  by_cases hm : n ∈ l
  · have hi : l.idxOf n < l.length := List.idxOf_lt_length_of_mem hm
    go_enter Try.func33, Try.ntmps33
    go_wp2_with fail
    refine Calls.mono (ohas l n _ N p v hO) ?_
    rintro e w1 ⟨rfl, rfl⟩
    simp only [List.contains_iff_mem, hm, decide_true, List.contains_eq_mem]
    go_wp2_with fail
    refine Calls.mono (index_any l n _ N v hr) ?_
    rintro e w1 ⟨rfl, rfl⟩
    rw [idx_mem l n hm]
    go_wp2_with fail
    refine Calls.mono (del_any l (l.idxOf n) _ N v hr hi) ?_
    rintro e w1 ⟨v', rfl, hr1, hg, hnr⟩
    have hp1 : w1.heap[p]? = some (.cells #[v] 51) := (hg.block p (obj_lt hp) (fun e => hr.other hp e.symm)).trans hp
    have hc1 := obj_cell hp1
    have hf1 := obj_frozen hp1 0
    have hput := put_ord hN hp hr hg hr1 hnr
    obtain ⟨a, c, rfl, _, _⟩ := hr1.form
    go_wp2_with fail
    go_ret
    exact ⟨by simp [hm], _, by rw [List.erase_eq_eraseIdx_of_idxOf rfl]; exact hput.1, hput.2⟩
  · go_enter Try.func33, Try.ntmps33
    go_wp2_with fail
    refine Calls.mono (ohas l n _ N p v hO) ?_
    rintro e w1 ⟨rfl, rfl⟩
    simp only [List.contains_eq_mem, hm, decide_false]
    go_wp2_with fail
    go_ret
    exact ⟨by simp [hm], v, by rw [List.erase_of_not_mem hm]; exact hO, OKept.refl _ _ _ _⟩
end Go.Proofs.Ytlabjemjhokcaaa
