/-
  disk: what a disk is in memory (its sectors that are sure, and the writings that are not), and what its small methods answer.
-/
import Derived.Test.YtlhjgpedmnjbpaaDisk
import Derived.Lib.SmallJoins
import Derived.Lib.OwnKind
import Derived.RangeFuncBox
namespace Go.Proofs.Ytlhjgpedmnjbpaa
open Go.RowKit
set_option linter.unusedVariables false
set_option linter.unusedSimpArgs false

/-- texts as cells -/
def sCells (l : List ByteArray) : List Value := l.map Value.string
/-- writings as cells -/
def wCells : List (Nat × ByteArray) → List Value
  | [] => []
  | x :: l => .int .i64 x.1 :: .string x.2 :: wCells l
theorem sCells_length (l : List ByteArray) : (sCells l).length = l.length := by simp [sCells]
theorem wCells_length (l : List (Nat × ByteArray)) : (wCells l).length = l.length * 2 := by
  induction l with
  | nil => rfl
  | cons x l ih => simp [wCells, ih]; omega
theorem wCells_append (l m : List (Nat × ByteArray)) : wCells (l ++ m) = wCells l ++ wCells m := by
  induction l with
  | nil => rfl
  | cons x l ih => simp [wCells, ih]
theorem wCells_at (l : List (Nat × ByteArray)) (j : Nat) (x : Nat × ByteArray) (h : l[j]? = some x) : (wCells l)[j * 2]? = some (.int .i64 x.1) ∧ (wCells l)[j * 2 + 1]? = some (.string x.2) := by
  induction l generalizing j with
  | nil => simp at h
  | cons y l ih =>
    cases j with
    | zero => simp at h; subst h; exact ⟨rfl, rfl⟩
    | succ j =>
      have := ih j (by simpa using h)
      rw [show (j + 1) * 2 = j * 2 + 1 + 1 by omega, show j * 2 + 1 + 1 + 1 = (j * 2 + 1) + 1 + 1 by omega]
      simpa [wCells] using this
theorem sCells_at (l : List ByteArray) (j : Nat) (x : ByteArray) (h : l[j]? = some x) : (sCells l)[j]? = some (.string x) := by simp [sCells, h]
theorem sCells_set (l : List ByteArray) (j : Nat) (x : ByteArray) : (sCells l).set j (.string x) = sCells (l.set j x) := by simp [sCells, List.map_set]

/-- a disk at block p: its sectors, and the writings that are not sure; all that is its own lies from N on -/
structure Dsk (w : World) (N p : Nat) (sv lv : Value) (S : List ByteArray) (L : List (Nat × ByteArray)) : Prop where
  hp : N ≤ p
  obj : w.heap[p]? = some (.cells #[sv, lv] 187)
  sure : w.ownsRow N 9 1 sv S.length (sCells S)
  later : w.ownsRow N 189 2 lv L.length (wCells L)
  sizes : ∀ s ∈ S, s.size = 64
  ats : ∀ x ∈ L, x.1 < S.length ∧ x.2.size = 64
  most : S.length ≤ 4096
/-- what a change of a disk leaves -/
structure DKept (w w' : World) (N p : Nat) (sv lv lv' : Value) : Prop where
  below : Below N w w'
  block : ∀ k, k < w.heap.size → k ≠ p → some k ≠ sv.ownBlock → some k ≠ lv.ownBlock → w'.heap[k]? = w.heap[k]?
  new : lv'.ownBlock = lv.ownBlock ∨ ∀ k, lv'.ownBlock = some k → w.heap.size ≤ k
theorem DKept.refl (w : World) (N p : Nat) (sv lv : Value) : DKept w w N p sv lv lv := ⟨Below.refl _ _, fun _ _ _ _ _ => rfl, .inl rfl⟩
theorem DKept.trans {a b c : World} {N p : Nat} {sv l1 l2 l3 : Value} (h : DKept a b N p sv l1 l2) (g : DKept b c N p sv l2 l3) : DKept a c N p sv l1 l3 := by
  refine ⟨h.below.trans g.below, fun k hk hp hs hl => ?_, ?_⟩
  · refine (g.block k (Nat.lt_of_lt_of_le hk h.below.size) hp hs fun e => ?_).trans (h.block k hk hp hs hl)
    rcases h.new with hn | hn
    · exact hl (e.trans hn)
    · exact absurd (hn k e.symm) (by omega)
  · rcases g.new with hn | hn
    · rcases h.new with hm | hm
      · exact .inl (hn.trans hm)
      · exact .inr fun k e => hm k (hn.symm.trans e)
    · exact .inr fun k e => Nat.le_trans h.below.size (hn k e)
theorem DKept.of_below {w w' : World} {N p : Nat} {sv lv : Value} (hN : N ≤ w.heap.size) (h : Below w.heap.size w w') : DKept w w' N p sv lv lv := ⟨h.mono hN, fun k hk _ _ _ => h.block k hk, .inl rfl⟩
theorem Dsk.lt {w : World} {N p : Nat} {sv lv : Value} {S : List ByteArray} {L : List (Nat × ByteArray)} (h : Dsk w N p sv lv S L) : p < w.heap.size := lt_heap h.obj
theorem Dsk.le {w : World} {N p : Nat} {sv lv : Value} {S : List ByteArray} {L : List (Nat × ByteArray)} (h : Dsk w N p sv lv S L) : N ≤ w.heap.size := Nat.le_trans h.hp (Nat.le_of_lt h.lt)
theorem Dsk.below {w w' : World} {N p : Nat} {sv lv : Value} {S : List ByteArray} {L : List (Nat × ByteArray)} (h : Dsk w N p sv lv S L) (hb : Below w.heap.size w w') : Dsk w' N p sv lv S L :=
  ⟨h.hp, (hb.block p h.lt).trans h.obj, owns_below h.sure hb, owns_below h.later hb, h.sizes, h.ats, h.most⟩
theorem Dsk.drewN {w : World} {N p : Nat} {sv lv : Value} {S : List ByteArray} {L : List (Nat × ByteArray)} (h : Dsk w N p sv lv S L) (n : Nat) : Dsk (w.drewN n) N p sv lv S L := ⟨h.hp, h.obj, h.sure, h.later, h.sizes, h.ats, h.most⟩
theorem Dsk.cell0 {w : World} {N p : Nat} {sv lv : Value} {S : List ByteArray} {L : List (Nat × ByteArray)} (h : Dsk w N p sv lv S L) : w.cell? ⟨p, 0, none⟩ = some sv := by simp [World.cell?, h.obj]
theorem Dsk.cell1 {w : World} {N p : Nat} {sv lv : Value} {S : List ByteArray} {L : List (Nat × ByteArray)} (h : Dsk w N p sv lv S L) : w.cell? ⟨p, 1, none⟩ = some lv := by simp [World.cell?, h.obj]
theorem Dsk.frozen {w : World} {N p : Nat} {sv lv : Value} {S : List ByteArray} {L : List (Nat × ByteArray)} (h : Dsk w N p sv lv S L) (o : Nat) : w.frozen? ⟨p, o, none⟩ = false := by simp [World.frozen?, h.obj]
/-- a row's block is no other type's -/
theorem row_other {w : World} {B b : Nat} {e t : TypeId} {size n : Nat} {v : Value} {xs : List Value} {c : Array Value} {z : Nat × Nat} (h : w.ownsRow B e size v n xs) (hb : w.heap[b]? = some (.cells c t z)) (hte : t ≠ e) : v.ownBlock ≠ some b := by
  intro he
  obtain ⟨c', fz, hc⟩ := Lib.ownsRow_kind h b he
  rw [hc] at hb
  injection hb with hb
  injection hb with _ h2
  exact hte h2.symm
theorem rows_apart {w : World} {B B' : Nat} {e e' : TypeId} {size size' n n' : Nat} {v v' : Value} {xs xs' : List Value} (h : w.ownsRow B e size v n xs) (h' : w.ownsRow B' e' size' v' n' xs') (hte : e ≠ e') (k : Nat) (hk : v.ownBlock = some k) : v'.ownBlock ≠ some k := by
  obtain ⟨c, fz, hc⟩ := Lib.ownsRow_kind h k hk
  exact row_other h' hc hte
/-- the row of what is sure -/
theorem Dsk.sform {w : World} {N p : Nat} {sv lv : Value} {S : List ByteArray} {L : List (Nat × ByteArray)} (h : Dsk w N p sv lv S L) (h0 : 0 < S.length) :
    ∃ g cap, sv = .slice (some ⟨g, 0, none⟩) S.length cap ∧ S.length ≤ cap ∧ cap ≤ maxLen ∧ ∀ j x, S[j]? = some x → w.cell? ⟨g, j, none⟩ = some (.string x) := by
  obtain ⟨g, cap, rfl⟩ := Joins.ownsRow_form h.sure h0
  have hs := h.sure
  rcases hs.2 with ⟨h', _⟩ | ⟨g', cap', cur, h', _, hg, h1, h2, _⟩
  · simp at h'
  · simp only [Value.slice.injEq, Option.some.injEq, Addr.mk.injEq, and_true, true_and] at h'
    obtain ⟨rfl, rfl⟩ := h'
    refine ⟨g, cap, rfl, h1, h2, fun j x hj => ?_⟩
    have hlt : j < S.length := (List.getElem?_eq_some_iff.1 hj).1
    rw [hs.cellAt j (by omega)]
    exact sCells_at _ _ _ hj
/-- the row of what is not -/
theorem Dsk.lform {w : World} {N p : Nat} {sv lv : Value} {S : List ByteArray} {L : List (Nat × ByteArray)} (h : Dsk w N p sv lv S L) :
    ∃ a cap, lv = .slice a L.length cap ∧ L.length ≤ cap ∧ cap ≤ maxLen ∧ ∀ j x, L[j]? = some x → ∃ g, a = some ⟨g, 0, none⟩ ∧ w.cell? ⟨g, j * 2, none⟩ = some (.int .i64 x.1) ∧ w.cell? ⟨g, j * 2 + 1, none⟩ = some (.string x.2) := by
  have hs := h.later
  rcases hs.2 with ⟨rfl, h'⟩ | ⟨g, cap, cur, rfl, _, hg, h1, h2, _⟩
  · refine ⟨none, 0, by rw [h'], by omega, by unfold maxLen; omega, fun j x hj => ?_⟩
    have hlt : j < L.length := (List.getElem?_eq_some_iff.1 hj).1
    omega
  · refine ⟨_, cap, rfl, h1, h2, fun j x hj => ⟨g, rfl, ?_⟩⟩
    have hlt : j < L.length := (List.getElem?_eq_some_iff.1 hj).1
    rw [hs.cellAt (j * 2) (by omega), hs.cellAt (j * 2 + 1) (by omega)]
    exact wCells_at _ _ _ hj

theorem dsectors (w : World) (N p : Nat) (sv lv : Value) (S : List ByteArray) (L : List (Nat × ByteArray)) (h : Dsk w N p sv lv S L) : Calls Try.prog 126 #[.pointer (some ⟨p, 0, none⟩)] w fun e w' => e = .returned (.int .i64 S.length) ∧ w = w' := by
  have hc := h.cell0
  have hm := h.most
  obtain ⟨a, cap, rfl⟩ : ∃ a cap, sv = .slice a S.length cap := by
    rcases h.sure.2 with ⟨rfl, h'⟩ | ⟨g, cap, cur, rfl, _⟩
    · exact ⟨none, 0, by rw [h']⟩
    · exact ⟨_, _, rfl⟩
  go_enter Try.func126, Try.ntmps126
  go_wp2_with fail
  go_ret
  exact ⟨rfl, rfl⟩
theorem dhas (n : Int) (w : World) (N p : Nat) (sv lv : Value) (S : List ByteArray) (L : List (Nat × ByteArray)) (h : Dsk w N p sv lv S L) : Calls Try.prog 122 #[.pointer (some ⟨p, 0, none⟩), .int .i64 n] w fun e w' => e = .returned (.bool (decide (0 ≤ n ∧ n < S.length))) ∧ w = w' := by
  have c := dsectors w N p sv lv S L h
  by_cases h1 : 0 ≤ n
  · have h2 : ¬ n < 0 := by omega
    go_enter Try.func122, Try.ntmps122
    go_wp2_with fail
    refine Calls.mono c ?_
    rintro e w2 ⟨rfl, rfl⟩
    go_wp2_with fail
    go_ret
    exact ⟨by first | rfl | exact ret_bool (by simp [h1]), rfl⟩
  · have h2 : n < 0 := by omega
    go_enter Try.func122, Try.ntmps122
    go_wp2_with fail
    go_ret
    exact ⟨by first | rfl | exact ret_bool (by simp; omega), rfl⟩
theorem dnoughts (n : Nat) (w : World) (hn : n ≤ 140737488355328) : Calls Try.prog 123 #[.int .i64 n] w fun e w' => e = .returned (.string (zeroL n)) ∧ Below w.heap.size w w' := by
  go_enter Try.func123, Try.ntmps123
  go_wp2_with fail
  refine Calls.mono (repeat0 n _ hn) ?_
  rintro e w2 ⟨rfl, h2⟩
  go_wp2_with fail
  go_ret
  exact ⟨rfl, h2⟩
theorem dback (p : Nat) (w : World) : Calls Try.prog 128 #[.pointer (some ⟨p, 0, none⟩)] w fun e w' => e = .returned (.func (.func 151) #[] #[.pointer (some ⟨w.heap.size, 0, none⟩)]) ∧ w' = w.alloc (.cells #[.pointer (some ⟨p, 0, none⟩)] 120) := by
  go_enter Try.func128, Try.ntmps128
  go_wp2_with fail
  go_ret
  exact ⟨rfl, rfl⟩
end Go.Proofs.Ytlhjgpedmnjbpaa
