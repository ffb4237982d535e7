/-
  Several texts, laid together.
-/
import Derived.Test.YtgnnijpfkgmomaaGreatDoorMh5
import Derived.Lib.SmallJoins
import Derived.Lib.OwnKind
import Derived.RangeFuncBox
import Derived.Laws.OwnMore
/-
  disk: what a disk is in memory (its sectors that are sure, and the writings that are not), and what its small methods answer.
-/




namespace Go.Proofs.YtgnnijpfkgmomaaGreatDoor
open Go.RowKit
set_option linter.unusedVariables false
set_option linter.unusedSimpArgs false

/-- texts as cells -/
def sCells (l : List ByteArray) : List Value := l.map Value.string
/-- writings as cells -/
def wCells : List (Nat × ByteArray) → List Value
  | [] => []
  | x :: l => .int .i64 x.1 :: .string x.2 :: wCells l
theorem sCells_length (l : List ByteArray) : (sCells l).length = l.length := by simp [sCells]
theorem wCells_length (l : List (Nat × ByteArray)) : (wCells l).length = l.length * 2 := by
  induction l with
  | nil => rfl
  | cons x l ih => simp [wCells, ih]; omega
theorem wCells_append (l m : List (Nat × ByteArray)) : wCells (l ++ m) = wCells l ++ wCells m := by
  induction l with
  | nil => rfl
  | cons x l ih => simp [wCells, ih]
theorem wCells_at (l : List (Nat × ByteArray)) (j : Nat) (x : Nat × ByteArray) (h : l[j]? = some x) : (wCells l)[j * 2]? = some (.int .i64 x.1) ∧ (wCells l)[j * 2 + 1]? = some (.string x.2) := by
  induction l generalizing j with
  | nil => simp at h
  | cons y l ih =>
    cases j with
    | zero => simp at h; subst h; exact ⟨rfl, rfl⟩
    | succ j =>
      have := ih j (by simpa using h)
      rw [show (j + 1) * 2 = j * 2 + 1 + 1 by omega, show j * 2 + 1 + 1 + 1 = (j * 2 + 1) + 1 + 1 by omega]
      simpa [wCells] using this
theorem sCells_at (l : List ByteArray) (j : Nat) (x : ByteArray) (h : l[j]? = some x) : (sCells l)[j]? = some (.string x) := by simp [sCells, h]
theorem sCells_set (l : List ByteArray) (j : Nat) (x : ByteArray) : (sCells l).set j (.string x) = sCells (l.set j x) := by simp [sCells, List.map_set]

/-- a disk at block p: its sectors, and the writings that are not sure; all that is its own lies from N on -/
structure Dsk (w : World) (N p : Nat) (sv lv : Value) (S : List ByteArray) (L : List (Nat × ByteArray)) : Prop where
  hp : N ≤ p
  obj : w.heap[p]? = some (.cells #[sv, lv] 58)
  sure : w.ownsRow N 9 1 sv S.length (sCells S)
  later : w.ownsRow N 117 2 lv L.length (wCells L)
  sizes : ∀ s ∈ S, s.size = 64
  ats : ∀ x ∈ L, x.1 < S.length ∧ x.2.size = 64
  most : S.length ≤ 4096
/-- what a change of a disk leaves -/
structure DKept (w w' : World) (N p : Nat) (sv lv lv' : Value) : Prop where
  below : Below N w w'
  block : ∀ k, k < w.heap.size → k ≠ p → some k ≠ sv.ownBlock → some k ≠ lv.ownBlock → w'.heap[k]? = w.heap[k]?
  new : lv'.ownBlock = lv.ownBlock ∨ ∀ k, lv'.ownBlock = some k → w.heap.size ≤ k
theorem DKept.refl (w : World) (N p : Nat) (sv lv : Value) : DKept w w N p sv lv lv := ⟨Below.refl _ _, fun _ _ _ _ _ => rfl, .inl rfl⟩
theorem DKept.trans {a b c : World} {N p : Nat} {sv l1 l2 l3 : Value} (h : DKept a b N p sv l1 l2) (g : DKept b c N p sv l2 l3) : DKept a c N p sv l1 l3 := by
  refine ⟨h.below.trans g.below, fun k hk hp hs hl => ?_, ?_⟩
  · refine (g.block k (Nat.lt_of_lt_of_le hk h.below.size) hp hs fun e => ?_).trans (h.block k hk hp hs hl)
    rcases h.new with hn | hn
    · exact hl (e.trans hn)
    · exact absurd (hn k e.symm) (by omega)
  · rcases g.new with hn | hn
    · rcases h.new with hm | hm
      · exact .inl (hn.trans hm)
      · exact .inr fun k e => hm k (hn.symm.trans e)
    · exact .inr fun k e => Nat.le_trans h.below.size (hn k e)
theorem DKept.of_below {w w' : World} {N p : Nat} {sv lv : Value} (hN : N ≤ w.heap.size) (h : Below w.heap.size w w') : DKept w w' N p sv lv lv := ⟨h.mono hN, fun k hk _ _ _ => h.block k hk, .inl rfl⟩
theorem Dsk.lt {w : World} {N p : Nat} {sv lv : Value} {S : List ByteArray} {L : List (Nat × ByteArray)} (h : Dsk w N p sv lv S L) : p < w.heap.size := lt_heap h.obj
theorem Dsk.le {w : World} {N p : Nat} {sv lv : Value} {S : List ByteArray} {L : List (Nat × ByteArray)} (h : Dsk w N p sv lv S L) : N ≤ w.heap.size := Nat.le_trans h.hp (Nat.le_of_lt h.lt)
theorem Dsk.below {w w' : World} {N p : Nat} {sv lv : Value} {S : List ByteArray} {L : List (Nat × ByteArray)} (h : Dsk w N p sv lv S L) (hb : Below w.heap.size w w') : Dsk w' N p sv lv S L :=
  ⟨h.hp, (hb.block p h.lt).trans h.obj, owns_below h.sure hb, owns_below h.later hb, h.sizes, h.ats, h.most⟩
theorem Dsk.drewN {w : World} {N p : Nat} {sv lv : Value} {S : List ByteArray} {L : List (Nat × ByteArray)} (h : Dsk w N p sv lv S L) (n : Nat) : Dsk (w.drewN n) N p sv lv S L := ⟨h.hp, h.obj, h.sure, h.later, h.sizes, h.ats, h.most⟩
theorem Dsk.cell0 {w : World} {N p : Nat} {sv lv : Value} {S : List ByteArray} {L : List (Nat × ByteArray)} (h : Dsk w N p sv lv S L) : w.cell? ⟨p, 0, none⟩ = some sv := by simp [World.cell?, h.obj]
theorem Dsk.cell1 {w : World} {N p : Nat} {sv lv : Value} {S : List ByteArray} {L : List (Nat × ByteArray)} (h : Dsk w N p sv lv S L) : w.cell? ⟨p, 1, none⟩ = some lv := by simp [World.cell?, h.obj]
theorem Dsk.frozen {w : World} {N p : Nat} {sv lv : Value} {S : List ByteArray} {L : List (Nat × ByteArray)} (h : Dsk w N p sv lv S L) (o : Nat) : w.frozen? ⟨p, o, none⟩ = false := by simp [World.frozen?, h.obj]
/-- a row's block is no other type's -/
theorem row_other {w : World} {B b : Nat} {e t : TypeId} {size n : Nat} {v : Value} {xs : List Value} {c : Array Value} {z : Nat × Nat} (h : w.ownsRow B e size v n xs) (hb : w.heap[b]? = some (.cells c t z)) (hte : t ≠ e) : v.ownBlock ≠ some b := by
  intro he
  obtain ⟨c', fz, hc⟩ := Lib.ownsRow_kind h b he
  rw [hc] at hb
  injection hb with hb
  injection hb with _ h2
  exact hte h2.symm
theorem rows_apart {w : World} {B B' : Nat} {e e' : TypeId} {size size' n n' : Nat} {v v' : Value} {xs xs' : List Value} (h : w.ownsRow B e size v n xs) (h' : w.ownsRow B' e' size' v' n' xs') (hte : e ≠ e') (k : Nat) (hk : v.ownBlock = some k) : v'.ownBlock ≠ some k := by
  obtain ⟨c, fz, hc⟩ := Lib.ownsRow_kind h k hk
  exact row_other h' hc hte
/-- the row of what is sure -/
theorem Dsk.sform {w : World} {N p : Nat} {sv lv : Value} {S : List ByteArray} {L : List (Nat × ByteArray)} (h : Dsk w N p sv lv S L) (h0 : 0 < S.length) :
    ∃ g cap, sv = .slice (some ⟨g, 0, none⟩) S.length cap ∧ S.length ≤ cap ∧ cap ≤ maxLen ∧ ∀ j x, S[j]? = some x → w.cell? ⟨g, j, none⟩ = some (.string x) := by
  obtain ⟨g, cap, rfl⟩ := Joins.ownsRow_form h.sure h0
  have hs := h.sure
  rcases hs.2 with ⟨h', _⟩ | ⟨g', cap', cur, h', _, hg, h1, h2, _⟩
  · simp at h'
  · simp only [Value.slice.injEq, Option.some.injEq, Addr.mk.injEq, and_true, true_and] at h'
    obtain ⟨rfl, rfl⟩ := h'
    refine ⟨g, cap, rfl, h1, h2, fun j x hj => ?_⟩
    have hlt : j < S.length := (List.getElem?_eq_some_iff.1 hj).1
    rw [hs.cellAt j (by omega)]
    exact sCells_at _ _ _ hj
/-- the row of what is not -/
theorem Dsk.lform {w : World} {N p : Nat} {sv lv : Value} {S : List ByteArray} {L : List (Nat × ByteArray)} (h : Dsk w N p sv lv S L) :
    ∃ a cap, lv = .slice a L.length cap ∧ L.length ≤ cap ∧ cap ≤ maxLen ∧ ∀ j x, L[j]? = some x → ∃ g, a = some ⟨g, 0, none⟩ ∧ w.cell? ⟨g, j * 2, none⟩ = some (.int .i64 x.1) ∧ w.cell? ⟨g, j * 2 + 1, none⟩ = some (.string x.2) := by
  have hs := h.later
  rcases hs.2 with ⟨rfl, h'⟩ | ⟨g, cap, cur, rfl, _, hg, h1, h2, _⟩
  · refine ⟨none, 0, by rw [h'], by omega, by unfold maxLen; omega, fun j x hj => ?_⟩
    have hlt : j < L.length := (List.getElem?_eq_some_iff.1 hj).1
    omega
  · refine ⟨_, cap, rfl, h1, h2, fun j x hj => ⟨g, rfl, ?_⟩⟩
    have hlt : j < L.length := (List.getElem?_eq_some_iff.1 hj).1
    rw [hs.cellAt (j * 2) (by omega), hs.cellAt (j * 2 + 1) (by omega)]
    exact wCells_at _ _ _ hj

theorem dsectors (w : World) (N p : Nat) (sv lv : Value) (S : List ByteArray) (L : List (Nat × ByteArray)) (h : Dsk w N p sv lv S L) : Calls Tryz.prog 24 #[.pointer (some ⟨p, 0, none⟩)] w fun e w' => e = .returned (.int .i64 S.length) ∧ w = w' := by
  have hc := h.cell0
  have hm := h.most
  obtain ⟨a, cap, rfl⟩ : ∃ a cap, sv = .slice a S.length cap := by
    rcases h.sure.2 with ⟨rfl, h'⟩ | ⟨g, cap, cur, rfl, _⟩
    · exact ⟨none, 0, by rw [h']⟩
    · exact ⟨_, _, rfl⟩
  go_enter Tryz.func24, Tryz.ntmps24
  go_wp2_with fail
  go_ret
  exact ⟨rfl, rfl⟩
theorem dhas (n : Int) (w : World) (N p : Nat) (sv lv : Value) (S : List ByteArray) (L : List (Nat × ByteArray)) (h : Dsk w N p sv lv S L) : Calls Tryz.prog 99 #[.pointer (some ⟨p, 0, none⟩), .int .i64 n] w fun e w' => e = .returned (.bool (decide (0 ≤ n ∧ n < S.length))) ∧ w = w' := by
  have c := dsectors w N p sv lv S L h
  by_cases h1 : 0 ≤ n
  · have h2 : ¬ n < 0 := by omega
    go_enter Tryz.func99, Tryz.ntmps99
    go_wp2_with fail
    refine Calls.mono c ?_
    rintro e w2 ⟨rfl, rfl⟩
    go_wp2_with fail
    go_ret
    exact ⟨by first | rfl | exact ret_bool (by simp [h1]), rfl⟩
  · have h2 : n < 0 := by omega
    go_enter Tryz.func99, Tryz.ntmps99
    go_wp2_with fail
    go_ret
    exact ⟨by first | rfl | exact ret_bool (by simp; omega), rfl⟩
theorem dnoughts (n : Nat) (w : World) (hn : n ≤ 140737488355328) : Calls Tryz.prog 48 #[.int .i64 n] w fun e w' => e = .returned (.string (zeroL n)) ∧ Below w.heap.size w w' := by
  go_enter Tryz.func48, Tryz.ntmps48
  go_wp2_with fail
  refine Calls.mono (repeat0 n _ hn) ?_
  rintro e w2 ⟨rfl, h2⟩
  go_wp2_with fail
  go_ret
  exact ⟨rfl, h2⟩
theorem dback (p : Nat) (w : World) : Calls Tryz.prog 100 #[.pointer (some ⟨p, 0, none⟩)] w fun e w' => e = .returned (.func (.func 111) #[] #[.pointer (some ⟨w.heap.size, 0, none⟩)]) ∧ w' = w.alloc (.cells #[.pointer (some ⟨p, 0, none⟩)] 23) := by
  go_enter Tryz.func100, Tryz.ntmps100
  go_wp2_with fail
  go_ret
  exact ⟨rfl, rfl⟩
end Go.Proofs.YtgnnijpfkgmomaaGreatDoor
/-
  disk.Wipe, New: a disk as it was ahead of all.
-/


namespace Go.Proofs.YtgnnijpfkgmomaaGreatDoor
open Go.RowKit
set_option linter.unusedVariables false
set_option linter.unusedSimpArgs false

/-- a disk whose sectors may be any texts -/
structure DRaw (w : World) (N p : Nat) (sv lv : Value) (S : List ByteArray) : Prop where
  hp : N ≤ p
  obj : w.heap[p]? = some (.cells #[sv, lv] 58)
  sure : w.ownsRow N 9 1 sv S.length (sCells S)
theorem DRaw.lt {w : World} {N p : Nat} {sv lv : Value} {S : List ByteArray} (h : DRaw w N p sv lv S) : p < w.heap.size := lt_heap h.obj
theorem DRaw.le {w : World} {N p : Nat} {sv lv : Value} {S : List ByteArray} (h : DRaw w N p sv lv S) : N ≤ w.heap.size := Nat.le_trans h.hp (Nat.le_of_lt h.lt)
theorem DRaw.below {w w' : World} {N p : Nat} {sv lv : Value} {S : List ByteArray} (h : DRaw w N p sv lv S) (hb : Below w.heap.size w w') : DRaw w' N p sv lv S :=
  ⟨h.hp, (hb.block p h.lt).trans h.obj, owns_below h.sure hb⟩
theorem DRaw.cell0 {w : World} {N p : Nat} {sv lv : Value} {S : List ByteArray} (h : DRaw w N p sv lv S) : w.cell? ⟨p, 0, none⟩ = some sv := by simp [World.cell?, h.obj]
theorem DRaw.cell1 {w : World} {N p : Nat} {sv lv : Value} {S : List ByteArray} (h : DRaw w N p sv lv S) : w.cell? ⟨p, 1, none⟩ = some lv := by simp [World.cell?, h.obj]
theorem DRaw.frozen {w : World} {N p : Nat} {sv lv : Value} {S : List ByteArray} (h : DRaw w N p sv lv S) (o : Nat) : w.frozen? ⟨p, o, none⟩ = false := by simp [World.frozen?, h.obj]
theorem Dsk.raw {w : World} {N p : Nat} {sv lv : Value} {S : List ByteArray} {L : List (Nat × ByteArray)} (h : Dsk w N p sv lv S L) : DRaw w N p sv lv S := ⟨h.hp, h.obj, h.sure⟩
theorem DRaw.form {w : World} {N p : Nat} {sv lv : Value} {S : List ByteArray} (h : DRaw w N p sv lv S) (h0 : 0 < S.length) :
    ∃ g cap, sv = .slice (some ⟨g, 0, none⟩) S.length cap ∧ S.length ≤ cap ∧ cap ≤ maxLen := by
  obtain ⟨g, cap, rfl⟩ := Joins.ownsRow_form h.sure h0
  rcases h.sure.2 with ⟨h', _⟩ | ⟨g', cap', cur, h', _, hg, h1, h2, _⟩
  · simp at h'
  · simp only [Value.slice.injEq, Option.some.injEq, Addr.mk.injEq, and_true, true_and] at h'
    obtain ⟨rfl, rfl⟩ := h'
    exact ⟨g, cap, rfl, h1, h2⟩
theorem raw_set {w : World} {N p g n cap : Nat} {lv : Value} {S : List ByteArray} (h : DRaw w N p (.slice (some ⟨g, 0, none⟩) n cap) lv S) (k : Nat) (v : ByteArray) :
    DRaw (w.setCell ⟨g, k, none⟩ (.string v)) N p (.slice (some ⟨g, 0, none⟩) n cap) lv (S.set k v) ∧ DKept w (w.setCell ⟨g, k, none⟩ (.string v)) N p (.slice (some ⟨g, 0, none⟩) n cap) lv lv := by
  have hn : n = S.length := by
    rcases h.sure.2 with ⟨h', _⟩ | ⟨g', cap', cur, h', _⟩
    · simp at h'
    · injection h'
  subst hn
  obtain ⟨h1, h2⟩ := h.sure.stored k (.string v)
  have hpg : p ≠ g := fun e => row_other h.sure h.obj (by decide) (by rw [e]; rfl)
  refine ⟨⟨h.hp, (h2.block p h.lt (fun e => hpg (by cases e; rfl))).trans h.obj, ?_⟩, ?_, ?_, .inl rfl⟩
  · rw [sCells_set] at h1
    simpa using h1
  · exact (Below.refl N w).grown h2 h.le (fun j e => by cases e; exact (h.sure.lt g rfl).1)
  · intro j hj hp hs hl'
    exact h2.block j hj hs
/-- noughts in all sectors -/
def freshS (n : Nat) : List ByteArray := List.replicate n (zeroL 64)
theorem freshS_length (n : Nat) : (freshS n).length = n := by simp [freshS]
theorem fresh_of {S : List ByteArray} {n : Nat} (hl : S.length = n) (h : ∀ j, j < n → S[j]? = some (zeroL 64)) : S = freshS n := by
  apply List.ext_getElem?
  intro j
  by_cases hj : j < n
  · rw [h j hj]; simp [freshS, hj]
  · rw [List.getElem?_eq_none (by omega), List.getElem?_eq_none (by simp [freshS]; omega)]
/-- the disk as it was ahead of all -/
theorem raw_wiped {w : World} {N p : Nat} {sv lv : Value} {S : List ByteArray} (h : DRaw w N p sv lv S) (hm : S.length ≤ 4096) (hf : S = freshS S.length) :
    Dsk (w.setCell ⟨p, 1, none⟩ (.slice none 0 0)) N p sv (.slice none 0 0) (freshS S.length) [] ∧ DKept w (w.setCell ⟨p, 1, none⟩ (.slice none 0 0)) N p sv lv (.slice none 0 0) := by
  have hso := row_other h.sure h.obj (by decide)
  have hgp : w.grownBy (w.setCell ⟨p, 1, none⟩ (.slice none 0 0)) (some p) := ⟨rfl, rfl, rfl, by simp, fun k _ hk => heap_setCell_other _ _ _ _ (fun e => hk (by rw [e]))⟩
  rw [← hf]
  refine ⟨⟨h.hp, ?_, h.sure.kept hgp (.inr hso), World.ownsRow_nil _ _ _ _, ?_, by simp, hm⟩, ?_, ?_, .inr (fun k e => by cases e)⟩
  · rw [heap_setCell_same _ _ _ _ _ _ h.obj]
    rfl
  · intro s hs
    rw [hf] at hs
    rw [(List.mem_replicate.1 hs).2]
    exact zeroL_size 64
  · exact (Below.refl N w).setCell (p := ⟨p, 1, none⟩) h.hp _
  · intro k hk hp _ _
    exact heap_setCell_other _ _ _ _ hp
/-- what the loop of Wipe keeps -/
structure WRel (w wr : World) (N p k n : Nat) (sv lv : Value) (S : List ByteArray) : Prop where
  raw : DRaw wr N p sv lv S
  kept : DKept w wr N p sv lv lv
  len : S.length = n
  all : ∀ j, j < k → S[j]? = some (zeroL 64)
theorem WRel.step {w wr : World} {N p k n g c m : Nat} {lv : Value} {S : List ByteArray} (h : WRel w wr N p k n (.slice (some ⟨g, 0, none⟩) m c) lv S) (hk : k < n) :
    WRel w (wr.setCell ⟨g, k, none⟩ (.string (zeroL 64))) N p (k + 1) n (.slice (some ⟨g, 0, none⟩) m c) lv (S.set k (zeroL 64)) := by
  obtain ⟨a, b⟩ := raw_set h.raw k (zeroL 64)
  refine ⟨a, h.kept.trans b, by simpa using h.len, fun j hj => ?_⟩
  rw [List.getElem?_set]
  split
  · rw [if_pos (by have := h.len; omega)]
  · exact h.all j (by omega)

set_option maxHeartbeats 800000 in
theorem dwipe (w : World) (N p : Nat) (sv lv : Value) (S : List ByteArray) (h : DRaw w N p sv lv S) (hm : S.length ≤ 4096) :
    Calls Tryz.prog 23 #[.pointer (some ⟨p, 0, none⟩)] w fun e w' => e = .returned (.tuple #[]) ∧ Dsk w' N p sv (.slice none 0 0) (freshS S.length) [] ∧ DKept w w' N p sv lv (.slice none 0 0) := by
  have cn : ∀ w', Calls Tryz.prog 48 #[.int .i64 64] w' fun e w'' => e = .returned (.string (zeroL 64)) ∧ Below w'.heap.size w' w'' := fun w' => dnoughts 64 w' (by omega)
  have HD := Lib.hid h
  obtain ⟨n, hn⟩ : ∃ n, S.length = n := ⟨_, rfl⟩
  have hform : ∃ a cap, sv = .slice a n cap ∧ n ≤ cap ∧ cap ≤ maxLen := by
    rcases Nat.eq_zero_or_pos n with h0 | h0
    · rcases h.sure.2 with ⟨rfl, h'⟩ | ⟨g', cap', cur, rfl, _, hg, h1, h2, _⟩
      · exact ⟨none, 0, by rw [h0], by omega, by unfold maxLen; omega⟩
      · exact ⟨_, cap', by rw [hn], by omega, h2⟩
    · obtain ⟨g, cap, e, h1, h2⟩ := h.form (by omega)
      rw [hn] at e h1
      exact ⟨_, cap, e, h1, h2⟩
  obtain ⟨a, cap, rfl, hnc, hcm⟩ := hform
  unfold maxLen at hcm
  rw [hn] at hm
  rw [hn]
  have HN := Lib.hid hn
  clear h hn
  go_enter Tryz.func23, Tryz.ntmps23
  go_wp2_with fail
  refine Calls.mono (cn _) ?_
  rintro e w2 ⟨rfl, hb⟩
  have HW := Lib.hid (show WRel w w2 N p 0 n (.slice a n cap) lv S from ⟨HD.out.below hb, DKept.of_below HD.out.le hb, HN.out, fun j hj => by omega⟩)
  clear hb cn
  have hc0 := HW.out.raw.cell0
  go_wp2_with fail
  go_loopw [12] (fun i wr => ∃ (k : Nat) (S' : List ByteArray), k ≤ n ∧ i = .int .i64 k ∧ WRel w wr N p k n (.slice a n cap) lv S') (fun i _ => n - (intOf i).toNat)
  case atStart => exact ⟨0, S, Nat.zero_le _, rfl, HW.out⟩
  case round =>
    obtain ⟨k, S', hk, rfl, hrel⟩ := hrel
    have hr0 := hrel.raw.cell0
    have hr1 := hrel.raw.cell1
    have HR := Lib.hid hrel
    have hfr1 := hrel.raw.frozen 1
    clear hrel hc0
    by_cases hlt : k < n
    · obtain ⟨g, cap', he, _, _⟩ := HR.out.raw.form (by have := HR.out.len; omega)
      simp only [Value.slice.injEq] at he
      obtain ⟨rfl, _, rfl⟩ := he
      have hfz : wr.frozen? ⟨g, k, none⟩ = false := by
        have := HR.out.raw.sure
        have hl := HR.out.len
        rw [hl] at this
        exact this.frozenAt k
      have hc : ∃ v, wr.cell? ⟨g, k, none⟩ = some v := by
        have h1 := HR.out.raw.sure
        have hl := HR.out.len
        rw [hl] at h1
        refine ⟨_, (h1.cellAt k (by omega)).trans (sCells_at _ _ _ (List.getElem?_eq_getElem (by omega)))⟩
      obtain ⟨v, hv⟩ := hc
      go_wp2_with fail
      go_roundw
      case rel => exact ⟨k + 1, _, by omega, by go_num, HR.out.step hlt⟩
      case measure => simp [intOf]; omega
    · obtain rfl : k = n := by omega
      go_wp2_with fail
      go_returns
      have hl := HR.out.len
      have z := raw_wiped HR.out.raw (by omega) (fresh_of rfl (by rw [hl]; exact HR.out.all))
      rw [hl] at z
      exact ⟨rfl, z.1, HR.out.kept.trans z.2⟩

/-- a new disk -/
def DNew (n : Nat) (w : World) (e : Ending) (w' : World) : Prop := ∃ p sv, e = .returned (.tuple #[.pointer (some ⟨p, 0, none⟩), .int .i64 0]) ∧ Dsk w' w.heap.size p sv (.slice none 0 0) (freshS n) [] ∧ Below w.heap.size w w'
theorem mades_s (n : Nat) : (madeCells (Value.string ⟨#[]⟩).cells (n * 1)).toList = sCells (List.replicate n ⟨#[]⟩) := by
  rw [show (Value.string ⟨#[]⟩).cells = #[Value.string ⟨#[]⟩] from rfl, Nat.mul_one, toList_madeCells_one]
  simp [sCells]
set_option maxHeartbeats 800000 in
theorem dnew (n : Nat) (w : World) (h1 : 1 ≤ n) (h2 : n ≤ 4096) : Calls Tryz.prog 6 #[.int .i64 n] w (DNew n w) := by
  obtain ⟨i0, hi, hz0, hz1, hz2⟩ := info_parts (show (Tryz.prog.info? 9).map (fun i => (i.zero, i.size, i.bytes)) = some (some (.string ⟨#[]⟩), 1, 16) by kernel_rfl)
  obtain ⟨w1, hmk, hown, hgr⟩ := run_make_full (P := Tryz.prog) (w := w) w.heap.size 55 9 i0 _ 1 Tryz.underlying55 hi hz0 hz1 .i64 .i64 n (by rw [hz2]; omega) (by unfold maxLen; omega) (Nat.le_refl _)
  rw [mades_s] at hown
  have hb1 : Below w.heap.size w w1 := (Below.refl _ w).grown hgr (Nat.le_refl _) (fun k e => by cases e)
  have hraw : DRaw (w1.alloc (.cells #[.slice (some ⟨w.heap.size, 0, none⟩) n n, .slice none 0 0] 58)) w.heap.size w1.heap.size (.slice (some ⟨w.heap.size, 0, none⟩) n n) (.slice none 0 0) (List.replicate n ⟨#[]⟩) := by
    refine ⟨hb1.size, heap_alloc_self _ _, ?_⟩
    rw [List.length_replicate]
    exact hown.alloc _
  have c := dwipe _ _ _ _ _ _ hraw (by simpa using h2)
  rw [List.length_replicate] at c
  have HB := Lib.hid hb1
  clear hown hgr hb1 hraw
  have h1' : ¬ (n : Int) < 1 := by omega
  have h2' : ¬ 4096 < (n : Int) := by omega
  have HC := Lib.hid c
  clear c
  go_enter Tryz.func6, Tryz.ntmps6
  go_wp2_with fail
  refine Calls.mono HC.out ?_
  rintro e w2 ⟨rfl, hd, hk⟩
  have HD := Lib.hid hd
  have HK := Lib.hid hk
  clear hd hk
  go_wp2_with fail
  go_returns
  exact ⟨_, _, rfl, HD.out, (HB.out.trans ((Below.refl _ _).alloc HB.out.size _)).trans HK.out.below⟩
end Go.Proofs.YtgnnijpfkgmomaaGreatDoor
/-
  super: last, Read, Next, Write, of whatever two readings.
-/


namespace Go.Proofs.YtgnnijpfkgmomaaGreatDoor
open Go.RowKit
set_option linter.unusedVariables false
set_option linter.unusedSimpArgs false

/-- the last whole word so far: its number, the word, the place -/
def stepL (r : ByteArray) (i : Nat) (x : Nat × ByteArray × Nat) : Nat × ByteArray × Nat := if wholeB r = true ∧ x.1 < num8 r then (num8 r, wordS r, i) else x
def lastS (r0 r1 : ByteArray) : Nat × ByteArray × Nat := stepL r1 1 (stepL r0 0 (0, ⟨#[]⟩, 0))
def rAt (r0 r1 : ByteArray) (j : Nat) : ByteArray := if j = 0 then r0 else r1
def lastJ (r0 r1 : ByteArray) (j : Nat) : Nat × ByteArray × Nat := if j = 0 then (0, ⟨#[]⟩, 0) else if j = 1 then stepL r0 0 (0, ⟨#[]⟩, 0) else lastS r0 r1
theorem lastJ_step (r0 r1 : ByteArray) (j : Nat) (h : j < 2) : lastJ r0 r1 (j + 1) = stepL (rAt r0 r1 j) j (lastJ r0 r1 j) := by
  have : j = 0 ∨ j = 1 := by omega
  rcases this with rfl | rfl <;> rfl
/-- what a reading of the pair answers -/
def Reads2 (dv : Value) (w : World) (at' : Int) (r0 r1 : ByteArray) (e0 e1 : Int) : Prop :=
  ∀ (j : Nat) (w' : World), j < 2 → Below w.heap.size w w' → Calls Tryz.prog 80 #[dv, .int .i64 (wrap64 (at' + j))] w' fun e w'' => e = .returned (.tuple #[.string (rAt r0 r1 j), .int .i64 (if j = 0 then e0 else e1)]) ∧ Below w'.heap.size w' w''
theorem Reads2.below {dv : Value} {w w2 : World} {at' : Int} {r0 r1 : ByteArray} {e0 e1 : Int} (h : Reads2 dv w at' r0 r1 e0 e1) (hb : Below w.heap.size w w2) : Reads2 dv w2 at' r0 r1 e0 e1 :=
  fun j w' hj hw => h j w' hj (below_trans hb hw hb.size)
def LRel (w wr : World) (r0 r1 : ByteArray) (j : Nat) (n s p : Value) : Prop := n = .int .u64 (lastJ r0 r1 j).1 ∧ s = .string (lastJ r0 r1 j).2.1 ∧ p = .int .i64 (lastJ r0 r1 j).2.2 ∧ Below w.heap.size w wr
set_option maxHeartbeats 1600000 in
set_option maxRecDepth 100000 in
theorem slast (dv : Value) (at' : Int) (r0 r1 : ByteArray) (e0 e1 : Int) (w : World) (hr : Reads2 dv w at' r0 r1 e0 e1) : Calls Tryz.prog 49 #[dv, .int .i64 at'] w fun e w' => e = .returned (.tuple #[.int .u64 (lastS r0 r1).1, .string (lastS r0 r1).2.1, .int .i64 (lastS r0 r1).2.2]) ∧ Below w.heap.size w w' := by
  have HRR := Lib.hid hr
  clear hr
  go_enter Tryz.func49, Tryz.ntmps49
  go_wp2_with fail
  go_loopw [7, 8, 9, 16] (fun n s p i wr => ∃ j : Nat, j ≤ 2 ∧ i = .int .i64 j ∧ LRel w wr r0 r1 j n s p) (fun _ _ _ i _ => 2 - (intOf i).toNat)
  case atStart => exact ⟨0, by omega, rfl, rfl, rfl, rfl, Below.refl _ _⟩
  case round =>
    obtain ⟨j, hj, rfl, rfl, rfl, rfl, hb⟩ := hrel
    have HB := Lib.hid hb
    by_cases hlt : j < 2
    · have c := HRR.out j wr hlt hb
      have hs := Lib.hid (lastJ_step r0 r1 j hlt)
      obtain ⟨R, hR⟩ : ∃ R, rAt r0 r1 j = R := ⟨_, rfl⟩
      rw [hR] at c hs
      obtain ⟨⟨m, u, q⟩, hx⟩ : ∃ x, lastJ r0 r1 j = x := ⟨_, rfl⟩
      rw [hx] at hs
      rw [hx]
      obtain ⟨E, hE⟩ : ∃ E, (if j = 0 then e0 else e1) = E := ⟨_, rfl⟩
      rw [hE] at c
      clear hb hR hx hE
      go_wp2_with fail
      refine Calls.mono c ?_
      rintro e w2 ⟨rfl, hb2⟩
      have HB2 := Lib.hid (below_trans HB.out hb2 HB.out.size)
      clear hb2 c
      by_cases hw : wholeB R = true
      · have c2 := fun w => sget_ok R w hw
        by_cases hm : m < num8 R
        · have HS := Lib.hid (show lastJ r0 r1 (j + 1) = (num8 R, wordS R, j) by rw [hs.out]; unfold stepL; rw [if_pos ⟨hw, hm⟩])
          obtain ⟨X, hX⟩ : ∃ X, num8 R = X := ⟨_, rfl⟩
          rw [hX] at c2 hm HS
          obtain ⟨T, hT⟩ : ∃ T, wordS R = T := ⟨_, rfl⟩
          rw [hT] at c2 HS
          clear hX hT hs hw
          go_wp2_with fail
          refine Calls.mono (c2 _) ?_
          rintro e w3 ⟨rfl, hb3⟩
          have HB3 := Lib.hid (below_trans HB2.out hb3 HB2.out.size)
          clear hb3 c2
          go_wp2_with fail
          go_roundw
          case rel => exact ⟨j + 1, by omega, by go_num, by unfold LRel; rw [HS.out]; exact ⟨rfl, rfl, rfl, HB3.out⟩⟩
          case measure => simp [intOf]; omega
        · have HS := Lib.hid (show lastJ r0 r1 (j + 1) = (m, u, q) by rw [hs.out]; unfold stepL; rw [if_neg (fun h => hm h.2)])
          obtain ⟨X, hX⟩ : ∃ X, num8 R = X := ⟨_, rfl⟩
          rw [hX] at c2 hm
          obtain ⟨T, hT⟩ : ∃ T, wordS R = T := ⟨_, rfl⟩
          rw [hT] at c2
          clear hX hT hs hw
          go_wp2_with fail
          refine Calls.mono (c2 _) ?_
          rintro e w3 ⟨rfl, hb3⟩
          have HB3 := Lib.hid (below_trans HB2.out hb3 HB2.out.size)
          clear hb3 c2
          go_wp2_with fail
          go_roundw
          case rel => exact ⟨j + 1, by omega, by go_num, by unfold LRel; rw [HS.out]; exact ⟨rfl, rfl, rfl, HB3.out⟩⟩
          case measure => simp [intOf]; omega
      · have c2 := fun w => sget_no R w (by simpa using hw)
        have HS := Lib.hid (show lastJ r0 r1 (j + 1) = (m, u, q) by rw [hs.out]; unfold stepL; rw [if_neg (fun h => hw h.1)])
        clear hs hw
        go_wp2_with fail
        refine Calls.mono (c2 _) ?_
        rintro e w3 ⟨rfl, hb3⟩
        have HB3 := Lib.hid (below_trans HB2.out hb3 HB2.out.size)
        clear hb3 c2
        go_wp2_with fail
        go_roundw
        case rel => exact ⟨j + 1, by omega, by go_num, by unfold LRel; rw [HS.out]; exact ⟨rfl, rfl, rfl, HB3.out⟩⟩
        case measure => simp [intOf]; omega
    · obtain rfl : j = 2 := by omega
      have he : lastJ r0 r1 2 = lastS r0 r1 := rfl
      rw [he]
      obtain ⟨⟨m, u, q⟩, hx⟩ : ∃ x, lastS r0 r1 = x := ⟨_, rfl⟩
      rw [hx]
      have HX := Lib.hid hx
      clear hb he hx
      go_wp2_with fail
      go_returns
      exact ⟨by rw [HX.out]; rfl, HB.out⟩
theorem sread (dv : Value) (at' : Int) (r0 r1 : ByteArray) (e0 e1 : Int) (w : World) (hr : Reads2 dv w at' r0 r1 e0 e1) : Calls Tryz.prog 25 #[dv, .int .i64 at'] w fun e w' => e = .returned (.tuple #[.int .u64 (lastS r0 r1).1, .string (lastS r0 r1).2.1, .bool (decide (0 < (lastS r0 r1).1))]) ∧ Below w.heap.size w w' := by
  have c := slast dv at' r0 r1 e0 e1 w hr
  obtain ⟨⟨m, u, q⟩, hx⟩ : ∃ x, lastS r0 r1 = x := ⟨_, rfl⟩
  rw [hx] at c
  rw [hx]
  clear hx hr
  go_enter Tryz.func25, Tryz.ntmps25
  go_wp2_with fail
  refine Calls.mono c ?_
  rintro e w2 ⟨rfl, hb⟩
  have HB := Lib.hid hb
  clear hb
  go_wp2_with fail
  go_returns
  exact ⟨by simp, HB.out⟩
/-- the greatest number that any half says -/
def hiS (r : ByteArray) (ok : Bool) (m : Nat) : Nat := if ok = true then max (max m (num8 r)) (num8 (r.extract 32 64)) else m
def hiJ (r0 r1 : ByteArray) (k0 k1 : Bool) (j : Nat) : Nat := if j = 0 then 0 else if j = 1 then hiS r0 k0 0 else hiS r1 k1 (hiS r0 k0 0)
theorem hiJ_step (r0 r1 : ByteArray) (k0 k1 : Bool) (j : Nat) (h : j < 2) : hiJ r0 r1 k0 k1 (j + 1) = hiS (rAt r0 r1 j) (if j = 0 then k0 else k1) (hiJ r0 r1 k0 k1 j) := by
  have : j = 0 ∨ j = 1 := by omega
  rcases this with rfl | rfl <;> rfl
theorem hiS_lt (r : ByteArray) (ok : Bool) (m : Nat) (h : m < 18446744073709551616) : hiS r ok m < 18446744073709551616 := by
  have h1 := num8_lt r
  have h2 := num8_lt (r.extract 32 64)
  unfold hiS
  split <;> omega
theorem hiJ_lt (r0 r1 : ByteArray) (k0 k1 : Bool) (j : Nat) : hiJ r0 r1 k0 k1 j < 18446744073709551616 := by
  unfold hiJ
  repeat' split
  · omega
  · exact hiS_lt _ _ _ (by omega)
  · exact hiS_lt _ _ _ (hiS_lt _ _ _ (by omega))
/-- the next number -/
def nextM (m : Nat) (x : Nat × ByteArray × Nat) : Nat := if 0 < x.1 ∧ (m + 1) % 18446744073709551616 ≠ 0 ∧ (m + 1) % 18446744073709551616 % 2 = x.2.2 then ((m + 1) % 18446744073709551616 + 1) % 18446744073709551616 else (m + 1) % 18446744073709551616
def nextS (r0 r1 : ByteArray) (k0 k1 : Bool) : Nat := nextM (hiJ r0 r1 k0 k1 2) (lastS r0 r1)
theorem stepL_place (r : ByteArray) (i : Nat) (x : Nat × ByteArray × Nat) (hi : i < 2) (hx : x.2.2 < 2) : (stepL r i x).2.2 < 2 := by
  unfold stepL
  split
  · exact hi
  · exact hx
theorem lastS_place (r0 r1 : ByteArray) : (lastS r0 r1).2.2 < 2 := stepL_place _ _ _ (by omega) (stepL_place _ _ _ (by omega) (by decide))
theorem snext_bad (dv : Value) (at' : Int) (w : World) (h : at' < 0 ∨ 4096 < at') : Calls Tryz.prog 66 #[dv, .int .i64 at'] w fun e w' => e = .returned (.int .u64 0) ∧ w = w' := by
  have c := fun w => smay at' w
  have hg : (decide (0 ≤ at') && decide (at' ≤ 4096)) = false := by
    rcases h with h | h <;> simp <;> omega
  rw [hg] at c
  clear h hg
  go_enter Tryz.func66, Tryz.ntmps66
  go_wp2_with fail
  refine Calls.mono (c _) ?_
  rintro e w2 ⟨rfl, rfl⟩
  go_wp2_with fail
  go_ret
  exact ⟨rfl, rfl⟩
set_option maxHeartbeats 3200000 in
set_option maxRecDepth 100000 in
theorem snext (dv : Value) (at' : Nat) (r0 r1 : ByteArray) (k0 k1 : Bool) (w : World) (ha : at' ≤ 4096) (hr : Reads2 dv w at' r0 r1 (if k0 = true then 0 else 1) (if k1 = true then 0 else 1)) (h0 : k0 = true → r0.size = 64) (h1 : k1 = true → r1.size = 64) :
    Calls Tryz.prog 66 #[dv, .int .i64 at'] w fun e w' => e = .returned (.int .u64 (nextS r0 r1 k0 k1)) ∧ Below w.heap.size w w' := by
  have cm := fun w => smay at' w
  have hg : (decide (0 ≤ (at' : Int)) && decide ((at' : Int) ≤ 4096)) = true := by simp; omega
  rw [hg] at cm
  have HRR := Lib.hid hr
  have H0 := Lib.hid h0
  have H1 := Lib.hid h1
  clear hr hg h0 h1
  go_enter Tryz.func66, Tryz.ntmps66
  go_wp2_with fail
  refine Calls.mono (cm _) ?_
  rintro e w2 ⟨rfl, rfl⟩
  clear cm
  go_wp2_with fail
  go_loopw [5, 18] (fun n i wr => ∃ j : Nat, j ≤ 2 ∧ i = .int .i64 j ∧ n = .int .u64 (hiJ r0 r1 k0 k1 j) ∧ Below w.heap.size w wr) (fun _ i _ => 2 - (intOf i).toNat)
  case atStart => exact ⟨0, by omega, rfl, rfl, Below.refl _ _⟩
  case round =>
    obtain ⟨j, hj, rfl, rfl, hb⟩ := hrel
    have HB := Lib.hid hb
    by_cases hlt : j < 2
    · have c := HRR.out j wr hlt hb
      have hs := Lib.hid (hiJ_step r0 r1 k0 k1 j hlt)
      have hwr : wrap64 ((at' : Int) + j) = (at' : Int) + j := by unfold wrap64; omega
      rw [hwr] at c
      obtain ⟨K, hK⟩ : ∃ K, (if j = 0 then k0 else k1) = K := ⟨_, rfl⟩
      rw [hK] at hs
      have he : (if j = 0 then (if k0 = true then (0 : Int) else 1) else (if k1 = true then (0 : Int) else 1)) = (if K = true then 0 else 1) := by
        rw [← hK]; split <;> rfl
      rw [he] at c
      have hsz : K = true → (rAt r0 r1 j).size = 64 := by
        rw [← hK]
        unfold rAt
        split
        · exact H0.out
        · exact H1.out
      obtain ⟨R, hR⟩ : ∃ R, rAt r0 r1 j = R := ⟨_, rfl⟩
      rw [hR] at c hs hsz
      have hmlt := hiJ_lt r0 r1 k0 k1 j
      obtain ⟨M, hM⟩ : ∃ x, hiJ r0 r1 k0 k1 j = x := ⟨_, rfl⟩
      rw [hM] at hs hmlt
      rw [hM]
      clear hb hR hM he hK hwr
      cases K
      · simp only [Bool.false_eq_true, if_false] at c
        have HS := Lib.hid (show hiJ r0 r1 k0 k1 (j + 1) = M by rw [hs.out]; rfl)
        clear hs hsz
        go_wp2_with fail
        refine Calls.mono c ?_
        rintro e w3 ⟨rfl, hb2⟩
        have HB2 := Lib.hid (below_trans HB.out hb2 HB.out.size)
        clear hb2 c
        go_wp2_with fail
        go_roundw
        case rel => exact ⟨j + 1, by omega, by go_num, by rw [HS.out], HB2.out⟩
        case measure => simp [intOf]; omega
      · simp only [if_true] at c
        have hsz := hsz rfl
        have HS := Lib.hid (show hiJ r0 r1 k0 k1 (j + 1) = max (max M (num8 R)) (num8 (R.extract 32 64)) by rw [hs.out]; rfl)
        have c2 := fun w => shalves R w hsz
        have b1 := num8_lt R
        have b2 := num8_lt (R.extract 32 64)
        obtain ⟨X, hX⟩ : ∃ X, num8 R = X := ⟨_, rfl⟩
        obtain ⟨Y, hY⟩ : ∃ Y, num8 (R.extract 32 64) = Y := ⟨_, rfl⟩
        rw [hX, hY] at c2 HS
        rw [hX] at b1
        rw [hY] at b2
        clear hs hsz hX hY
        go_wp2_with fail
        refine Calls.mono c ?_
        rintro e w3 ⟨rfl, hb2⟩
        have HB2 := Lib.hid (below_trans HB.out hb2 HB.out.size)
        clear hb2 c
        go_wp2_with fail
        refine Calls.mono (c2 _) ?_
        rintro e w4 ⟨rfl, hb2⟩
        have HB3 := Lib.hid (below_trans HB2.out hb2 HB2.out.size)
        clear hb2 c2
        go_wp2_with fail
        go_roundw
        case rel => exact ⟨j + 1, by omega, by go_num, by rw [HS.out]; exact congrArg (Value.int .u64) (by split <;> split <;> omega), HB3.out⟩
        case measure => simp [intOf]; omega
    · obtain rfl : j = 2 := by omega
      have c := slast dv at' r0 r1 _ _ wr (Reads2.below HRR.out hb)
      have hq := lastS_place r0 r1
      have hmlt := hiJ_lt r0 r1 k0 k1 2
      have hR : nextS r0 r1 k0 k1 = nextM (hiJ r0 r1 k0 k1 2) (lastS r0 r1) := rfl
      obtain ⟨M, hM⟩ : ∃ x, hiJ r0 r1 k0 k1 2 = x := ⟨_, rfl⟩
      obtain ⟨⟨l, u, q⟩, hx⟩ : ∃ x, lastS r0 r1 = x := ⟨_, rfl⟩
      rw [hx] at c hq hR
      rw [hM] at hmlt hR
      rw [hM]
      simp only at hq
      have HR := Lib.hid hR
      clear hb hM hx hR
      by_cases hb : M < 18446744073709551615
      · have h1 : ((M : Int) + 1 == 0) = false := by simp; omega
        have h1n : ((M : Int) + 1 != 0) = true := by simp [bne, h1]
        by_cases hl : 0 < l
        · by_cases he : (M + 1) % 2 = q
          · subst he
            by_cases hz : M < 18446744073709551614
            · have HV := Lib.hid (show nextM M (l, u, (M + 1) % 2) = M + 2 by unfold nextM; simp only; rw [Nat.mod_eq_of_lt (show M + 1 < 18446744073709551616 by omega), if_pos ⟨hl, by omega, rfl⟩]; omega)
              go_wp2_with fail
              refine Calls.mono c ?_
              rintro e w3 ⟨rfl, hb2⟩
              have HB2 := Lib.hid (below_trans HB.out hb2 HB.out.size)
              clear hb2 c
              go_wp2_with fail
              go_ret
              exact ⟨ret_int (by rw [HR.out, HV.out]; (try rw [IntKind.wrap_u64]); omega), HB2.out⟩
            · have HV := Lib.hid (show nextM M (l, u, (M + 1) % 2) = 0 by unfold nextM; simp only; rw [Nat.mod_eq_of_lt (show M + 1 < 18446744073709551616 by omega), if_pos ⟨hl, by omega, rfl⟩]; omega)
              go_wp2_with fail
              refine Calls.mono c ?_
              rintro e w3 ⟨rfl, hb2⟩
              have HB2 := Lib.hid (below_trans HB.out hb2 HB.out.size)
              clear hb2 c
              go_wp2_with fail
              go_ret
              exact ⟨ret_int (by rw [HR.out, HV.out]; (try rw [IntKind.wrap_u64]); omega), HB2.out⟩
          · have HV := Lib.hid (show nextM M (l, u, q) = M + 1 by unfold nextM; simp only; rw [Nat.mod_eq_of_lt (show M + 1 < 18446744073709551616 by omega), if_neg (fun h => he h.2.2)])
            have he2 : (((M : Int) + 1) % 2 == (q : Int)) = false := by simp; omega
            clear he
            go_wp2_with fail
            refine Calls.mono c ?_
            rintro e w3 ⟨rfl, hb2⟩
            have HB2 := Lib.hid (below_trans HB.out hb2 HB.out.size)
            clear hb2 c
            go_wp2_with fail
            go_ret
            exact ⟨ret_int (by rw [HR.out, HV.out]; (try rw [IntKind.wrap_u64]); omega), HB2.out⟩
        · have HV := Lib.hid (show nextM M (l, u, q) = M + 1 by unfold nextM; simp only; rw [Nat.mod_eq_of_lt (show M + 1 < 18446744073709551616 by omega), if_neg (fun h => hl h.1)])
          go_wp2_with fail
          refine Calls.mono c ?_
          rintro e w3 ⟨rfl, hb2⟩
          have HB2 := Lib.hid (below_trans HB.out hb2 HB.out.size)
          clear hb2 c
          go_wp2_with fail
          go_ret
          exact ⟨ret_int (by rw [HR.out, HV.out]; (try rw [IntKind.wrap_u64]); omega), HB2.out⟩
      · have hw : IntKind.u64.wrap ((M : Int) + 1) = 0 := by rw [IntKind.wrap_u64]; omega
        have HV := Lib.hid (show nextM M (l, u, q) = 0 by unfold nextM; simp only; rw [show (M + 1) % 18446744073709551616 = 0 by omega, if_neg (fun h => h.2.1 rfl)])
        have hM1 : 0 ≤ (M : Int) := by omega
        clear hb hmlt
        go_wp2_with fail
        refine Calls.mono c ?_
        rintro e w3 ⟨rfl, hb2⟩
        have HB2 := Lib.hid (below_trans HB.out hb2 HB.out.size)
        clear hb2 c
        go_wp2_with fail
        all_goals
          go_ret
          exact ⟨ret_int (by rw [HR.out, HV.out]; (try rw [IntKind.wrap_u64]); omega), HB2.out⟩
end Go.Proofs.YtgnnijpfkgmomaaGreatDoor
