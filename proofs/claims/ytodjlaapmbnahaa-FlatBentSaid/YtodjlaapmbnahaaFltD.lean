/-
  flat: what may be asked for, done at once.
-/
import Derived.Test.YtodjlaapmbnahaaFltC
namespace Go.Proofs.Ytodjlaapmbnahaa
open Go.RowKit
set_option linter.unusedVariables false
set_option linter.unusedSimpArgs false

theorem parts_getF (W : Int) (q : Nat) (D : ByteArray) (m j i : Nat) (hj : j < m) (hi : i < 3) : (partsL W q D m)[j * 3 + i]? = (partK W q D j)[i]? := by
  induction m with
  | zero => omega
  | succ m ih =>
    rw [parts_succ]
    by_cases h : j < m
    · rw [List.getElem?_append_left (by rw [parts_len]; omega)]
      exact ih h
    · have : j = m := by omega
      subst this
      rw [List.getElem?_append_right (by rw [parts_len]; omega), parts_len, Nat.add_sub_cancel_left]
/-- the parts, at a row of the call's own -/
def PartsAt (pb m : Nat) (W : Int) (q : Nat) (D : ByteArray) (w : World) : Prop := ∀ j, j < m →
  w.cell? ⟨pb, j * 3, none⟩ = some (.int .i64 ((q + j : Nat) : Int)) ∧ w.cell? ⟨pb, j * 3 + 1, none⟩ = some (.bool (!(W == 0))) ∧ w.cell? ⟨pb, j * 3 + 2, none⟩ = some (.string (partD W D j))
theorem parts_own {w : World} {W : Int} {q m base : Nat} {D : ByteArray} {v : Value} (h : w.ownsRow base 89 3 v m (partsL W q D m)) (h0 : 0 < m) :
    ∃ pb cap, v = .slice (some ⟨pb, 0, none⟩) m cap ∧ m ≤ cap ∧ cap ≤ maxLen ∧ base ≤ pb ∧ pb < w.heap.size ∧ PartsAt pb m W q D w := by
  rcases h.2 with ⟨-, h2⟩ | ⟨g, cap, cur, rfl, h1, h2, h3, h4, h5, h6⟩
  · omega
  · refine ⟨g, cap, rfl, h3, h4, h1, lt_heap h2, fun j hj => ?_⟩
    have hc : ∀ i, i < 3 → w.cell? ⟨g, j * 3 + i, none⟩ = (partK W q D j)[i]? := by
      intro i hi
      rw [← parts_getF W q D m j i hj hi, ← h6]
      simp only [World.cell?, h2]
      rw [List.getElem?_take_of_lt (by omega)]
      simp
    exact ⟨hc 0 (by decide), hc 1 (by decide), hc 2 (by decide)⟩
theorem PartsAt.move {pb m : Nat} {W : Int} {q : Nat} {D : ByteArray} {w w' : World} (h : PartsAt pb m W q D w) (hb : w'.heap[pb]? = w.heap[pb]?) : PartsAt pb m W q D w' := fun j hj => by
  obtain ⟨h1, h2, h3⟩ := h j hj
  exact ⟨(World.cell?_of_block (a := ⟨pb, _, none⟩) hb).trans h1, (World.cell?_of_block (a := ⟨pb, _, none⟩) hb).trans h2, (World.cell?_of_block (a := ⟨pb, _, none⟩) hb).trans h3⟩
/-- k parts are done -/
structure FRel (b g R X pb m : Nat) (i W : Int) (q : Nat) (D : ByteArray) (L : List ByteArray) (k : Nat) (w wr : World) : Prop where
  zero : wr.heap[X]? = some (.cells #[.int .i64 0, .int .i64 0, .string ⟨#[]⟩] 52)
  out : wr.heap[R]? = some (.cells #[.int .i64 i, .int .i64 0, .string ⟨(outL W q L k).toArray⟩] 52)
  flat : FlatAt b g (doL W q D L k) wr
  parts : PartsAt pb m W q D wr
  only : Only g w wr
  lt : pb < wr.heap.size
theorem only_setRow {g : Nat} {w w' : World} (h : Only g w w') (cs : Array Value) : Only g w (w'.setRow g cs) :=
  h.trans ⟨rfl, rfl, rfl, by simp [World.setRow], fun k hk hne => setRow_other w' g k cs (by omega)⟩
theorem FRel.write {b g R X pb m : Nat} {i W : Int} {q : Nat} {D : ByteArray} {L : List ByteArray} {k : Nat} {w wr : World} (h : FRel b g R X pb m i W q D L k w wr) (hL : Blks L) (hD : W = 1 → D.size = 32 * m) (hW : W = 1 ∨ W = 2) (hk : k < m) (hq : q + m ≤ L.length) (hg : g < w.heap.size) (hX : w.heap.size ≤ X) (hR : w.heap.size ≤ R) (hp : w.heap.size ≤ pb) (o : Obj) :
    FRel b g R X pb m i W q D L (k + 1) w ((wr.alloc o).setRow g (splice (bCells (flatL (doL W q D L k))) (32 * (q + k)) (Lib.strCells (partD W D k))).toArray) := by
  have hB : Blks (doL W q D L k) := doL_blks hL hD (.inr hW) k (by omega)
  have hne : W ≠ 0 := by omega
  have hl := doL_len W q D L k
  have ha : ∀ c, c < wr.heap.size → (wr.alloc o).heap[c]? = wr.heap[c]? := fun c hc => ((Below.refl wr.heap.size wr).alloc (Nat.le_refl _) o).block c hc
  have ho : ∀ c, c < wr.heap.size → c ≠ g → ((wr.alloc o).setRow g (splice (bCells (flatL (doL W q D L k))) (32 * (q + k)) (Lib.strCells (partD W D k))).toArray).heap[c]? = wr.heap[c]? := fun c hc hn => (setRow_other _ g c _ (by omega)).trans (ha c hc)
  have hgl := lt_heap h.flat.2.1
  refine ⟨(ho X (lt_heap h.zero) (by omega)).trans h.zero, ?_, ⟨?_, ?_, h.flat.2.2⟩, h.parts.move (ho pb h.lt (by omega)), only_setRow (h.only.alloc o) _, by simp [World.setRow]; have := h.lt; omega⟩
  · rw [outL, if_neg hne, List.append_nil]
    exact (ho R (lt_heap h.out) (by omega)).trans h.out
  · rw [doL, if_neg hne, List.length_set]
    exact (ho b (lt_heap h.flat.1) h.flat.2.2).trans h.flat.1
  · rw [doL, if_neg hne, flatL_set hB (by omega) (partD_size hD hk hW), ← splice_bCells, ← bCells_str]
    exact setRow_heap _ g _ _ _ _ ((ha g hgl).trans h.flat.2.1)
theorem FRel.read {b g R X pb m : Nat} {i : Int} {q : Nat} {D : ByteArray} {L : List ByteArray} {k : Nat} {w wr : World} (h : FRel b g R X pb m i 0 q D L k w wr) (hL : Blks L) (hk : k < m) (hq : q + m ≤ L.length) (hg : g < w.heap.size) (hb : b < w.heap.size) (hX : w.heap.size ≤ X) (hR : w.heap.size ≤ R) (hp : w.heap.size ≤ pb) (hXR : X < R) (hRp : R < pb) (o : Obj) {s : ByteArray} (hs : s = ⟨(outL 0 q L (k + 1)).toArray⟩) :
    FRel b g R X pb m i 0 q D L (k + 1) w ((wr.alloc o).setCell ⟨R, 2, none⟩ (.string s)) := by
  subst hs
  have ha : ∀ c, c < wr.heap.size → (wr.alloc o).heap[c]? = wr.heap[c]? := fun c hc => ((Below.refl wr.heap.size wr).alloc (Nat.le_refl _) o).block c hc
  have ho : ∀ c, c < wr.heap.size → c ≠ R → ((wr.alloc o).setCell ⟨R, 2, none⟩ (.string ⟨(outL 0 q L (k + 1)).toArray⟩)).heap[c]? = wr.heap[c]? := fun c hc hn => (Below.heap_setCell _ _ _ _ hn).trans (ha c hc)
  have hf := h.flat
  rw [doL_read] at hf
  have oR : Only R (wr.alloc o) ((wr.alloc o).setCell ⟨R, 2, none⟩ (.string ⟨(outL 0 q L (k + 1)).toArray⟩)) := (Only.refl _ _).set 2 _
  refine ⟨(ho X (lt_heap h.zero) (by omega)).trans h.zero, heap_set_self ((ha R (lt_heap h.out)).trans h.out) 2 _, ?_, h.parts.move (ho pb h.lt (by omega)), ?_, by simp; have := h.lt; omega⟩
  · rw [doL_read]
    exact ⟨(ho b (lt_heap hf.1) (by omega)).trans hf.1, (ho g (lt_heap hf.2.1) (by omega)).trans hf.2.1, hf.2.2⟩
  · have h1 : Only g w (wr.alloc o) := h.only.alloc o
    exact ⟨oR.os.trans h1.os, oR.tape.trans h1.tape, oR.output.trans h1.output, Nat.le_trans h1.size oR.size, fun c hc hn => (oR.block c (Nat.lt_of_lt_of_le hc h1.size) (by omega)).trans (h1.block c hc hn)⟩
end Go.Proofs.Ytodjlaapmbnahaa
