/-
  Several texts, laid together.
-/
import Derived.Test.YtfgmeeponipjeaaMg16
/-
  tarnref09: Lay, where it is laid; Drop.
-/

namespace Go.Proofs.Ytfgmeeponipjeaa
open Go.RowKit
set_option linter.unusedVariables false
set_option linter.unusedSimpArgs false

/-- what the loop of Lay keeps -/
def LRel (N : Nat) (w : World) (l : List HI) (k : Nat) (x : HI) (j : Nat) (o : Value) (wr : World) : Prop := wr.ownsRow N 131 3 o (outL l k x j).length (hCells (outL l k x j)) ∧ Below N w wr
theorem lrel_to {N : Nat} {w wr : World} {l : List HI} {k j : Nat} {x : HI} {o : Value} {L : List HI} (h : wr.ownsRow N 131 3 o L.length (hCells L)) (hb : Below N w wr) (e : outL l k x j = L) : LRel N w l k x j o wr := by
  unfold LRel
  rw [e]
  exact ⟨h, hb⟩
theorem lapp_below {N : Nat} {w wr w2 : World} {ob : Obj} {o : Value} {n : Nat} {xs : List Value} (hb : Below N w wr) (hN : N ≤ wr.heap.size) (ho : wr.ownsRow N 131 3 o n xs) (hg : (wr.alloc ob).grownBy w2 o.ownBlock) : Below N w w2 :=
  below_app (hb.alloc hN ob) hg (ho.alloc ob) (Nat.le_refl _) (by simp; omega)
theorem own_mono {w : World} {base base' n size : Nat} {e : TypeId} {v : Value} {xs : List Value} (h : w.ownsRow base e size v n xs) (hb : base' ≤ base) : w.ownsRow base' e size v n xs :=
  ⟨h.1, h.2.imp id fun ⟨g, cap, cur, a, b, c⟩ => ⟨g, cap, cur, a, Nat.le_trans hb b, c⟩⟩
end Go.Proofs.Ytfgmeeponipjeaa
/-
  tarnref09: Lay, whatever comes; Drop.
-/

namespace Go.Proofs.Ytfgmeeponipjeaa
open Go.RowKit
set_option linter.unusedVariables false
set_option linter.unusedSimpArgs false

def dropQ (b ver : Int) (h : HI) : Bool := h.b == b && decide (h.v ≤ ver)
theorem drop_snoc (l : List HI) (x : HI) (b ver : Int) : dropL (l ++ [x]) b ver = dropL l b ver ++ (if dropQ b ver x = true then [] else [x]) := by
  unfold dropL dropQ
  rw [List.filter_append]
  congr 1
  cases h : (x.b == b && decide (x.v ≤ ver)) <;> simp only [List.filter_cons, List.filter_nil, h] <;> rfl
theorem drops_any {l : List HI} (hs : Srt l) (b ver : Int) : l.any (dropQ b ver) = dropsL l b ver := by
  cases split_of l b hs.pw with
  | no A B e hA hB =>
    subst e
    rw [dropsL_no hA hB, List.any_eq_false]
    intro y hy
    have : y.b ≠ b := by
      rcases List.mem_append.1 hy with h | h
      · have := hA y h; omega
      · have := hB y h; omega
    simp [dropQ, this]
  | yes A y B e hy hA hB =>
    subst e
    rw [dropsL_yes hA hy, Bool.eq_iff_iff, List.any_eq_true]
    constructor
    · rintro ⟨z, hz, hq⟩
      simp only [dropQ, Bool.and_eq_true, beq_iff_eq, decide_eq_true_eq] at hq
      rcases List.mem_append.1 hz with h | h
      · have := hA z h; omega
      · rcases List.mem_cons.1 h with rfl | h
        · exact decide_eq_true hq.2
        · have := hB z h; omega
    · intro h
      exact ⟨y, by simp, by simp [dropQ, hy, of_decide_eq_true h]⟩
theorem drop_len (l : List HI) (b v : Int) : (dropL l b v).length ≤ l.length := List.length_filter_le _ _
end Go.Proofs.Ytfgmeeponipjeaa
/-
  ItemsPlay: a set of items and the document's list beside it, through whatever is laid and dropped.
-/

namespace Go.Proofs.Ytfgmeeponipjeaa
open Go.RowKit
set_option linter.unusedVariables false
set_option linter.unusedSimpArgs false

/-- a set at p, and beside it a slice that reads as the same items -/
structure IRel (w0 w : World) (p : Nat) (mv sv : Value) (l : List HI) : Prop where
  set : SetAt w w0.heap.size p sv l
  mir : SR w mv 3 l.length (hCells l)
  mlt : ∀ b, mv.ownBlock = some b → b < w.heap.size
  apart : Apart mv sv p
  below : Below w0.heap.size w0 w
theorem IRel.go {w0 w w' : World} {p : Nat} {mv sv : Value} {l : List HI} (h : IRel w0 w p mv sv l) (hb : Below w.heap.size w w') : IRel w0 w' p mv sv l :=
  ⟨h.set.below hb, h.mir.below hb, fun b e => Nat.lt_of_lt_of_le (h.mlt b e) hb.size, h.apart, h.below.trans (hb.mono h.below.size)⟩
theorem IRel.step {w0 w w1 w2 : World} {p : Nat} {mv mv' sv sv' : Value} {l l' : List HI} (h : IRel w0 w p mv sv l) (hb : Below w.heap.size w w1) (hm : SR w1 mv' 3 l'.length (hCells l')) (hn : NewRow w mv mv')
    (hlt : ∀ k, mv'.ownBlock = some k → mv.ownBlock = some k ∨ k < w1.heap.size) (hs : SetAt w2 w0.heap.size p sv' l') (hk : OKept w1 w2 w0.heap.size p sv sv') : IRel w0 w2 p mv' sv' l' := by
  have ha : Apart mv' sv p := by
    intro b e
    rcases hn with hn | hn
    · exact h.apart b (hn.symm.trans e)
    · have h1 := hn b e
      have h2 := lt_heap h.set.2.1
      refine ⟨by omega, fun e2 => ?_⟩
      have := (h.set.2.2.1.lt b e2.symm).2
      omega
  have hb' : ∀ b, mv'.ownBlock = some b → b < w1.heap.size := fun b e => by
    rcases hlt b e with q | q
    · exact Nat.lt_of_lt_of_le (h.mlt b q) hb.size
    · exact q
  exact ⟨hs, sr_kept hm ha hk, fun b e => Nat.lt_of_lt_of_le (hb' b e) hk.size, apart_kept ha hb' hk, (h.below.trans (hb.mono h.below.size)).trans hk.below⟩
/-- and a block of another's: it is neither the set's nor its row's -/
structure IBlk (w : World) (p : Nat) (sv : Value) (X : Nat) (o : Obj) : Prop where
  at_ : w.heap[X]? = some o
  ne : X ≠ p
  nr : some X ≠ sv.ownBlock
theorem IBlk.go {w w' : World} {p : Nat} {sv : Value} {X : Nat} {o : Obj} (h : IBlk w p sv X o) (hb : Below w.heap.size w w') : IBlk w' p sv X o := ⟨below_at hb (lt_heap h.at_) h.at_, h.ne, h.nr⟩
theorem IBlk.step {w w' : World} {N p : Nat} {sv sv' : Value} {X : Nat} {o : Obj} (h : IBlk w p sv X o) (hk : OKept w w' N p sv sv') : IBlk w' p sv' X o := by
  have hlt := lt_heap h.at_
  refine ⟨(hk.block X hlt h.ne h.nr).trans h.at_, h.ne, fun e => ?_⟩
  rcases hk.new with q | q
  · exact h.nr (e.trans q)
  · have := q X e.symm; omega
theorem IBlk.new {w0 w w' : World} {p : Nat} {mv sv : Value} {l : List HI} {X : Nat} {o : Obj} (h : IRel w0 w p mv sv l) (ha : w'.heap[X]? = some o) (hX : w.heap.size ≤ X) : IBlk w' p sv X o := by
  refine ⟨ha, ?_, fun e => ?_⟩
  · have := lt_heap h.set.2.1; omega
  · have := (h.set.2.2.1.lt X e.symm).2; omega
theorem irel_start (w : World) : IRel w ((w.alloc (.cells #[.slice none 0 0] 122)).alloc (.cells #[] 131)) w.heap.size (.slice (some ⟨w.heap.size + 1, 0, none⟩) 0 0) (.slice none 0 0) [] := by
  have h1 : (w.alloc (.cells #[.slice none 0 0] 122)).heap.size = w.heap.size + 1 := by simp
  have hb : Below (w.alloc (.cells #[.slice none 0 0] 122)).heap.size (w.alloc (.cells #[.slice none 0 0] 122)) ((w.alloc (.cells #[.slice none 0 0] 122)).alloc (.cells #[] 131)) := (Below.refl _ _).alloc (Nat.le_refl _) _
  refine ⟨(set_new w).below hb, ⟨_, 0, rfl, Nat.le_refl _, Nat.zero_le _, rfl, .inl rfl⟩, ?_, ?_, ((Below.refl _ _).alloc (Nat.le_refl _) _).trans (hb.mono (by omega))⟩
  · intro b e
    cases e
    simp
  · intro b e
    cases e
    exact ⟨by simp, fun e => by cases e⟩
/-- the document's Lay, as a step -/
theorem IRel.lay {w0 w w1 w2 : World} {p : Nat} {mv mv' sv sv' : Value} {l : List HI} {x : HI} {m : Bool} (h : IRel w0 w p mv sv l) (hb : Below w.heap.size w w1) (hm : SR w1 mv' 3 (putL m l x).length (hCells (putL m l x))) (hn : NewRow w mv mv')
    (hlt : ∀ k, mv'.ownBlock = some k → mv.ownBlock = some k ∨ k < w1.heap.size) (hs : SetAt w2 w0.heap.size p sv' (putL m l x)) (hk : OKept w1 w2 w0.heap.size p sv sv') : IRel w0 w2 p mv' sv' (putL m l x) := h.step hb hm hn hlt hs hk
theorem IRel.drop {w0 w w1 w2 : World} {p : Nat} {mv mv' sv sv' : Value} {l l' : List HI} (h : IRel w0 w p mv sv l) (hb : Below w.heap.size w w1) (hm : w1.ownsRow w.heap.size 131 3 mv' l'.length (hCells l'))
    (hs : SetAt w2 w0.heap.size p sv' l') (hk : OKept w1 w2 w0.heap.size p sv sv') : IRel w0 w2 p mv' sv' l' :=
  h.step hb (SR.owns hm) (.inr fun b e => (hm.lt b e).1) (fun b e => .inr (hm.lt b e).2) hs hk
theorem u64_and (v : Int) (m : Int) : (Lit.int .u64 (bits .and .u64 v m)).wf = true := wf_bits _ _ _ _
/-- an item's cells where it lies -/
theorem item_cells {w : World} {X : Nat} {V : Int} {D : ByteArray} (h : w.heap[X]? = some (.cells #[.int .u64 V, .string D] 54)) :
    w.cell? ⟨X, 0, none⟩ = some (.int .u64 V) ∧ w.cell? ⟨X, 1, none⟩ = some (.string D) ∧ w.frozen? ⟨X, 0, none⟩ = false ∧ w.frozen? ⟨X, 1, none⟩ = false :=
  ⟨by simp [World.cell?, h], by simp [World.cell?, h], by simp [World.frozen?, h], by simp [World.frozen?, h]⟩
end Go.Proofs.Ytfgmeeponipjeaa
