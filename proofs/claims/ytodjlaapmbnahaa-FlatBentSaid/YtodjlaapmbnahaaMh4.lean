/-
  Several texts, laid together.
-/
import Derived.Test.YtodjlaapmbnahaaHsD
import Derived.Deep.MidRow
import Derived.Test.YtodjlaapmbnahaaFltK
/-
  A history's clients: who asks, whose is done, whose is told; arrays of so many cells.
-/

namespace Go.Proofs.Ytodjlaapmbnahaa
open Go.RowKit
set_option linter.unusedVariables false
set_option linter.unusedSimpArgs false

def updF {α : Type} (f : Nat → α) (q : Nat) (v : α) : Nat → α := fun r => if r = q then v else f r
theorem updF_self {α : Type} (f : Nat → α) (q : Nat) (v : α) : updF f q v q = v := if_pos rfl
theorem updF_other {α : Type} (f : Nat → α) {q r : Nat} (v : α) (h : r ≠ q) : updF f q v r = f r := if_neg h
structure Cl (ops : List OpR) (P : Nat → Nat) (op : Nat → OpR) : Prop where
  le : ∀ q, q < 4 → P q ≤ 2
  on : ∀ q, q < 4 → P q ≠ 0 → op q ∈ ops ∧ (op q).told = none ∧ (op q).done = decide (P q = 2)
  dis : ∀ q r, q < 4 → r < 4 → q ≠ r → P q ≠ 0 → P r ≠ 0 → (op q).id ≠ (op r).id
theorem cl0 (op : Nat → OpR) : Cl [] (fun _ => 0) op := ⟨fun _ _ => Nat.zero_le _, fun _ _ h => absurd rfl h, fun _ _ _ _ _ h => absurd rfl h⟩
theorem Cl.ask {ops : List OpR} {P : Nat → Nat} {op : Nat → OpR} (h : Cl ops P op) {q : Nat} (x : OpR) (hd : x.done = false) (ht : x.told = none) (hid : ∀ y ∈ ops, y.id ≠ x.id) : Cl (x :: ops) (updF P q 1) (updF op q x) := by
  refine ⟨fun r hr => ?_, fun r hr h0 => ?_, fun r s hr hs hne h1 h2 => ?_⟩
  · by_cases e : r = q
    · subst e; rw [updF_self]; omega
    · rw [updF_other _ _ e]; exact h.le r hr
  · by_cases e : r = q
    · subst e; rw [updF_self, updF_self]; exact ⟨List.mem_cons_self .., ht, hd⟩
    · rw [updF_other _ _ e] at h0 ⊢
      rw [updF_other _ _ e]
      obtain ⟨a, b⟩ := h.on r hr h0
      exact ⟨List.mem_cons_of_mem _ a, b⟩
  · by_cases e : r = q
    · subst e
      rw [updF_other _ _ (Ne.symm hne)] at h2
      rw [updF_self, updF_other _ _ (Ne.symm hne)]
      exact fun e => hid _ (h.on s hs h2).1 e.symm
    · rw [updF_other _ _ e] at h1
      rw [updF_other _ _ e]
      by_cases e2 : s = q
      · subst e2; rw [updF_self]; exact hid _ (h.on r hr h1).1
      · rw [updF_other _ _ e2] at h2 ⊢; exact h.dis r s hr hs hne h1 h2
theorem Cl.did {ops : List OpR} {P : Nat → Nat} {op : Nat → OpR} (h : Cl ops P op) {q : Nat} (hq : q < 4) (hP : P q = 1) (o : ByteArray) : Cl (rep ops { op q with done := true, out := o }) (updF P q 2) (updF op q { op q with done := true, out := o }) := by
  refine ⟨fun r hr => ?_, fun r hr h0 => ?_, fun r s hr hs hne h1 h2 => ?_⟩
  · by_cases e : r = q
    · subst e; rw [updF_self]; omega
    · rw [updF_other _ _ e]; exact h.le r hr
  · by_cases e : r = q
    · subst e; rw [updF_self, updF_self]; exact ⟨mem_rep.2 (.inl rfl), (h.on r hr (by omega)).2.1, rfl⟩
    · rw [updF_other _ _ e] at h0 ⊢
      rw [updF_other _ _ e]
      obtain ⟨a, b⟩ := h.on r hr h0
      exact ⟨mem_rep.2 (.inr ⟨a, h.dis r q hr hq e h0 (by omega)⟩), b⟩
  · by_cases e : r = q
    · subst e
      rw [updF_other _ _ (Ne.symm hne)] at h2
      rw [updF_self, updF_other _ _ (Ne.symm hne)]
      exact h.dis r s hr hs hne (by omega) h2
    · rw [updF_other _ _ e] at h1
      rw [updF_other _ _ e]
      by_cases e2 : s = q
      · subst e2; rw [updF_self]; exact h.dis r s hr hs hne h1 (by omega)
      · rw [updF_other _ _ e2] at h2 ⊢; exact h.dis r s hr hs hne h1 h2
theorem Cl.mute {ops : List OpR} {P : Nat → Nat} {op : Nat → OpR} (h : Cl ops P op) {q : Nat} : Cl ops (updF P q 0) op := by
  have hr : ∀ r, updF P q 0 r ≠ 0 → P r ≠ 0 ∧ r ≠ q := fun r h0 => by
    by_cases e : r = q
    · subst e; rw [updF_self] at h0; exact absurd rfl h0
    · rw [updF_other _ _ e] at h0; exact ⟨h0, e⟩
  refine ⟨fun r hr => ?_, fun r hr' h0 => ?_, fun r s hr' hs hne h1 h2 => h.dis r s hr' hs hne (hr r h1).1 (hr s h2).1⟩
  · by_cases e : r = q
    · subst e; rw [updF_self]; omega
    · rw [updF_other _ _ e]; exact h.le r hr
  · have := h.on r hr' (hr r h0).1
    rw [updF_other _ _ (hr r h0).2]
    exact this
theorem Cl.tell {ops : List OpR} {P : Nat → Nat} {op : Nat → OpR} (h : Cl ops P op) {q : Nat} (hq : q < 4) (hP : P q = 2) (n : Nat) : Cl (rep ops { op q with told := some n }) (updF P q 0) op := by
  have h0 := h.mute (q := q)
  refine ⟨h0.le, fun r hr h1 => ?_, h0.dis⟩
  obtain ⟨a, b⟩ := h0.on r hr h1
  have e : r ≠ q := fun e => by subst e; rw [updF_self] at h1; exact h1 rfl
  rw [updF_other _ _ e] at h1
  exact ⟨mem_rep.2 (.inr ⟨a, h.dis r q hr hq e h1 (by omega)⟩), b⟩
/-- an array of so many cells -/
def Arr (w : World) (b n : Nat) (t : TypeId) (f : Nat → Value) : Prop := ∃ c, w.heap[b]? = some (.cells c t) ∧ c.size = n ∧ ∀ k, k < n → c[k]? = some (f k)
theorem Arr.below {w w' : World} {b n : Nat} {t : TypeId} {f : Nat → Value} (h : Arr w b n t f) (hb : Below w.heap.size w w') : Arr w' b n t f := by
  obtain ⟨c, h1, h2⟩ := h
  exact ⟨c, below_at hb (lt_heap h1) h1, h2⟩
theorem Arr.move {w w' : World} {b n : Nat} {t : TypeId} {f : Nat → Value} (h : Arr w b n t f) (hb : w'.heap[b]? = w.heap[b]?) : Arr w' b n t f := by
  obtain ⟨c, h1, h2⟩ := h
  exact ⟨c, hb.trans h1, h2⟩
theorem Arr.cell {w : World} {b n : Nat} {t : TypeId} {f : Nat → Value} (h : Arr w b n t f) {k : Nat} (hk : k < n) : w.cell? ⟨b, k, none⟩ = some (f k) := by
  obtain ⟨c, h1, h2, h3⟩ := h
  exact cell_atF h1 k (h3 k hk)
theorem Arr.frozen {w : World} {b n : Nat} {t : TypeId} {f : Nat → Value} (h : Arr w b n t f) (k : Nat) : w.frozen? ⟨b, k, none⟩ = false := by
  obtain ⟨c, h1, h2, h3⟩ := h
  simp [World.frozen?, h1]
theorem Arr.set {w : World} {b n : Nat} {t : TypeId} {f : Nat → Value} (h : Arr w b n t f) (k : Nat) (v : Value) : Arr (w.setCell ⟨b, k, none⟩ v) b n t (updF f k v) := by
  obtain ⟨c, h1, h2, h3⟩ := h
  refine ⟨_, heap_set_self h1 k v, ?_, fun j hj => ?_⟩
  · simp [h2]
  · by_cases e : j = k
    · subst e
      rw [updF_self]
      simp [Array.getElem?_setIfInBounds, h2, hj]
    · rw [updF_other _ _ e, ← h3 j hj]
      simp [Array.getElem?_setIfInBounds, Ne.symm e]
theorem Arr.ext {w : World} {b n : Nat} {t : TypeId} {f g : Nat → Value} (h : Arr w b n t f) (e : ∀ k, k < n → g k = f k) : Arr w b n t g := by
  obtain ⟨c, h1, h2, h3⟩ := h
  exact ⟨c, h1, h2, fun k hk => (h3 k hk).trans (by rw [e k hk])⟩
end Go.Proofs.Ytodjlaapmbnahaa
/-
  A history's events in memory: a row of its own beside plain memory's blocks.
-/


namespace Go.Proofs.Ytodjlaapmbnahaa
open Go.RowKit
set_option linter.unusedVariables false
set_option linter.unusedSimpArgs false

def evCH (l : List Ev) : List Value := l.flatMap Ev.c
theorem evC_appH (a b : List Ev) : evCH (a ++ b) = evCH a ++ evCH b := by simp [evCH]
theorem evC_oneH (l : List Ev) : ∀ y ∈ evCH l, y.oneCell' = true := by
  intro y hy
  simp only [evCH, List.mem_flatMap] at hy
  obtain ⟨u, hu, hy⟩ := hy
  simp only [Ev.c, List.mem_cons, List.not_mem_nil, or_false] at hy
  rcases hy with rfl | rfl | rfl | rfl | rfl | rfl | rfl | rfl | rfl | rfl <;> rfl
theorem einfoH : (Try.prog.info? 36).map (fun i => (i.zero, i.size, i.bytes)) = some (some (.agg #[.bool false, .int .i64 0, .int .i64 0, .int .i64 0, .int .i64 0, .int .i64 0, .string ⟨#[]⟩, .bool false, .int .i64 0, .string ⟨#[]⟩]), 10, 96) := by kernel_rfl
/-- a history's own row lies in no block of plain memory's -/
theorem apart_vH {N p c n : Nat} {hv : Value} {L : List ByteArray} {E : List Ev} {w : World} (hV : VAt p c L w) (hL : 0 < L.length) (ho : w.ownsRow N 36 10 hv n (evCH E)) (hE : E ≠ []) : hv.ownBlock ≠ some p := by
  intro e
  obtain ⟨a, cap, e1, h1, h2, h3, h4⟩ := hV.2.2.1
  injection e1 with e1 e2 e3
  subst e1
  obtain ⟨b, off, e4, hb, hc⟩ := h4.resolve_left (by omega)
  injection e4 with e4
  injection e4 with e4 e5
  subst e4 e5
  have c1 := hc 0 (.string L[0]) (by simp [sCellsF, hL])
  obtain ⟨x, t, rfl⟩ := List.exists_cons_of_ne_nil hE
  have c2 := ho.cells e 0 (.bool x.ans) rfl
  have hadd : (⟨p, 0, none⟩ : Addr).add 0 = ⟨p, 0, none⟩ := by unfold Addr.add; split <;> simp_all
  rw [hadd] at c2
  rw [c1] at c2
  cases c2
theorem own_movePH {w w' : World} {base : Nat} {e : TypeId} {size n : Nat} {v : Value} {xs : List Value} (h : w.ownsRow base e size v n xs) (hk : ∀ g, v.ownBlock = some g → w'.heap[g]? = w.heap[g]?) : w'.ownsRow base e size v n xs := by
  refine ⟨h.1, ?_⟩
  rcases h.2 with hn | ⟨g, cap, cur, rfl, hb, hg, rest⟩
  · exact .inl hn
  · exact .inr ⟨g, cap, cur, rfl, hb, (hk g rfl).trans hg, rest⟩
theorem VAt.grownH {p c : Nat} {L : List ByteArray} {w w' : World} {row : Option Nat} (h : VAt p c L w) (hg : w.grownBy w' row) (hne : row ≠ some p) : VAt p c L w' := by
  cases row with
  | none => exact h.below ⟨hg.os, hg.tape, hg.output, hg.size, fun k hk => hg.block k hk (by simp)⟩
  | some g => exact h.only (g := g) ⟨hg.os, hg.tape, hg.output, hg.size, fun k hk hn => hg.block k hk (fun e => hn (Option.some.inj e))⟩ (fun e => hne (by rw [e]))
theorem setCell_idH {w : World} {b i : Nat} {A : Array Value} {t : TypeId} {v : Value} (h : w.heap[b]? = some (.cells A t)) (hv : A[i]? = some v) : w.setCell ⟨b, i, none⟩ v = w := by
  have hh : (w.setCell ⟨b, i, none⟩ v).heap = w.heap := by
    apply Array.ext_getElem?
    intro k
    by_cases hk : k = b
    · subst hk
      rw [heap_setCell_same _ _ _ _ _ _ h, h]
      congr 2
      obtain ⟨hk, -⟩ := Array.getElem?_eq_some_iff.1 hv
      apply Array.ext_getElem?
      intro j
      rw [Array.getElem?_setIfInBounds]
      split
      · next e => subst e; exact hv.symm
      · rfl
    · exact heap_setCell_other _ _ _ _ hk
  have : (w.setCell ⟨b, i, none⟩ v) = { w with heap := (w.setCell ⟨b, i, none⟩ v).heap } := rfl
  rw [this, hh]
theorem setCells_sameH {b : Nat} {w : World} {A : Array Value} {t : TypeId} (h : w.heap[b]? = some (.cells A t)) : ∀ (vs : List Value) (o : Nat), (∀ j v, vs[j]? = some v → A[o + j]? = some v) → w.setCells b o vs = w
  | [], _, _ => rfl
  | v :: vs, o, hv => by
    have h0 : A[o]? = some v := hv 0 v rfl
    show (w.setCell ⟨b, o, none⟩ v).setCells b (o + 1) vs = w
    rw [setCell_idH h h0]
    exact setCells_sameH h vs (o + 1) fun j x hx => by rw [Nat.add_assoc, Nat.add_comm 1 j]; exact hv (j + 1) x hx
theorem wpList_store_same {P : Program} {ops : Array Oper} {rest : List Oper} {op : Oper} {a : Act} {w : World} {Q : Exit → Act → World → Prop} (hgd : op.guard = none) (ty : TypeId) (x y : Operand) (ho : op.op = .store ty x y)
    (b : Nat) (cells : Array Value) (hx : a.eval x = .pointer (some ⟨b, 0, none⟩)) (hy : a.eval y = .agg cells) (hc : w.heap[b]? = some (.cells cells ty)) (hi : (P.info? ty).map (·.size) = some cells.size) (h1 : cells.all (·.oneCell') = true)
    (h : wpList P ops Q rest (a.put op.dst undef) w) : wpList P ops Q (op :: rest) a w := by
  refine wpList_store_mid hgd ty x y ho b 0 cells hx hy (fun j hj => ⟨?_, by simp [World.frozen?, hc]⟩) hi h1 ?_
  · rw [Nat.zero_add, cell_atF hc j (Array.getElem?_eq_getElem hj)]; rfl
  · rw [setCells_sameH hc _ _ fun j v hv => by rw [Nat.zero_add]; simpa using hv]
    exact h
theorem arr_of {w : World} {b : Nat} {c : Array Value} {t : TypeId} (h : w.heap[b]? = some (.cells c t)) : Arr w b c.size t (fun k => c[k]?.getD (.int .i64 0)) :=
  ⟨c, h, rfl, fun k hk => by simp [hk]⟩
theorem three_newH (w : World) (o p q : Obj) : (((w.alloc o).alloc p).alloc q).heap[w.heap.size]? = some o ∧ (((w.alloc o).alloc p).alloc q).heap[w.heap.size + 1]? = some p ∧ (((w.alloc o).alloc p).alloc q).heap[w.heap.size + 1 + 1]? = some q ∧ Below w.heap.size w (((w.alloc o).alloc p).alloc q) := by
  obtain ⟨h1, h2, h3, h4⟩ := two_newF w o p
  have hb : Below ((w.alloc o).alloc p).heap.size ((w.alloc o).alloc p) (((w.alloc o).alloc p).alloc q) := (Below.refl _ _).alloc (Nat.le_refl _) _
  refine ⟨below_at hb (lt_heap h1) h1, below_at hb (lt_heap h2) h2, ?_, h3.trans (hb.mono h3.size)⟩
  have := heap_alloc_self ((w.alloc o).alloc p) q
  rw [h4] at this
  exact this
end Go.Proofs.Ytodjlaapmbnahaa
/-
  tarnlaw35.history: its relation and its steps.
-/


namespace Go.Proofs.Ytodjlaapmbnahaa
open Go.RowKit
set_option linter.unusedVariables false
set_option linter.unusedSimpArgs false

structure TurnF where
  who : Int
  ask : AskF
  mute : Bool
def TurnF.cells (t : TurnF) : List Value := [.int .i64 t.who, .int .i64 t.ask.W, .int .i64 t.ask.A, .int .i64 t.ask.L, .string t.ask.D, .bool t.ask.S, .bool t.mute]
def TurnF.ok (t : TurnF) : Prop := (Lit.int .i64 t.who).wf = true ∧ t.ask.ok
theorem fits_turnF {w : World} (ys : List Value) (h : Fits w (.two (.int .i64) (.two (.two (.int .i64) (.two (.int .i64) (.two (.int .i64) (.two .str (.two .bool .unit))))) (.two .bool .unit))) ys) : ∃ x : TurnF, ys = x.cells ∧ x.ok := by
  obtain ⟨x0, y0, e0, ⟨Wh, rfl, hW⟩, x1, y1, rfl, hA, x2, y2, rfl, ⟨M, rfl⟩, rfl⟩ := h
  obtain ⟨x, rfl, hx⟩ := fits_askF _ hA
  exact ⟨⟨Wh, x, M⟩, e0, hW, hx⟩
/-- what was asked for: its numbers fit -/
def OpR.fine (x : OpR) : Prop := (Lit.int .i64 x.A).wf = true ∧ (Lit.int .i64 x.L).wf = true ∧ x.D.size ≤ maxLen ∧ x.out.size ≤ 128
/-- what lies in memory -/
structure HM (N Y : Nat) (w0 : World) (E : List Ev) (V : List ByteArray) (f7 f8 f9 : Nat → Value) (hv : Value) (wr : World) : Prop where
  v : ∃ p c, VAt p c V wr ∧ wr.heap[Y]? = some (.cells #[.slice (some ⟨p, 0, none⟩) 4 c] 47) ∧ (p < Y ∨ Y + 3 < p) ∧ hv.ownBlock ≠ some p
  row : wr.ownsRow N 36 10 hv E.length (evCH E)
  a7 : Arr wr (Y + 1) 4 49 f7
  a8 : Arr wr (Y + 1 + 1) 20 50 f8
  a9 : Arr wr (Y + 1 + 1 + 1) 12 53 f9
  low : Below N w0 wr
  big : N ≤ wr.heap.size
  NY : N < Y
theorem HM.below {N Y : Nat} {w0 wr w' : World} {E : List Ev} {V : List ByteArray} {f7 f8 f9 : Nat → Value} {hv : Value} (h : HM N Y w0 E V f7 f8 f9 hv wr) (hb : Below wr.heap.size wr w') : HM N Y w0 E V f7 f8 f9 hv w' := by
  obtain ⟨p, c, h1, h2, h3, h4⟩ := h.v
  exact ⟨⟨p, c, h1.below hb, below_at hb (lt_heap h2) h2, h3, h4⟩, owns_below h.row hb, h.a7.below hb, h.a8.below hb, h.a9.below hb, h.low.trans (hb.mono h.big), Nat.le_trans h.big hb.size, h.NY⟩
/-- one of the three arrays changes -/
theorem HM.only {N Y b : Nat} {w0 wr w' : World} {E : List Ev} {V : List ByteArray} {f7 f8 f9 g7 g8 g9 : Nat → Value} {hv : Value} (h : HM N Y w0 E V f7 f8 f9 hv wr) (ho : Only b wr w') (hb : b = Y + 1 ∨ b = Y + 1 + 1 ∨ b = Y + 1 + 1 + 1)
    (h7 : Arr w' (Y + 1) 4 49 g7) (h8 : Arr w' (Y + 1 + 1) 20 50 g8) (h9 : Arr w' (Y + 1 + 1 + 1) 12 53 g9) : HM N Y w0 E V g7 g8 g9 hv w' := by
  obtain ⟨p, c, h1, h2, h3, h4⟩ := h.v
  obtain ⟨c7, x7, -⟩ := h.a7
  obtain ⟨c8, x8, -⟩ := h.a8
  obtain ⟨c9, x9, -⟩ := h.a9
  have hne : hv.ownBlock ≠ some b := by
    rcases hb with rfl | rfl | rfl
    · exact own_size h.row x7 (by decide)
    · exact own_size h.row x8 (by decide)
    · exact own_size h.row x9 (by decide)
  refine ⟨⟨p, c, h1.only ho (by omega), (ho.block Y (lt_heap h2) (by omega)).trans h2, h3, h4⟩, own_movePH h.row fun g e => ho.block g (h.row.lt g e).2 (fun q => hne (by rw [← q]; exact e)), h7, h8, h9, h.low.trans (ho.below (by have := h.NY; omega) h.big), Nat.le_trans h.big ho.size, h.NY⟩
theorem HM.set7 {N Y : Nat} {w0 wr : World} {E : List Ev} {V : List ByteArray} {f7 f8 f9 : Nat → Value} {hv : Value} (h : HM N Y w0 E V f7 f8 f9 hv wr) (k : Nat) (v : Value) : HM N Y w0 E V (updF f7 k v) f8 f9 hv (wr.setCell ⟨Y + 1, k, none⟩ v) :=
  h.only ((Only.refl _ _).set k v) (.inl rfl) (h.a7.set k v) (h.a8.move (heap_setCell_other _ _ _ _ (by show Y + 1 + 1 ≠ Y + 1; omega))) (h.a9.move (heap_setCell_other _ _ _ _ (by show Y + 1 + 1 + 1 ≠ Y + 1; omega)))
theorem HM.set8 {N Y : Nat} {w0 wr : World} {E : List Ev} {V : List ByteArray} {f7 f8 f9 : Nat → Value} {hv : Value} (h : HM N Y w0 E V f7 f8 f9 hv wr) (k : Nat) (v : Value) : HM N Y w0 E V f7 (updF f8 k v) f9 hv (wr.setCell ⟨Y + 1 + 1, k, none⟩ v) :=
  h.only ((Only.refl _ _).set k v) (.inr (.inl rfl)) (h.a7.move (heap_setCell_other _ _ _ _ (by show Y + 1 ≠ Y + 1 + 1; omega))) (h.a8.set k v) (h.a9.move (heap_setCell_other _ _ _ _ (by show Y + 1 + 1 + 1 ≠ Y + 1 + 1; omega)))
theorem HM.set9 {N Y : Nat} {w0 wr : World} {E : List Ev} {V : List ByteArray} {f7 f8 f9 : Nat → Value} {hv : Value} (h : HM N Y w0 E V f7 f8 f9 hv wr) (k : Nat) (v : Value) : HM N Y w0 E V f7 f8 (updF f9 k v) hv (wr.setCell ⟨Y + 1 + 1 + 1, k, none⟩ v) :=
  h.only ((Only.refl _ _).set k v) (.inr (.inr rfl)) (h.a7.move (heap_setCell_other _ _ _ _ (by show Y + 1 ≠ Y + 1 + 1 + 1; omega))) (h.a8.move (heap_setCell_other _ _ _ _ (by show Y + 1 + 1 ≠ Y + 1 + 1 + 1; omega))) (h.a9.set k v)
/-- an event is appended -/
theorem HM.app {N Y : Nat} {w0 wr w' : World} {E : List Ev} {V : List ByteArray} {f7 f8 f9 : Nat → Value} {hv v' : Value} {x : Ev} (h : HM N Y w0 E V f7 f8 f9 hv wr) (hV4 : V.length = 4) (hg : wr.grownBy w' hv.ownBlock) (hown : w'.ownsRow N 36 10 v' (E.length + 1) (evCH E ++ evCH [x])) : HM N Y w0 (E ++ [x]) V f7 f8 f9 v' w' := by
  obtain ⟨p, c, h1, h2, h3, h4⟩ := h.v
  have hA : ∀ {b n : Nat} {t : TypeId} {f : Nat → Value}, Arr wr b n t f → 36 ≠ t → Arr w' b n t f := fun ha hne => by
    obtain ⟨c, g1, g2⟩ := ha
    exact ⟨c, keep_typed h.row hg g1 hne, g2⟩
  have hV' := h1.grownH hg h4
  have hown' : w'.ownsRow N 36 10 v' (E ++ [x]).length (evCH (E ++ [x])) := by
    rw [evC_appH, List.length_append]
    exact hown
  exact ⟨⟨p, c, hV', keep_typed h.row hg h2 (by decide), h3, apart_vH hV' (by omega) hown' (by simp)⟩, hown', hA h.a7 (by decide), hA h.a8 (by decide), hA h.a9 (by decide), below_app h.low hg h.row (Nat.le_refl _) h.big, Nat.le_trans h.big hg.size, h.NY⟩
structure HW (N Y : Nat) (w0 : World) (ids : Nat) (E : List Ev) (V : List ByteArray) (ops : List OpR) (P : Nat → Nat) (op : Nat → OpR) (f8 f9 : Nat → Value) (hv : Value) (wr : World) : Prop where
  hs : HsA E V ops
  mks : Mk ids ops
  cl : Cl ops P op
  mem : HM N Y w0 E V (fun k => .int .i64 (P k : Int)) f8 f9 hv wr
  c8 : ∀ q, q < 4 → P q = 1 → f8 (q * 5) = .int .i64 (op q).W ∧ f8 (q * 5 + 1) = .int .i64 (op q).A ∧ f8 (q * 5 + 2) = .int .i64 (op q).L ∧ f8 (q * 5 + 3) = .string (op q).D ∧ f8 (q * 5 + 4) = .bool (op q).S
  c9 : ∀ q, q < 4 → P q ≠ 0 → f9 (q * 3) = .int .i64 (op q).id
  d9 : ∀ q, q < 4 → P q = 2 → f9 (q * 3 + 2) = .string (op q).out
  ok : ∀ e ∈ E, EvOk e
  fine : ∀ x ∈ ops, x.fine
/-- the relation of the loop -/
def HL (N Y : Nat) (w0 : World) (j ids : Nat) (hv : Value) (wr : World) : Prop := ∃ E V ops P op f8 f9, ids ≤ j ∧ E.length ≤ j ∧ HW N Y w0 ids E V ops P op f8 f9 hv wr
def HistP (w : World) (e : Ending) (w' : World) : Prop := ∃ hv E V ops, e = .returned hv ∧ HsA E V ops ∧ Mk 60 ops ∧ E.length ≤ 60 ∧ (∀ e ∈ E, EvOk e) ∧ Elts w' Ev.c 10 hv E ∧ Below w.heap.size w w'
/-- who is mute, is done with -/
theorem HW.mute {N Y ids q : Nat} {w0 wr : World} {E : List Ev} {V : List ByteArray} {ops : List OpR} {P : Nat → Nat} {op : Nat → OpR} {f8 f9 : Nat → Value} {hv : Value} (h : HW N Y w0 ids E V ops P op f8 f9 hv wr) : HW N Y w0 ids E V ops (updF P q 0) op f8 f9 hv (wr.setCell ⟨Y + 1, q, none⟩ (.int .i64 0)) := by
  have hr : ∀ r, updF P q 0 r ≠ 0 → r ≠ q := fun r h0 e => by subst e; rw [updF_self] at h0; exact h0 rfl
  have h7 := h.mem.set7 q (.int .i64 0)
  have e7 : (fun k => Value.int .i64 ((updF P q 0 k : Nat) : Int)) = updF (fun k => .int .i64 (P k : Int)) q (.int .i64 0) := by
    funext k
    by_cases e : k = q
    · subst e; rw [updF_self, updF_self]; rfl
    · rw [updF_other _ _ e, updF_other _ _ e]
  refine ⟨h.hs, h.mks, h.cl.mute, by rw [e7]; exact h7, fun r hr4 h0 => ?_, fun r hr4 h0 => ?_, fun r hr4 h0 => ?_, h.ok, h.fine⟩
  · have hn := hr r (by omega)
    rw [updF_other _ _ hn] at h0
    exact h.c8 r hr4 h0
  · have hn := hr r h0
    rw [updF_other _ _ hn] at h0
    exact h.c9 r hr4 h0
  · have hn := hr r (by omega)
    rw [updF_other _ _ hn] at h0
    exact h.d9 r hr4 h0
/-- one is told -/
theorem HW.tell {N Y ids q : Nat} {w0 wr w' : World} {E : List Ev} {V : List ByteArray} {ops : List OpR} {P : Nat → Nat} {op : Nat → OpR} {f8 f9 : Nat → Value} {hv v' : Value} (h : HW N Y w0 ids E V ops P op f8 f9 hv wr) (hq : q < 4) (hP : P q = 2) (hi : ids ≤ 60) (hm : HM N Y w0 (E ++ [(op q).ans]) V (fun k => .int .i64 (P k : Int)) f8 f9 v' w') :
    HW N Y w0 ids (E ++ [(op q).ans]) V (rep ops { op q with told := some E.length }) (updF P q 0) op f8 f9 v' (w'.setCell ⟨Y + 1, q, none⟩ (.int .i64 0)) := by
  have hr : ∀ r, updF P q 0 r ≠ 0 → r ≠ q := fun r h0 e => by subst e; rw [updF_self] at h0; exact h0 rfl
  have h7 := hm.set7 q (.int .i64 0)
  have e7 : (fun k => Value.int .i64 ((updF P q 0 k : Nat) : Int)) = updF (fun k => .int .i64 (P k : Int)) q (.int .i64 0) := by
    funext k
    by_cases e : k = q
    · subst e; rw [updF_self, updF_self]; rfl
    · rw [updF_other _ _ e, updF_other _ _ e]
  obtain ⟨o1, o2, o3⟩ := h.cl.on q hq (by omega)
  have od : (op q).done = true := by rw [o3, hP]; rfl
  have om := h.mks _ o1
  have of := h.fine _ o1
  refine ⟨h.hs.tell _ o1 od o2, h.mks.rep o1 rfl rfl rfl, h.cl.tell hq hP _, by rw [e7]; exact h7, fun r hr4 h0 => ?_, fun r hr4 h0 => ?_, fun r hr4 h0 => ?_, fun e he => ?_, fun x hx => ?_⟩
  · have hn := hr r (by omega)
    rw [updF_other _ _ hn] at h0
    exact h.c8 r hr4 h0
  · have hn := hr r h0
    rw [updF_other _ _ hn] at h0
    exact h.c9 r hr4 h0
  · have hn := hr r (by omega)
    rw [updF_other _ _ hn] at h0
    exact h.d9 r hr4 h0
  · rcases List.mem_append.1 he with g | g
    · exact h.ok e g
    · rw [List.mem_singleton.1 g]
      exact ⟨wf_of (by show (-9223372036854775808 : Int) ≤ (op q).id ∧ (op q).id ≤ 9223372036854775807; omega), by show (Lit.int .i64 0).wf = true; decide, by show (Lit.int .i64 0).wf = true; decide, by show (0 : Nat) ≤ _; omega, by show (op q).out.size ≤ maxLen; have := of.2.2.2; unfold maxLen; omega⟩
  · rcases mem_rep.1 hx with rfl | ⟨g, -⟩
    · exact of
    · exact h.fine x g
/-- plain memory turns -/
theorem HM.turn {N Y p7 c7 : Nat} {w0 wr : World} {E : List Ev} {V V' : List ByteArray} {f7 f8 f9 : Nat → Value} {hv : Value} (h : HM N Y w0 E V f7 f8 f9 hv wr) (hV7 : VAt p7 c7 V' wr) (hp : p7 < Y ∨ Y + 3 < p7) (hpo : hv.ownBlock ≠ some p7) :
    HM N Y w0 E V' f7 f8 f9 hv (wr.setCell ⟨Y, 0, none⟩ (.slice (some ⟨p7, 0, none⟩) 4 c7)) := by
  obtain ⟨p, c, h1, h2, h3, h4⟩ := h.v
  have ho : Only Y wr (wr.setCell ⟨Y, 0, none⟩ (.slice (some ⟨p7, 0, none⟩) 4 c7)) := (Only.refl _ _).set 0 _
  have hne : hv.ownBlock ≠ some Y := own_size h.row h2 (by decide)
  have hm : ∀ b, b ≠ Y → (wr.setCell ⟨Y, 0, none⟩ (.slice (some ⟨p7, 0, none⟩) 4 c7)).heap[b]? = wr.heap[b]? := fun b hb => heap_setCell_other _ _ _ _ hb
  exact ⟨⟨p7, c7, hV7.only ho (by omega), heap_set_self h2 0 _, hp, hpo⟩, own_movePH h.row fun g e => hm g (fun q => hne (by rw [← q]; exact e)), h.a7.move (hm _ (by omega)), h.a8.move (hm _ (by omega)), h.a9.move (hm _ (by omega)), h.low.setCell (by show N ≤ Y; have := h.NY; omega) _, Nat.le_trans h.big ho.size, h.NY⟩
/-- one is done -/
theorem HW.did {N Y ids q : Nat} {w0 wr w' : World} {E : List Ev} {V : List ByteArray} {ops : List OpR} {P : Nat → Nat} {op : Nat → OpR} {f8 f9 : Nat → Value} {hv : Value} (h : HW N Y w0 ids E V ops P op f8 f9 hv wr) (hq : q < 4) (hP : P q = 1) (hE : (E.length : Int) < NV) (ho : (outS (op q).stp V).size ≤ 128)
    (hm : HM N Y w0 E (stepV (op q).stp V) (fun k => .int .i64 (P k : Int)) f8 (updF f9 (q * 3 + 2) (.string (outS (op q).stp V))) hv w') :
    HW N Y w0 ids E (stepV (op q).stp V) (rep ops { op q with done := true, out := outS (op q).stp V }) (updF P q 2) (updF op q { op q with done := true, out := outS (op q).stp V }) f8 (updF f9 (q * 3 + 2) (.string (outS (op q).stp V))) hv (w'.setCell ⟨Y + 1, q, none⟩ (.int .i64 2)) := by
  have h7 := hm.set7 q (.int .i64 2)
  have e7 : (fun k => Value.int .i64 ((updF P q 2 k : Nat) : Int)) = updF (fun k => .int .i64 (P k : Int)) q (.int .i64 2) := by
    funext k
    by_cases e : k = q
    · subst e; rw [updF_self, updF_self]; rfl
    · rw [updF_other _ _ e, updF_other _ _ e]
  obtain ⟨o1, o2, o3⟩ := h.cl.on q hq (by omega)
  have od : (op q).done = false := by rw [o3, hP]; rfl
  have of := h.fine _ o1
  refine ⟨h.hs.did _ o1 od o2 hE, h.mks.rep o1 rfl rfl rfl, h.cl.did hq hP _, by rw [e7]; exact h7, fun r hr4 h0 => ?_, fun r hr4 h0 => ?_, fun r hr4 h0 => ?_, h.ok, fun x hx => ?_⟩
  · have hn : r ≠ q := fun e => by subst e; rw [updF_self] at h0; omega
    rw [updF_other _ _ hn] at h0 ⊢
    exact h.c8 r hr4 h0
  · rw [updF_other _ _ (by omega : r * 3 ≠ q * 3 + 2)]
    by_cases e : r = q
    · subst e; rw [updF_self]; exact h.c9 r hr4 (by omega)
    · rw [updF_other _ _ e] at h0 ⊢; exact h.c9 r hr4 h0
  · by_cases e : r = q
    · subst e; rw [updF_self, updF_self]
    · rw [updF_other _ _ e] at h0 ⊢
      rw [updF_other _ _ (by omega : r * 3 + 2 ≠ q * 3 + 2)]
      exact h.d9 r hr4 h0
  · rcases mem_rep.1 hx with rfl | ⟨g, -⟩
    · exact ⟨of.1, of.2.1, of.2.2.1, ho⟩
    · exact h.fine x g
/-- one asks -/
theorem HW.ask {N Y ids q : Nat} {w0 wr w' : World} {E : List Ev} {V : List ByteArray} {ops : List OpR} {P : Nat → Nat} {op : Nat → OpR} {f8 f9 g8 g9 : Nat → Value} {hv v' : Value} (h : HW N Y w0 ids E V ops P op f8 f9 hv wr) (hq : q < 4) (hP : P q = 0) (hi : ids < 60) (x : OpR) (hid : x.id = (ids : Int) + 1) (hxa : x.a = E.length) (hxd : x.done = false) (hxt : x.told = none) (hW2 : x.W ≠ 2) (hmk : x.W = 1 → ∃ m, MarkB x.id x.D m) (hE : (E.length : Int) < NV) (hf : x.fine)
    (h8 : ∀ r, r < 4 → r ≠ q → ∀ k, k < 5 → g8 (r * 5 + k) = f8 (r * 5 + k)) (h8q : g8 (q * 5) = .int .i64 x.W ∧ g8 (q * 5 + 1) = .int .i64 x.A ∧ g8 (q * 5 + 2) = .int .i64 x.L ∧ g8 (q * 5 + 3) = .string x.D ∧ g8 (q * 5 + 4) = .bool x.S)
    (h9 : ∀ r, r < 4 → r ≠ q → g9 (r * 3) = f9 (r * 3) ∧ g9 (r * 3 + 2) = f9 (r * 3 + 2)) (h9q : g9 (q * 3) = .int .i64 x.id) (hm : HM N Y w0 (E ++ [x.ev]) V (fun k => .int .i64 (P k : Int)) g8 g9 v' w') :
    HW N Y w0 (ids + 1) (E ++ [x.ev]) V (x :: ops) (updF P q 1) (updF op q x) g8 g9 v' (w'.setCell ⟨Y + 1, q, none⟩ (.int .i64 1)) := by
  have h7 := hm.set7 q (.int .i64 1)
  have e7 : (fun k => Value.int .i64 ((updF P q 1 k : Nat) : Int)) = updF (fun k => .int .i64 (P k : Int)) q (.int .i64 1) := by
    funext k
    by_cases e : k = q
    · subst e; rw [updF_self, updF_self]; rfl
    · rw [updF_other _ _ e, updF_other _ _ e]
  obtain ⟨n1, n2, n3⟩ := h.mks.new hi hid hW2 hmk
  refine ⟨h.hs.ask x hxa hxd hxt hE n1 n2, n3, h.cl.ask x hxd hxt n1, by rw [e7]; exact h7, fun r hr4 h0 => ?_, fun r hr4 h0 => ?_, fun r hr4 h0 => ?_, fun e he => ?_, fun y hy => ?_⟩
  · by_cases e : r = q
    · subst e; rw [updF_self]; exact h8q
    · rw [updF_other _ _ e] at h0 ⊢
      have a := h.c8 r hr4 h0
      have b := h8 r hr4 e
      exact ⟨(b 0 (by omega)).trans a.1, (b 1 (by omega)).trans a.2.1, (b 2 (by omega)).trans a.2.2.1, (b 3 (by omega)).trans a.2.2.2.1, (b 4 (by omega)).trans a.2.2.2.2⟩
  · by_cases e : r = q
    · subst e; rw [updF_self]; exact h9q
    · rw [updF_other _ _ e] at h0 ⊢
      exact (h9 r hr4 e).1.trans (h.c9 r hr4 h0)
  · have e : r ≠ q := fun e => by subst e; rw [updF_self] at h0; omega
    rw [updF_other _ _ e] at h0 ⊢
    exact (h9 r hr4 e).2.trans (h.d9 r hr4 h0)
  · rcases List.mem_append.1 he with g | g
    · exact h.ok e g
    · rw [List.mem_singleton.1 g]
      exact ⟨wf_of (by show (-9223372036854775808 : Int) ≤ x.id ∧ x.id ≤ 9223372036854775807; omega), hf.1, hf.2.1, hf.2.2.1, by show (0 : Nat) ≤ _; omega⟩
  · rcases List.mem_cons.1 hy with rfl | g
    · exact hf
    · exact h.fine y g
end Go.Proofs.Ytodjlaapmbnahaa
/-
  tarnlaw35.history: several cells of one array stored at once.
-/

namespace Go.Proofs.Ytodjlaapmbnahaa
open Go.RowKit
set_option linter.unusedVariables false
set_option linter.unusedSimpArgs false

theorem HM.put8 {N Y : Nat} {w0 wr : World} {E : List Ev} {V : List ByteArray} {f7 f8 f9 : Nat → Value} {hv : Value} (h : HM N Y w0 E V f7 f8 f9 hv wr) (q : Nat) (v0 v1 v2 v3 v4 : Value) :
    ∃ g8, HM N Y w0 E V f7 g8 f9 hv (((((wr.setCell ⟨Y + 1 + 1, q * 5, none⟩ v0).setCell ⟨Y + 1 + 1, q * 5 + 1, none⟩ v1).setCell ⟨Y + 1 + 1, q * 5 + 2, none⟩ v2).setCell ⟨Y + 1 + 1, q * 5 + 3, none⟩ v3).setCell ⟨Y + 1 + 1, q * 5 + 4, none⟩ v4)
      ∧ (g8 (q * 5) = v0 ∧ g8 (q * 5 + 1) = v1 ∧ g8 (q * 5 + 2) = v2 ∧ g8 (q * 5 + 3) = v3 ∧ g8 (q * 5 + 4) = v4) ∧ ∀ r, r ≠ q → ∀ k, k < 5 → g8 (r * 5 + k) = f8 (r * 5 + k) := by
  refine ⟨_, ((((h.set8 (q * 5) v0).set8 (q * 5 + 1) v1).set8 (q * 5 + 2) v2).set8 (q * 5 + 3) v3).set8 (q * 5 + 4) v4, ⟨?_, ?_, ?_, ?_, ?_⟩, fun r hr k hk => ?_⟩
  · rw [updF_other _ _ (by omega), updF_other _ _ (by omega), updF_other _ _ (by omega), updF_other _ _ (by omega), updF_self]
  · rw [updF_other _ _ (by omega), updF_other _ _ (by omega), updF_other _ _ (by omega), updF_self]
  · rw [updF_other _ _ (by omega), updF_other _ _ (by omega), updF_self]
  · rw [updF_other _ _ (by omega), updF_self]
  · rw [updF_self]
  · rw [updF_other _ _ (by omega), updF_other _ _ (by omega), updF_other _ _ (by omega), updF_other _ _ (by omega), updF_other _ _ (by omega)]
theorem HM.put9 {N Y : Nat} {w0 wr : World} {E : List Ev} {V : List ByteArray} {f7 f8 f9 : Nat → Value} {hv : Value} (h : HM N Y w0 E V f7 f8 f9 hv wr) (q : Nat) (v0 v1 v2 : Value) :
    ∃ g9, HM N Y w0 E V f7 f8 g9 hv (((wr.setCell ⟨Y + 1 + 1 + 1, q * 3, none⟩ v0).setCell ⟨Y + 1 + 1 + 1, q * 3 + 1, none⟩ v1).setCell ⟨Y + 1 + 1 + 1, q * 3 + 2, none⟩ v2)
      ∧ g9 (q * 3) = v0 ∧ ∀ r, r ≠ q → g9 (r * 3) = f9 (r * 3) ∧ g9 (r * 3 + 2) = f9 (r * 3 + 2) := by
  refine ⟨_, ((h.set9 (q * 3) v0).set9 (q * 3 + 1) v1).set9 (q * 3 + 2) v2, ?_, fun r hr => ⟨?_, ?_⟩⟩
  · rw [updF_other _ _ (by omega), updF_other _ _ (by omega), updF_self]
  · rw [updF_other _ _ (by omega), updF_other _ _ (by omega), updF_other _ _ (by omega)]
  · rw [updF_other _ _ (by omega), updF_other _ _ (by omega), updF_other _ _ (by omega)]
theorem HM.blk {N Y : Nat} {w0 wr : World} {E : List Ev} {V : List ByteArray} {f7 f8 f9 : Nat → Value} {hv : Value} (h : HM N Y w0 E V f7 f8 f9 hv wr) : Y < wr.heap.size ∧ Y + 1 < wr.heap.size ∧ Y + 1 + 1 < wr.heap.size ∧ Y + 1 + 1 + 1 < wr.heap.size := by
  obtain ⟨c9, x9, -⟩ := h.a9
  have := lt_heap x9
  omega
theorem keeps_twoH {N : Nat} {w w' : World} {X : Prop} (h1 : N ≤ w'.heap.size ∧ Below N w w' ∧ X) : N ≤ w'.heap.size ∧ Below N w w' := ⟨h1.1, h1.2.1⟩
theorem keeps_set1H {N : Nat} {w w' : World} {X : Prop} {b o : Nat} {v : Value} (h1 : N ≤ w'.heap.size ∧ Below N w w' ∧ X) (hb : N ≤ b) : N ≤ (w'.setCell ⟨b, o, none⟩ v).heap.size ∧ Below N w (w'.setCell ⟨b, o, none⟩ v) ∧ ∀ c k, c < N → (w'.setCell ⟨b, o, none⟩ v).cell? ⟨c, k, none⟩ = w.cell? ⟨c, k, none⟩ :=
  keeps_next h1 ⟨by simpa using h1.1, (Below.refl _ _).setCell hb _⟩
end Go.Proofs.Ytodjlaapmbnahaa
