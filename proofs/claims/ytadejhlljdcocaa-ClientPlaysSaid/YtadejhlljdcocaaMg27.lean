/-
  Several texts, laid together.
-/
import Derived.Test.YtadejhlljdcocaaMg9
import Derived.Test.YtadejhlljdcocaaMg1
import Derived.Test.YtadejhlljdcocaaMg26
import Derived.Test.YtadejhlljdcocaaMg18
/-
  A slice of structs that came in, read element by element. Of no program.
-/


namespace Go.Proofs.Ytadejhlljdcocaa
open Go.RowKit
set_option linter.unusedVariables false

/-- the slice v has the elements rs, of sz cells each -/
def Elts {α : Type} (w : World) (c : α → List Value) (sz : Nat) (v : Value) (rs : List α) : Prop :=
  ∃ a cap, v = .slice a rs.length cap ∧ rs.length ≤ cap ∧ cap ≤ maxLen ∧ (rs.length = 0 ∨ ∃ b off, a = some ⟨b, off, none⟩ ∧ b < w.heap.size ∧
    ∀ (j : Nat) x, rs[j]? = some x → ∀ (k : Nat) u, (c x)[k]? = some u → w.cell? ⟨b, off + j * sz + k, none⟩ = some u)
theorem Elts.below {α : Type} {w w' : World} {c : α → List Value} {sz : Nat} {v : Value} {rs : List α} (h : Elts w c sz v rs) (hb : Below w.heap.size w w') : Elts w' c sz v rs := by
  obtain ⟨a, cap, rfl, h1, h2, h3⟩ := h
  refine ⟨a, cap, rfl, h1, h2, h3.imp id ?_⟩
  rintro ⟨b, off, rfl, hlt, hc⟩
  exact ⟨b, off, rfl, Nat.lt_of_lt_of_le hlt hb.size, fun j x hj k u hk => (hb.cell (p := ⟨b, off + j * sz + k, none⟩) hlt).trans (hc j x hj k u hk)⟩
theorem Elts.at_ {α : Type} {w : World} {c : α → List Value} {sz : Nat} {a : Option Addr} {len cap : Nat} {rs : List α} (h : Elts w c sz (.slice a len cap) rs) {j : Nat} {x : α} (hj : rs[j]? = some x) :
    len = rs.length ∧ ∃ b off, a = some ⟨b, off, none⟩ ∧ b < w.heap.size ∧ ∀ (k : Nat) u, (c x)[k]? = some u → w.cell? ⟨b, off + j * sz + k, none⟩ = some u := by
  obtain ⟨a', cap', he, h1, h2, h3⟩ := h
  injection he with e1 e2 e3
  subst e1 e2 e3
  have := (List.getElem?_eq_some_iff.1 hj).1
  obtain ⟨b, off, rfl, hlt, hc⟩ := h3.resolve_left (by omega)
  exact ⟨rfl, b, off, rfl, hlt, hc j x hj⟩
theorem fits_rows {α : Type} {w : World} {s : Sh} {c : α → List Value} {good : α → Prop} (one : ∀ ys, Fits w s ys → ∃ x, ys = c x ∧ good x)
    {a : Option Addr} {len cap : Nat} (h : Fits w (.slice s) [.slice a len cap]) : ∃ rs : List α, rs.length = len ∧ Elts w c s.size (.slice a len cap) rs ∧ ∀ x ∈ rs, good x := by
  obtain ⟨hlc, hcm, hel⟩ := h.slice
  rcases Nat.eq_zero_or_pos len with h0 | h0
  · subst h0
    exact ⟨[], rfl, ⟨a, cap, rfl, hlc, hcm, .inl rfl⟩, by simp⟩
  · obtain ⟨b, off, rfl, hb, hi⟩ := hel.resolve_left (by omega)
    have hx : ∀ i, i < len → ∃ x : α, good x ∧ ∀ (k : Nat) u, (c x)[k]? = some u → w.cell? ⟨b, off + i * s.size + k, none⟩ = some u := fun i hlt => by
      obtain ⟨ys, _, hc, hf⟩ := hi i hlt
      obtain ⟨x, rfl, hr⟩ := one ys hf
      exact ⟨x, hr, hc⟩
    have hrs : ∀ n, n ≤ len → ∃ rs : List α, rs.length = n ∧ (∀ x ∈ rs, good x) ∧ ∀ (i : Nat) x, rs[i]? = some x → ∀ (k : Nat) u, (c x)[k]? = some u → w.cell? ⟨b, off + i * s.size + k, none⟩ = some u := by
      intro n
      induction n with
      | zero => exact fun _ => ⟨[], rfl, by simp, fun i x e => by simp at e⟩
      | succ n ih =>
        intro hn
        obtain ⟨rs, h1, h2, h3⟩ := ih (by omega)
        obtain ⟨x, hr, hc⟩ := hx n (by omega)
        refine ⟨rs ++ [x], by simp [h1], fun y hy => ?_, fun i y e => ?_⟩
        · rcases List.mem_append.1 hy with q | q
          · exact h2 y q
          · rw [List.mem_singleton.1 q]; exact hr
        · rcases Nat.lt_trichotomy i n with q | q | q
          · rw [List.getElem?_append_left (by omega)] at e
            exact h3 i y e
          · subst q
            rw [List.getElem?_append_right (by omega), h1, Nat.sub_self] at e
            simp only [List.getElem?_cons_zero, Option.some.injEq] at e
            subst e
            exact hc
          · have := (List.getElem?_eq_some_iff.1 e).1
            simp [h1] at this
            omega
    obtain ⟨rs, h1, h2, h3⟩ := hrs len (Nat.le_refl _)
    subst h1
    exact ⟨rs, rfl, ⟨_, cap, rfl, hlc, hcm, .inr ⟨b, off, rfl, hb, h3⟩⟩, h2⟩
end Go.Proofs.Ytadejhlljdcocaa
/-
  What ClientPlays' law keeps: a history, and beside it what must be noted, and what must be open.
-/


namespace Go.Proofs.Ytadejhlljdcocaa
open Go.RowKit
open Go.Maps (Keyed)
set_option linter.unusedVariables false
set_option linter.unusedSimpArgs false

theorem Hist.move {w w' : World} {N p b : Nat} {sv : Value} {E : List EV} {n : Nat} {op : List Int} (h : Hist w N p b sv E n op) (hk : ∀ k, k < w.heap.size → (k = p ∨ k = b ∨ sv.ownBlock = some k) → w'.heap[k]? = w.heap[k]?) : Hist w' N p b sv E n op := by
  obtain ⟨D, hm, hh⟩ := h.map
  refine ⟨(hk p (lt_heap h.obj) (.inl rfl)).trans h.obj, own_move h.ev fun g e => ?_, ⟨D, map_move hm (hk b hm.lt (.inr (.inl rfl))), hh⟩, h.low, h.up, h.rng⟩
  obtain ⟨cur, hc⟩ := own_type h.ev e
  exact hk g (lt_heap hc) (.inr (.inr e))
/-- a history and the law's own two rows -/
structure PlR (w0 w : World) (N p b : Nat) (sv mv ov : Value) (E Em : List EV) (op om : List Int) (n : Nat) : Prop where
  hist : Hist w N p b sv E n op
  mrow : w.ownsRow N 104 10 mv Em.length (evC Em)
  orow : w.ownsRow N 3 1 ov om.length (nCells om)
  ma : HApart mv sv p b
  below : Below N w0 w
theorem own_lt {w : World} {base g : Nat} {e : TypeId} {size n : Nat} {v : Value} {xs : List Value} (h : w.ownsRow base e size v n xs) (hv : v.ownBlock = some g) : g < w.heap.size := by
  obtain ⟨cur, hc⟩ := own_type h hv
  exact lt_heap hc
theorem own_kind {w : World} {base g base' : Nat} {e e' : TypeId} {size n size' n' : Nat} {v v' : Value} {xs xs' : List Value} (h : w.ownsRow base e size v n xs) (h' : w.ownsRow base' e' size' v' n' xs') (hne : e ≠ e') (hv : v.ownBlock = some g) : v'.ownBlock ≠ some g := by
  intro hv'
  obtain ⟨cur, hc⟩ := own_type h hv
  obtain ⟨cur', hc'⟩ := own_type h' hv'
  rw [hc] at hc'
  injection hc' with hc'
  injection hc' with _ e2
  exact hne e2
theorem PlR.oa {w0 w : World} {N p b : Nat} {sv mv ov : Value} {E Em : List EV} {op om : List Int} {n : Nat} (h : PlR w0 w N p b sv mv ov E Em op om n) : HApart ov sv p b := by
  intro g e
  obtain ⟨cur, hc⟩ := own_type h.orow e
  refine ⟨fun q => ?_, fun q => ?_, own_kind h.orow h.hist.ev (by decide) e⟩
  · have := h.hist.obj
    rw [← q, hc] at this
    injection this with this
    injection this with _ e2
    exact absurd e2 (by decide)
  · obtain ⟨D, ⟨es, clock, hm, -⟩, -⟩ := h.hist.map
    rw [← q, hc] at hm
    cases hm
theorem PlR.go {w0 w w' : World} {N p b : Nat} {sv mv ov : Value} {E Em : List EV} {op om : List Int} {n : Nat} (h : PlR w0 w N p b sv mv ov E Em op om n) (hb : Below w.heap.size w w') (hN : N ≤ w.heap.size) : PlR w0 w' N p b sv mv ov E Em op om n :=
  ⟨h.hist.below hb, owns_below h.mrow hb, owns_below h.orow hb, h.ma, h.below.trans (hb.mono hN)⟩
theorem PlR.turn {w0 w w' : World} {N p b : Nat} {sv sv' mv ov : Value} {E E' Em : List EV} {op op' om : List Int} {n n' : Nat} (h : PlR w0 w N p b sv mv ov E Em op om n) (hh : Hist w' N p b sv' E' n' op') (hk : HKept w w' p b sv sv') (hN : N ≤ w.heap.size) : PlR w0 w' N p b sv' mv ov E' Em op' om n' :=
  ⟨hh, (own_hkept h.mrow hk h.ma).1, (own_hkept h.orow hk h.oa).1, (own_hkept h.mrow hk h.ma).2, h.below.trans (HKept.below h.hist hk hN)⟩
/-- another block lies apart -/
theorem PlR.other {w0 w : World} {N p b q : Nat} {sv mv ov : Value} {E Em : List EV} {op om : List Int} {n : Nat} {A : Array Value} {t : TypeId} {f : Nat × Nat} (h : PlR w0 w N p b sv mv ov E Em op om n) (hq : w.heap[q]? = some (.cells A t f)) (h1 : t ≠ 171) (h2 : t ≠ 104) (h3 : t ≠ 3) :
    q ≠ p ∧ q ≠ b ∧ some q ≠ sv.ownBlock ∧ some q ≠ mv.ownBlock ∧ some q ≠ ov.ownBlock := by
  have key : ∀ {v : Value} {base size n : Nat} {e : TypeId} {xs : List Value}, w.ownsRow base e size v n xs → t ≠ e → some q ≠ v.ownBlock := fun {v} {base} {size} {n} {e} {xs} ho hne e2 => by
    obtain ⟨cur, hc⟩ := own_type ho e2.symm
    rw [hq] at hc
    injection hc with hc
    injection hc with _ e3
    exact hne e3
  refine ⟨fun e => ?_, fun e => ?_, key h.hist.ev h2, key h.mrow h2, key h.orow h3⟩
  · have := h.hist.obj
    rw [← e, hq] at this
    injection this with this
    injection this with _ e3
    exact h1 e3
  · obtain ⟨D, ⟨es, clock, hm, -⟩, -⟩ := h.hist.map
    rw [← e, hq] at hm
    cases hm
/-- a cell of another block is written -/
theorem PlR.cellw {w0 w : World} {N p b q i : Nat} {sv mv ov : Value} {E Em : List EV} {op om : List Int} {n : Nat} (h : PlR w0 w N p b sv mv ov E Em op om n) (hq : q ≠ p ∧ q ≠ b ∧ some q ≠ sv.ownBlock ∧ some q ≠ mv.ownBlock ∧ some q ≠ ov.ownBlock) (hN : N ≤ q) (v : Value) : PlR w0 (w.setCell ⟨q, i, none⟩ v) N p b sv mv ov E Em op om n := by
  obtain ⟨h1, h2, h3, h4, h5⟩ := hq
  refine ⟨h.hist.move fun k hk hc => heap_setCell_other _ _ _ _ fun e => ?_, own_move h.mrow fun g e => heap_setCell_other _ _ _ _ fun q2 => h4 (by rw [e]; exact congrArg some q2.symm), own_move h.orow fun g e => heap_setCell_other _ _ _ _ fun q2 => h5 (by rw [e]; exact congrArg some q2.symm), h.ma, h.below.setCell (p := ⟨q, i, none⟩) hN v⟩
  have e : k = q := e
  rcases hc with r | r | r
  · exact h1 (by omega)
  · exact h2 (by omega)
  · exact h3 (by rw [r, e])
/-- one more is noted -/
theorem PlR.note {w0 w w' : World} {N p b : Nat} {sv mv mv' ov : Value} {E Em : List EV} {op om : List Int} {n : Nat} {x : EV} {o : Obj} (h : PlR w0 w N p b sv mv ov E Em op om n) (hN : N ≤ w.heap.size)
    (hown : w'.ownsRow N 104 10 mv' (Em.length + 1) (evC Em ++ evC [x])) (hg : (w.alloc o).grownBy w' mv.ownBlock) (hn : mv'.ownBlock = mv.ownBlock ∨ mv'.ownBlock = some (w.heap.size + 1)) : PlR w0 w' N p b sv mv' ov E (Em ++ [x]) op om n := by
  have hz : (w.alloc o).heap.size = w.heap.size + 1 := by simp
  have key : ∀ k, k < w.heap.size → mv.ownBlock ≠ some k → w'.heap[k]? = w.heap[k]? := fun k hk hne => (hg.block k (by omega) (Ne.symm hne)).trans (Below.heap_alloc w o k hk)
  refine ⟨h.hist.move fun k hk hc => key k hk fun e => ?_, by rw [List.length_append, evC_append]; exact hown, own_move h.orow fun g e => key g (own_lt h.orow e) (own_kind h.orow h.mrow (by decide) e), fun g e => ?_, ?_⟩
  · obtain ⟨a1, a2, a3⟩ := h.ma k e
    rcases hc with q | q | q
    · exact a1 q
    · exact a2 q
    · exact a3 q
  · rcases hn with q | q
    · exact h.ma g (q ▸ e)
    · rw [q] at e
      injection e with e
      have hp := lt_heap h.hist.obj
      obtain ⟨D, hm, -⟩ := h.hist.map
      have hb := hm.lt
      exact ⟨by omega, by omega, fun r => by have := own_lt h.hist.ev r; omega⟩
  · refine ⟨hg.os.trans h.below.os, hg.tape.trans h.below.tape, hg.output.trans h.below.output, ?_, fun k hk => (key k (by omega) fun e => ?_).trans (h.below.block k hk)⟩
    · have := hg.size; have := h.below.size; omega
    · have := (h.mrow.lt k e).1; omega
/-- another row of open numbers -/
theorem PlR.opens {w0 w w' : World} {N p b : Nat} {sv mv ov ov' : Value} {E Em : List EV} {op om om' : List Int} {n : Nat} {o : Obj} (h : PlR w0 w N p b sv mv ov E Em op om n) (hN : N ≤ w.heap.size)
    (hown : w'.ownsRow N 3 1 ov' om'.length (nCells om')) (hg : (w.alloc o).grownBy w' ov.ownBlock) : PlR w0 w' N p b sv mv ov' E Em op om' n := by
  have hz : (w.alloc o).heap.size = w.heap.size + 1 := by simp
  have key : ∀ k, k < w.heap.size → ov.ownBlock ≠ some k → w'.heap[k]? = w.heap[k]? := fun k hk hne => (hg.block k (by omega) (Ne.symm hne)).trans (Below.heap_alloc w o k hk)
  refine ⟨h.hist.move fun k hk hc => key k hk fun e => ?_, own_move h.mrow fun g e => key g (own_lt h.mrow e) (own_kind h.mrow h.orow (by decide) e), hown, h.ma, ?_⟩
  · obtain ⟨a1, a2, a3⟩ := h.oa k e
    rcases hc with q | q | q
    · exact a1 q
    · exact a2 q
    · exact a3 q
  · refine ⟨hg.os.trans h.below.os, hg.tape.trans h.below.tape, hg.output.trans h.below.output, ?_, fun k hk => (key k (by omega) fun e => ?_).trans (h.below.block k hk)⟩
    · have := hg.size; have := h.below.size; omega
    · have := (h.orow.lt k e).1; omega
theorem PlR.fresh {w0 w w' : World} {N p b : Nat} {sv mv ov ov' : Value} {E Em : List EV} {op om om' : List Int} {n : Nat} (h : PlR w0 w N p b sv mv ov E Em op om n) (hN : N ≤ w.heap.size)
    (hown : w'.ownsRow w.heap.size 3 1 ov' om'.length (nCells om')) (hb : Below w.heap.size w w') : PlR w0 w' N p b sv mv ov' E Em op om' n := by
  have hg := h.go hb hN
  refine ⟨hg.hist, hg.mrow, ?_, hg.ma, hg.below⟩
  obtain ⟨q1, q2⟩ := hown
  refine ⟨q1, q2.imp id ?_⟩
  rintro ⟨g, cap, cur, e, hb, q⟩
  exact ⟨g, cap, cur, e, by omega, q⟩
theorem sr_partC {w : World} {b off n cap : Nat} {l : List Int} (h : SR w (.slice (some ⟨b, off, none⟩) n cap) 1 n (nCells l)) (i : Nat) (hi : i ≤ n) : SR w (.slice (some ⟨b, off + i, none⟩) (n - i) (cap - i)) 1 (n - i) (nCells (l.drop i)) := by
  obtain ⟨a', cap', he, h1, h2, h3, h4⟩ := h
  injection he with e1 _ e3
  subst e1 e3
  rw [nCells_length] at h3
  refine ⟨_, _, rfl, by omega, by unfold maxLen at *; omega, by simp [nCells]; omega, ?_⟩
  rcases Nat.eq_zero_or_pos (n - i) with h0 | h0
  · exact .inl h0
  · obtain ⟨b', off', e, hb, hc⟩ := h4.resolve_left (by omega)
    cases e
    refine .inr ⟨b, off + i, rfl, hb, fun k y hk => ?_⟩
    rw [Nat.add_assoc]
    refine hc (i + k) y ?_
    simpa only [nCells, List.getElem?_map, List.getElem?_drop] using hk
/-- whatever may be noted -/
structure EvOk (e : EV) : Prop where
  id : (Lit.int .i64 e.id).wf = true
  gate : (Lit.int .i64 e.gate).wf = true
  what : (Lit.int .i64 e.what).wf = true
  at_ : (Lit.int .i64 e.at_).wf = true
  len : (Lit.int .i64 e.len).wf = true
  err : (Lit.int .i64 e.err).wf = true
  data : e.data.size ≤ maxLen
  txt : e.txt.size ≤ maxLen
/-- each thing is told once at most -/
structure Sane (E : List EV) (op : List Int) (n : Nat) : Prop where
  ok : ∀ e ∈ E, EvOk e
  gone : ∀ e ∈ E, e.ans = true → e.id ∉ op ∧ e.id ≤ n
  once : ∀ (i j : Nat) (x y : EV), E[i]? = some x → E[j]? = some y → x.ans = true → y.ans = true → x.id = y.id → i = j
theorem Sane.nil : Sane [] [] 0 := ⟨by simp, by simp, by simp⟩
theorem Sane.ask {E : List EV} {op : List Int} {n : Nat} {e : EV} (h : Sane E op n) (ho : EvOk e) (ha : e.ans = false) : Sane (E ++ [e]) (op ++ [((n + 1 : Nat) : Int)]) (n + 1) := by
  refine ⟨fun x hx => ?_, fun x hx hax => ?_, fun i j x y hx hy hax hay hid => ?_⟩
  · rcases List.mem_append.1 hx with q | q
    · exact h.ok x q
    · rw [List.mem_singleton.1 q]; exact ho
  · rcases List.mem_append.1 hx with q | q
    · obtain ⟨h1, h2⟩ := h.gone x q hax
      refine ⟨fun hm => ?_, by omega⟩
      rcases List.mem_append.1 hm with r | r
      · exact h1 r
      · have := List.mem_singleton.1 r; omega
    · rw [List.mem_singleton.1 q, ha] at hax; cases hax
  · have key : ∀ (k : Nat) z, (E ++ [e])[k]? = some z → z.ans = true → E[k]? = some z := fun k z hz hzz => by
      rcases Nat.lt_or_ge k E.length with q | q
      · rwa [List.getElem?_append_left q] at hz
      · rw [List.getElem?_append_right q] at hz
        have := List.mem_of_getElem? hz
        rw [List.mem_singleton.1 this, ha] at hzz
        cases hzz
    exact h.once i j x y (key i x hx hax) (key j y hy hay) hax hay hid
theorem Sane.tell {E : List EV} {op : List Int} {n : Nat} {e : EV} (h : Sane E op n) (ho : EvOk e) (hin : e.id ∈ op) (hr : ∀ x ∈ op, 1 ≤ x ∧ x ≤ n) : Sane (E ++ [e]) (op.filter (fun x => x ≠ e.id)) n := by
  refine ⟨fun x hx => ?_, fun x hx hax => ?_, fun i j x y hx hy hax hay hid => ?_⟩
  · rcases List.mem_append.1 hx with q | q
    · exact h.ok x q
    · rw [List.mem_singleton.1 q]; exact ho
  · rcases List.mem_append.1 hx with q | q
    · obtain ⟨h1, h2⟩ := h.gone x q hax
      exact ⟨fun hm => h1 (List.mem_filter.1 hm).1, h2⟩
    · rw [List.mem_singleton.1 q]
      exact ⟨by simp, (hr _ hin).2⟩
  · have key : ∀ (k : Nat) z, (E ++ [e])[k]? = some z → E[k]? = some z ∨ (k = E.length ∧ z = e) := fun k z hz => by
      rcases Nat.lt_or_ge k E.length with q | q
      · rw [List.getElem?_append_left q] at hz; exact .inl hz
      · have hk := (List.getElem?_eq_some_iff.1 hz).1
        simp at hk
        rw [List.getElem?_append_right q] at hz
        exact .inr ⟨by omega, List.mem_singleton.1 (List.mem_of_getElem? hz)⟩
    rcases key i x hx with p1 | ⟨p1, rfl⟩ <;> rcases key j y hy with p2 | ⟨p2, rfl⟩
    · exact h.once i j x y p1 p2 hax hay hid
    · exact absurd hin (hid ▸ (h.gone x (List.mem_of_getElem? p1) hax).1)
    · exact absurd hin (hid ▸ (h.gone y (List.mem_of_getElem? p2) hay).1)
    · omega
/-- the answer of a number is found -/
theorem Sane.find {E : List EV} {op : List Int} {n : Nat} (h : Sane E op n) {i : Nat} {x : EV} (hx : E[i]? = some x) (ha : x.ans = true) : E.find? (isAns x.id) = some x := by
  cases hf : E.find? (isAns x.id) with
  | none =>
    have := List.find?_eq_none.1 hf x (List.mem_of_getElem? hx)
    simp [isAns, ha] at this
  | some y =>
    have hp := List.find?_some hf
    simp only [isAns, Bool.and_eq_true, decide_eq_true_eq] at hp
    obtain ⟨j, hj, e⟩ := List.getElem_of_mem (List.mem_of_find?_eq_some hf)
    have hy : E[j]? = some y := by rw [List.getElem?_eq_getElem hj, e]
    have := h.once i j x y hx hy ha hp.1 hp.2.symm
    subst this
    rw [hx] at hy
    rw [hy]
/-- where a number stands among those that are open -/
theorem splice {op : List Int} (hup : op.Pairwise (· < ·)) {k : Nat} {x : Int} (hk : op[k]? = some x) : op.take k ++ op.drop (k + 1) = op.filter (fun y => y ≠ x) := by
  obtain ⟨hlt, he⟩ := List.getElem?_eq_some_iff.1 hk
  have e : op = op.take k ++ x :: op.drop (k + 1) := by
    conv => lhs; rw [← List.take_append_drop k op, List.drop_eq_getElem_cons hlt, he]
  generalize op.take k = A at *
  generalize op.drop (k + 1) = B at *
  subst e
  obtain ⟨h1, h2, h3⟩ := List.pairwise_append.1 hup
  rw [List.pairwise_cons] at h2
  have q1 : A.filter (fun y => y ≠ x) = A := List.filter_eq_self.2 fun y hy => by
    have := h3 y hy x (by simp)
    simp; omega
  have q2 : B.filter (fun y => y ≠ x) = B := List.filter_eq_self.2 fun y hy => by
    have := h2.1 y hy
    simp; omega
  rw [List.filter_append, List.filter_cons_of_neg (by simp), q1, q2]
end Go.Proofs.Ytadejhlljdcocaa
/-
  ClientPlays' walk.
-/


namespace Go.Proofs.Ytadejhlljdcocaa
open Go.RowKit
open Go.Maps (Keyed)
set_option linter.unusedVariables false
set_option linter.unusedSimpArgs false

/-- an act that came in -/
structure AC where
  tell : Bool
  gate : Int
  what : Int
  at_ : Int
  len : Int
  data : ByteArray
  sure : Bool
  id : Int
  err : Int
  txt : ByteArray
def aC (x : AC) : List Value := [.bool x.tell, .int .i64 x.gate, .int .i64 x.what, .int .i64 x.at_, .int .i64 x.len, .string x.data, .bool x.sure, .int .i64 x.id, .int .i64 x.err, .string x.txt]
structure AOk (e : AC) : Prop where
  id : (Lit.int .i64 e.id).wf = true
  gate : (Lit.int .i64 e.gate).wf = true
  what : (Lit.int .i64 e.what).wf = true
  at_ : (Lit.int .i64 e.at_).wf = true
  len : (Lit.int .i64 e.len).wf = true
  err : (Lit.int .i64 e.err).wf = true
  data : e.data.size ≤ maxLen
  txt : e.txt.size ≤ maxLen
abbrev cactSh : Sh := .two .bool (.two (.int .i64) (.two (.two (.int .i64) (.two (.int .i64) (.two (.int .i64) (.two .str (.two .bool .unit))))) (.two (.two (.int .i64) (.two (.int .i64) (.two .str .unit))) .unit)))
theorem act_one {w : World} {ys : List Value} (h : Fits w cactSh ys) : ∃ x : AC, ys = aC x ∧ AOk x := by
  obtain ⟨_, _, rfl, ⟨tell, rfl⟩, _, _, rfl, ⟨gate, rfl, hg⟩, _, _, rfl, ⟨_, _, rfl, ⟨what, rfl, h1⟩, _, _, rfl, ⟨at_, rfl, h2⟩, _, _, rfl, ⟨len, rfl, h3⟩, _, _, rfl, ⟨data, rfl, h4⟩, _, _, rfl, ⟨sure, rfl⟩, rfl⟩, _, _, rfl, ⟨_, _, rfl, ⟨id, rfl, h5⟩, _, _, rfl, ⟨err, rfl, h6⟩, _, _, rfl, ⟨txt, rfl, h7⟩, rfl⟩, rfl⟩ := h
  exact ⟨⟨tell, gate, what, at_, len, data, sure, id, err, txt⟩, rfl, ⟨h5, hg, h1, h2, h3, h6, h4, h7⟩⟩
theorem evkey : Try.prog.keyTypeAt 6 104 = true := by kernel_rfl
theorem evguard : Try.prog.eqGuardType Try.prog.depth 104 = false := by kernel_rfl
theorem ev_formed (a : Bool) (i g wh at_ ln : Int) (dt : ByteArray) (su : Bool) (er : Int) (tx : ByteArray) : (Value.agg #[.bool a, .int .i64 i, .int .i64 g, .int .i64 wh, .int .i64 at_, .int .i64 ln, .string dt, .bool su, .int .i64 er, .string tx]).formed Try.prog 104 = true := by kernel_rfl
theorem ask_lits (wh at_ ln : Int) (dt : ByteArray) (su : Bool) (h1 : (Lit.int .i64 wh).wf = true) (h2 : (Lit.int .i64 at_).wf = true) (h3 : (Lit.int .i64 ln).wf = true) (h4 : dt.size ≤ maxLen) :
    Try.prog.keyLits 5 96 [.int .i64 wh, .int .i64 at_, .int .i64 ln, .string dt, .bool su] = some [.int .i64 wh, .int .i64 at_, .int .i64 ln, .string dt.data.toList, .bool su] := by
  have c0 : Try.prog.cellsOf 96 = 5 := by kernel_rfl
  have c3 : Try.prog.cellsOf 3 = 1 := by kernel_rfl
  have c4 : Try.prog.cellsOf 9 = 1 := by kernel_rfl
  have c5 : Try.prog.cellsOf 4 = 1 := by kernel_rfl
  simp [Program.keyLits, Try.underlying96, Try.underlying3, Try.underlying4, Try.underlying9, c0, c3, c4, c5, h1, h2, h3, h4]
theorem ev_lits (a : Bool) (i g wh at_ ln : Int) (dt : ByteArray) (su : Bool) (er : Int) (tx : ByteArray) (hi : (Lit.int .i64 i).wf = true) (hg : (Lit.int .i64 g).wf = true) (h1 : (Lit.int .i64 wh).wf = true) (h2 : (Lit.int .i64 at_).wf = true) (h3 : (Lit.int .i64 ln).wf = true) (h4 : dt.size ≤ maxLen) (he : (Lit.int .i64 er).wf = true) (ht : tx.size ≤ maxLen) :
    Try.prog.keyLits 6 104 [.bool a, .int .i64 i, .int .i64 g, .int .i64 wh, .int .i64 at_, .int .i64 ln, .string dt, .bool su, .int .i64 er, .string tx] = some [.bool a, .int .i64 i, .int .i64 g, .int .i64 wh, .int .i64 at_, .int .i64 ln, .string dt.data.toList, .bool su, .int .i64 er, .string tx.data.toList] := by
  have c0 : Try.prog.cellsOf 104 = 10 := by kernel_rfl
  have c1 : Try.prog.cellsOf 96 = 5 := by kernel_rfl
  have c2 : Try.prog.cellsOf 97 = 1 := by kernel_rfl
  have c3 : Try.prog.cellsOf 3 = 1 := by kernel_rfl
  have c4 : Try.prog.cellsOf 9 = 1 := by kernel_rfl
  have c5 : Try.prog.cellsOf 4 = 1 := by kernel_rfl
  have ha := ask_lits wh at_ ln dt su h1 h2 h3 h4
  have k1 : ∀ x, (Lit.int .i64 x).wf = true → Try.prog.keyLits 5 3 [.int .i64 x] = some [.int .i64 x] := fun x hx => by simp [Program.keyLits, Try.underlying3, hx]
  have k2 : ∀ x, (Lit.int .i64 x).wf = true → Try.prog.keyLits 5 97 [.int .i64 x] = some [.int .i64 x] := fun x hx => by simp [Program.keyLits, Try.underlying97, hx]
  have k3 : Try.prog.keyLits 5 9 [.string tx] = some [.string tx.data.toList] := by simp [Program.keyLits, Try.underlying9, ht]
  have k4 : Try.prog.keyLits 5 4 [.bool a] = some [.bool a] := by simp [Program.keyLits, Try.underlying4]
  unfold Program.keyLits
  simp [Try.underlying104, c0, c1, c2, c3, c4, c5, ha, k1 i hi, k1 g hg, k2 er he, k3, k4]
theorem ev_neq {e : EV} (h : EvOk e) (w : World) : (binOp .neq 104 (.agg #[.bool e.ans, .int .i64 e.id, .int .i64 e.gate, .int .i64 e.what, .int .i64 e.at_, .int .i64 e.len, .string e.data, .bool e.sure, .int .i64 e.err, .string e.txt]) (.agg #[.bool e.ans, .int .i64 e.id, .int .i64 e.gate, .int .i64 e.what, .int .i64 e.at_, .int .i64 e.len, .string e.data, .bool e.sure, .int .i64 e.err, .string e.txt])).run Try.prog w = .ok (.bool false) w :=
  (eq_deep (m := 6) (D := 6) (D' := 6) evkey (by decide) (ev_formed _ _ _ _ _ _ _ _ _ _) (ev_formed _ _ _ _ _ _ _ _ _ _) (ev_lits _ _ _ _ _ _ _ _ _ _ h.id h.gate h.what h.at_ h.len h.data h.err h.txt) (ev_lits _ _ _ _ _ _ _ _ _ _ h.id h.gate h.what h.at_ h.len h.data h.err h.txt) true (by simp) w).2
end Go.Proofs.Ytadejhlljdcocaa
