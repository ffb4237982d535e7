/-
  Several texts, laid together.
-/
import Derived.Test.YtadejhlljdcocaaMg13
import Derived.Test.YtadejhlljdcocaaMg17
/-
  ItemsPlay's walk.
-/

namespace Go.Proofs.Ytadejhlljdcocaa
open Go.RowKit
set_option linter.unusedVariables false
set_option linter.unusedSimpArgs false

abbrev actSh : Sh := .two (.int .i64) (.two (.int .i64) (.two (.two (.int .u64) (.two .str .unit)) .unit))
/-- the cells of an act that came in -/
theorem act_cells {w : World} {b off j : Nat} (h : ∃ ys, ys.length = actSh.size ∧ (∀ (k : Nat) u, ys[k]? = some u → w.cell? ⟨b, off + j * actSh.size + k, none⟩ = some u) ∧ Fits w actSh ys) :
    ∃ tw tb tv td, w.cell? ⟨b, off + j * 4, none⟩ = some (.int .i64 tw) ∧ w.cell? ⟨b, off + j * 4 + 1, none⟩ = some (.int .i64 tb) ∧ w.cell? ⟨b, off + j * 4 + 2, none⟩ = some (.int .u64 tv) ∧ w.cell? ⟨b, off + j * 4 + 3, none⟩ = some (.string td) ∧ td.size ≤ maxLen := by
  obtain ⟨ys, hl, hc, x0, y0, rfl, ⟨tw, rfl, -⟩, x1, y1, rfl, ⟨tb, rfl, -⟩, x2, y2, rfl, ⟨x3, y3, rfl, ⟨tv, rfl, -⟩, x4, y4, rfl, ⟨td, rfl, hd⟩, rfl⟩, rfl⟩ := h
  exact ⟨tw, tb, tv, td, hc 0 _ rfl, hc 1 _ rfl, hc 2 _ rfl, hc 3 _ rfl, hd⟩
theorem put_len {m : Bool} {l : List HI} {x : HI} : (putL m l x).length ≤ l.length + 1 := by
  unfold putL
  split
  · induction l with
    | nil => simp [layL]
    | cons h t ih =>
      unfold layL
      split
      · simpa using ih
      · split
        · split <;> simp
        · simp
  · omega
theorem item_neq (x : Int) (s : ByteArray) (w : World) (hx : (Lit.int .u64 x).wf = true) (hs : s.size ≤ maxLen) :
    (binOp .neq 71 (.agg #[.int .u64 x, .string s]) (.agg #[.int .u64 x, .string s])).run Try.prog w = .ok (.bool false) w :=
  (eq_deep (m := 4) (D := 4) (D' := 4) itemkey (by decide) (item_formed x s) (item_formed x s) (item_lits x s hx hs) (item_lits x s hx hs) true (by simp) w).2
theorem get_wf {l : List HI} (h : Srt l) (b : Int) : (Lit.int .u64 (gv (getL l b))).wf = true ∧ (gd (getL l b)).size ≤ maxLen := by
  cases hg : getL l b with
  | none => exact ⟨by decide, by decide⟩
  | some x =>
    have hm : x ∈ l := List.mem_of_find?_eq_some hg
    obtain ⟨-, h2, h3⟩ := good_wf (h.all x hm)
    exact ⟨h2, h3⟩
end Go.Proofs.Ytadejhlljdcocaa
/-
  scrub: Unlike, Odd: which blocks two lists hold unlike.
-/


namespace Go.Proofs.Ytadejhlljdcocaa
open Go.RowKit
set_option linter.unusedVariables false
set_option linter.unusedSimpArgs false

/-- the cells of what is unlike -/
def dC (A B : List HI) (n : Int) : List Value := [.int .i64 n, .int .u64 (gv (getL A n)), .string (gd (getL A n)), .int .u64 (gv (getL B n)), .string (gd (getL B n))]
def dCells (A B : List HI) (ns : List Int) : List Value := ns.flatMap (dC A B)
theorem dCells_length (A B : List HI) (ns : List Int) : (dCells A B ns).length = ns.length * 5 := by
  induction ns with
  | nil => rfl
  | cons n t ih => simp only [dCells, List.flatMap_cons, List.length_append, List.length_cons] at ih ⊢; rw [ih]; simp [dC]; omega
theorem dCells_snoc (A B : List HI) (ns : List Int) (n : Int) : dCells A B (ns ++ [n]) = dCells A B ns ++ dC A B n := by simp [dCells]
theorem dC_one (A B : List HI) (n : Int) : ∀ y ∈ dC A B n, y.oneCell' = true := by
  intro y hy
  simp only [dC, List.mem_cons, List.not_mem_nil, or_false] at hy
  rcases hy with rfl | rfl | rfl | rfl | rfl <;> rfl
theorem item_dif (x : Int) (s : ByteArray) (y : Int) (t : ByteArray) (w : World) (hx : (Lit.int .u64 x).wf = true) (hs : s.size ≤ maxLen) (hy : (Lit.int .u64 y).wf = true) (ht : t.size ≤ maxLen) (r : Bool) (hr : r = true ↔ (x = y ∧ s = t)) :
    (binOp .neq 71 (.agg #[.int .u64 x, .string s]) (.agg #[.int .u64 y, .string t])).run Try.prog w = .ok (.bool (!r)) w :=
  (eq_deep (m := 4) (D := 4) (D' := 4) itemkey (by decide) (item_formed x s) (item_formed y t) (item_lits x s hx hs) (item_lits y t hy ht) r (by
    rw [hr]
    constructor
    · rintro ⟨rfl, rfl⟩; rfl
    · intro h
      simp only [List.cons.injEq, and_true] at h
      obtain ⟨h1, h2⟩ := h
      injection h1 with _ h1
      injection h2 with h2
      exact ⟨h1, str_ext h2⟩) w).2
def blk (l : List HI) : List Int := l.map (·.b)
/-- the blocks of the first j of which P is told -/
def firstP (P : Int → Bool) (M : List HI) (j : Nat) : List Int := ((M.take j).filter fun h => P h.b).map (·.b)
theorem firstP_next {P : Int → Bool} {M : List HI} {j : Nat} {x : HI} (hx : M[j]? = some x) : firstP P M (j + 1) = firstP P M j ++ (if P x.b = true then [x.b] else []) := by
  unfold firstP
  rw [take_next hx, List.filter_append, List.map_append]
  congr 1
  cases h : P x.b <;> simp [List.filter_cons, h]
theorem firstP_len (P : Int → Bool) (M : List HI) (j : Nat) : (firstP P M j).length ≤ j := by
  unfold firstP
  rw [List.length_map]
  exact Nat.le_trans (List.length_filter_le _ _) (by rw [List.length_take]; omega)
theorem firstP_all (P : Int → Bool) (M : List HI) : firstP P M M.length = (M.filter fun h => P h.b).map (·.b) := by unfold firstP; rw [List.take_length]
theorem app_below {N : Nat} {w wr w2 : World} {ob : Obj} {o : Value} {n size : Nat} {e : TypeId} {xs : List Value} (hb : Below N w wr) (hN : N ≤ wr.heap.size) (ho : wr.ownsRow N e size o n xs) (hg : (wr.alloc ob).grownBy w2 o.ownBlock) : Below N w w2 :=
  below_app (hb.alloc hN ob) hg (ho.alloc ob) (Nat.le_refl _) (by simp; omega)
end Go.Proofs.Ytadejhlljdcocaa
/-
  scrub: Odd, Lacks; tarnlaw43's few and waking call.
-/

namespace Go.Proofs.Ytadejhlljdcocaa
open Go.RowKit
set_option linter.unusedVariables false
set_option linter.unusedSimpArgs false

theorem int_lit (n : Int) (w : World) : SR (w.alloc (.cells #[.int .i64 n] 3)) (.slice (some ⟨w.heap.size, 0, none⟩) 1 1) 1 1 (nCells [n]) := SR.lit w 3 #[.int .i64 n] 1 1 (by decide) rfl
theorem owns_int {w' : World} {N : Nat} {v' : Value} {L : List Int} {n : Int} (h : w'.ownsRow N 3 1 v' (L.length + 1) (nCells L ++ nCells [n])) : w'.ownsRow N 3 1 v' (L ++ [n]).length (nCells (L ++ [n])) := by
  rw [← nCells_append, List.length_append]
  exact h
/-- what the other one lacks -/
noncomputable def lkS (s : List HI × List HI) (x : HI) : List HI × List HI := (putB s.1 x, if putsL (mB x.v x.d) s.1 x = true then s.2 ++ [x] else s.2)
noncomputable def lacksL (B A : List HI) : List HI × List HI := A.foldl lkS (B, [])
theorem lacks_next {B A : List HI} {j : Nat} {x : HI} (h : A[j]? = some x) : lacksL B (A.take (j + 1)) = lkS (lacksL B (A.take j)) x := by
  rw [take_next h, lacksL, List.foldl_append]; rfl
theorem lacks_len (B A : List HI) : (lacksL B A).2.length ≤ A.length := by
  have key : ∀ (A : List HI) (s : List HI × List HI), (A.foldl lkS s).2.length ≤ s.2.length + A.length := by
    intro A
    induction A with
    | nil => intro s; simp
    | cons x t ih =>
      intro s
      refine Nat.le_trans (ih _) ?_
      unfold lkS
      simp only
      split <;> simp <;> omega
  have := key A (B, [])
  unfold lacksL
  simpa using this
section
variable {P : Program}
theorem wp_appN {t e : TypeId} {i : TypeInfo} {z : Value} {size bytes : Nat} (ht : P.underlying t = some (.slice e)) (hi : P.info? e = some i) (hz : i.zero = some z) (hsize : i.size = size) (hby : i.bytes = bytes)
    (hzs : z.cells.size = size) (hsz : 0 < size) {ops : Array Oper} {rest : List Oper} {o : Oper} {a : Act} {Q : Exit → Act → World → Prop} {w : World} (hgd : o.guard = none) (s x : Operand)
    (ho : o.op = .call { callee := .builtin .append, args := #[s, x], argTypes := #[t, t] }) (base : Nat) (v : Value) (n : Nat) (xs : List Value) (hs : a.eval s = v) (hown : w.ownsRow base e size v n xs)
    (ad : Addr) (cap m : Nat) (news : List Value) (hx : a.eval x = .slice (some ad) m cap) (hr : SR w (.slice (some ad) m cap) size m news) (hm : 0 < m)
    (h1 : ∀ y ∈ news, y.oneCell' = true) (h63 : n + m ≤ maxLen) (hbytes : (n + m) * bytes ≤ 140737488355328) (hbase : base ≤ w.heap.size)
    (h : ∀ v' w', w'.ownsRow base e size v' (n + m) (xs ++ news) → w.grownBy w' v.ownBlock → (v'.ownBlock = v.ownBlock ∨ v'.ownBlock = some w.heap.size) → wpList P ops Q rest (a.put o.dst v') w') : wpList P ops Q (o :: rest) a w := by
  refine wpList_plain hgd fun K hK => ?_
  obtain ⟨a', cap', he, hmc, hcm, hl, hc⟩ := hr
  injection he with e1 _ e2
  subst e1 e2
  have hcells : ∀ (j : Nat) y, news[j]? = some y → w.cell? (ad.add j) = some y := by
    intro j y hj
    rcases hc with h0 | ⟨b, off, e2, _, hcell⟩
    · omega
    · cases e2
      rw [add_off]
      exact hcell j y hj
  obtain ⟨v', w', hrun, h2, h3, _, h5⟩ := run_append_own_at (P := P) w base t o.type e i z size bytes ht hi hz hsize hby hzs hsz v n xs hown ad m cap news hl hcells h1 h63 hbytes hbase
  unfold Oper.wp execOp
  simp only [ho, resolve, invoke, builtin, Sem.run_bind, Sem.run_pure, Result.andThen_ok, List.map_toArray, List.map_cons, List.map_nil, hs, hx, hrun]
  exact hK _ _ (h v' w' h2 h3 h5)
end
theorem owns_okept {w w' : World} {base N p n size : Nat} {e : TypeId} {o sv sv' : Value} {xs : List Value} (h : w.ownsRow base e size o n xs) (hk : OKept w w' N p sv sv') (hne : ∀ b, o.ownBlock = some b → b ≠ p ∧ some b ≠ sv.ownBlock) : w'.ownsRow base e size o n xs := by
  refine ⟨h.1, ?_⟩
  rcases h.2 with q | ⟨g, cap, cur, rfl, hb, hg, r⟩
  · exact .inl q
  · obtain ⟨n1, n2⟩ := hne g rfl
    exact .inr ⟨g, cap, cur, rfl, hb, (hk.block g (lt_heap hg) n1 n2).trans hg, r⟩
/-- what Lacks' loop keeps: a set, and a row of the loop's own -/
structure LkRel (w3 wr : World) (p : Nat) (s1 sv o : Value) (S : List HI × List HI) : Prop where
  own : wr.ownsRow w3.heap.size 125 3 o S.2.length (hCells S.2)
  set : SetAt wr p p sv S.1
  kept : OKept w3 wr p p s1 sv
  ne : ∀ b, o.ownBlock = some b → some b ≠ sv.ownBlock
  lt : p < w3.heap.size
theorem LkRel.off {w3 wr : World} {p : Nat} {s1 sv o : Value} {S : List HI × List HI} (h : LkRel w3 wr p s1 sv o S) : ∀ b, o.ownBlock = some b → b ≠ p ∧ some b ≠ sv.ownBlock := fun b e => ⟨by have := (h.own.lt b e).1; have := h.lt; omega, h.ne b e⟩
theorem LkRel.go {w3 w w' : World} {p : Nat} {s1 sv o : Value} {S : List HI × List HI} (h : LkRel w3 w p s1 sv o S) (hb : Below w.heap.size w w') : LkRel w3 w' p s1 sv o S :=
  ⟨owns_below h.own hb, h.set.below hb, h.kept.trans (OKept.of_below hb (by have := lt_heap h.set.2.1; omega)), h.ne, h.lt⟩
theorem LkRel.put {w3 w w' : World} {p : Nat} {s1 sv sv' o : Value} {S : List HI × List HI} {L : List HI} (h : LkRel w3 w p s1 sv o S) (hs : SetAt w' p p sv' L) (hk : OKept w w' p p sv sv') : LkRel w3 w' p s1 sv' o (L, S.2) := by
  refine ⟨owns_okept h.own hk h.off, hs, h.kept.trans hk, fun b e e2 => ?_, h.lt⟩
  rcases hk.new with q | q
  · exact h.ne b e (e2.trans q)
  · have := q b e2.symm; have := (h.own.lt b e).2; omega
theorem LkRel.app {w3 w w' : World} {p : Nat} {s1 sv o v' : Value} {L T : List HI} {x : HI} {ob : Obj} (h : LkRel w3 w p s1 sv o (L, T)) (hown : w'.ownsRow w3.heap.size 125 3 v' (T.length + 1) (hCells T ++ hCells [x])) (hg : (w.alloc ob).grownBy w' o.ownBlock)
    (hn : v'.ownBlock = o.ownBlock ∨ v'.ownBlock = some (w.alloc ob).heap.size) : LkRel w3 w' p s1 sv v' (L, T ++ [x]) := by
  have hw3 := h.kept.size
  have hb := app_below (Below.refl w3.heap.size w) hw3 h.own hg
  have hbl : ∀ k, k < w.heap.size → k ≠ p → some k ≠ sv.ownBlock → some k ≠ o.ownBlock → w'.heap[k]? = w.heap[k]? := fun k hk _ _ h3 => (hg.block k (by simp; omega) h3).trans (Below.heap_alloc _ _ _ hk)
  have hpo : some p ≠ o.ownBlock := fun e => (h.off p e.symm).1 rfl
  have hp : w'.heap[p]? = some (.cells #[sv] 203) := ((hg.block p (by have := lt_heap h.set.2.1; simp; omega) hpo).trans (Below.heap_alloc _ _ _ (lt_heap h.set.2.1))).trans h.set.2.1
  have hrow : w'.ownsRow p 125 3 sv L.length (hCells L) := by
    refine ⟨h.set.2.2.1.1, ?_⟩
    rcases h.set.2.2.1.2 with q | ⟨g, cap, cur, rfl, hgb, hgc, r⟩
    · exact .inl q
    · have hgo : some g ≠ o.ownBlock := fun e => h.ne g e.symm rfl
      exact .inr ⟨g, cap, cur, rfl, hgb, ((hg.block g (by have := lt_heap hgc; simp; omega) hgo).trans (Below.heap_alloc _ _ _ (lt_heap hgc))).trans hgc, r⟩
  have hpl : p ≤ w3.heap.size := Nat.le_of_lt h.lt
  refine ⟨owns_app hown, ⟨h.set.1, hp, hrow, h.set.2.2.2⟩, ⟨(h.kept.below).trans (hb.mono hpl), Nat.le_trans hw3 (by have := hg.size; simp at this; omega), fun k hk hkp hku => ?_, h.kept.new⟩, fun b e e2 => ?_, h.lt⟩
  · exact (hb.block k hk).trans (h.kept.block k hk hkp hku)
  · rcases hn with q | q
    · exact h.ne b (q.symm.trans e) e2
    · rw [q] at e
      injection e with e
      have := (h.set.2.2.1.lt b e2.symm).2
      simp at e
      omega
end Go.Proofs.Ytadejhlljdcocaa
