/-
  Slices that read as lists of cells (a slice that came in, or one of the call's own), and append onto a row of the call's own, whatever its source is. Of no program.
-/
import Derived.Test.YtodjlaapmbnahaaBase
import Derived.Maps.AppendAt
import Derived.Laws.OwnMore
import Derived.OwnWalk
import Derived.RegionTactic
namespace Go.Proofs.Ytodjlaapmbnahaa
open Go.RowKit
set_option linter.unusedVariables false
set_option linter.unusedSimpArgs false

/-- the slice v has n elements of so many cells each, which are xs -/
def SR (w : World) (v : Value) (size n : Nat) (xs : List Value) : Prop :=
  ∃ a cap, v = .slice a n cap ∧ n ≤ cap ∧ cap ≤ maxLen ∧ xs.length = n * size ∧
    (n = 0 ∨ ∃ b off, a = some ⟨b, off, none⟩ ∧ b < w.heap.size ∧ ∀ (j : Nat) u, xs[j]? = some u → w.cell? ⟨b, off + j, none⟩ = some u)

theorem SR.below {w w' : World} {v : Value} {size n : Nat} {xs : List Value} (h : SR w v size n xs) (hb : Below w.heap.size w w') : SR w' v size n xs := by
  obtain ⟨a, cap, rfl, h1, h2, h3, h4⟩ := h
  refine ⟨a, cap, rfl, h1, h2, h3, h4.imp id ?_⟩
  rintro ⟨b, off, rfl, hlt, hc⟩
  exact ⟨b, off, rfl, Nat.lt_of_lt_of_le hlt hb.size, fun j u hj => (hb.cell (p := ⟨b, off + j, none⟩) hlt).trans (hc j u hj)⟩
theorem SR.nil_ (w : World) (size : Nat) : SR w (.slice none 0 0) size 0 [] := ⟨none, 0, rfl, Nat.le_refl _, Nat.zero_le _, by simp, .inl rfl⟩
theorem add_off (b off j : Nat) : (⟨b, off, none⟩ : Addr).add j = ⟨b, off + j, none⟩ := by unfold Addr.add; split <;> simp_all
theorem SR.owns {w : World} {base : Nat} {e : TypeId} {size n : Nat} {v : Value} {xs : List Value} (h : w.ownsRow base e size v n xs) : SR w v size n xs := by
  have h1 := h.1
  have hc := fun g => h.cells (g := g)
  rcases h.2 with ⟨rfl, rfl⟩ | ⟨g, cap, cur, rfl, hb, hg, hnc, hcm, hcs, ht⟩
  · exact ⟨none, 0, rfl, Nat.le_refl _, Nat.zero_le _, h1, .inl rfl⟩
  · refine ⟨some ⟨g, 0, none⟩, cap, rfl, hnc, hcm, h1, .inr ⟨g, 0, rfl, lt_heap hg, fun j u hj => ?_⟩⟩
    rw [← add_off]
    exact hc g rfl j u hj
/-- a literal of cells that was laid just now -/
theorem SR.lit (w : World) (e : TypeId) (cs : Array Value) (size n : Nat) (hm : n ≤ maxLen) (hs : cs.size = n * size) : SR (w.alloc (.cells cs e)) (.slice (some ⟨w.heap.size, 0, none⟩) n n) size n cs.toList :=
  SR.owns (World.ownsRow_lit (base := w.heap.size) w cs n (Nat.le_refl _) hm hs)
/-- the first k elements -/
theorem SR.front {w : World} {a : Option Addr} {len cap size : Nat} {xs : List Value} (h : SR w (.slice a len cap) size len xs) (k : Nat) (hk : k ≤ len) : SR w (.slice a k cap) size k (xs.take (k * size)) := by
  obtain ⟨a', cap', he, h1, h2, h3, h4⟩ := h
  injection he with e1 _ e2
  subst e1 e2
  refine ⟨a, cap, rfl, by omega, h2, ?_, ?_⟩
  · rw [List.length_take, h3]
    exact Nat.min_eq_left (Nat.mul_le_mul_right _ hk)
  · rcases h4 with h4 | ⟨b, off, rfl, hb, hc⟩
    · exact .inl (by omega)
    · refine .inr ⟨b, off, rfl, hb, fun j u hj => hc j u ?_⟩
      rw [List.getElem?_take] at hj
      split at hj
      · exact hj
      · cases hj

section
variable {P : Program}
theorem run_app {t ty e : TypeId} {i : TypeInfo} {z : Value} {size bytes : Nat} (ht : P.underlying t = some (.slice e)) (hi : P.info? e = some i) (hz : i.zero = some z) (hsize : i.size = size) (hby : i.bytes = bytes)
    (hzs : z.cells.size = size) (hsz : 0 < size) (w : World) (base : Nat) (v : Value) (n : Nat) (xs : List Value) (hown : w.ownsRow base e size v n xs) (u : Value) (m : Nat) (news : List Value) (hr : SR w u size m news)
    (h1 : ∀ y ∈ news, y.oneCell' = true) (h63 : n + m ≤ maxLen) (hbytes : (n + m) * bytes ≤ 140737488355328) (hbase : base ≤ w.heap.size) :
    ∃ v' w', (Builtin.append_ #[t, t] ty #[v, u]).run P w = .ok v' w' ∧ w'.ownsRow base e size v' (n + m) (xs ++ news) ∧ w.grownBy w' v.ownBlock := by
  obtain ⟨a, cap, rfl, hmc, hcm, hl, hc⟩ := hr
  have hcells : ∀ ad, a = some ad → ∀ (j : Nat) y, news[j]? = some y → w.cell? (ad.add j) = some y := by
    intro ad e1 j y hj
    rcases hc with h0 | ⟨b, off, e2, _, hcell⟩
    · subst h0
      have : news = [] := List.eq_nil_of_length_eq_zero (by omega)
      subst this
      simp at hj
    · rw [e1] at e2
      cases e2
      rw [add_off]
      exact hcell j y hj
  rcases a with _ | ad
  · have h0 : m = 0 := by
      rcases hc with h0 | ⟨_, _, e2, _⟩
      · exact h0
      · cases e2
    subst h0
    have : news = [] := List.eq_nil_of_length_eq_zero (by omega)
    subst this
    refine ⟨v, w, ?_, by simpa using hown, World.grownBy.refl w _⟩
    rcases hown.2 with ⟨rfl, rfl⟩ | ⟨g, cp, cur, rfl, _, _, hnc, _⟩
    · simp [Builtin.append_, run_underlying ht, sizeOf, typeInfo, hi, Builtin.lenOf, Builtin.firstCells]
    · simp [Builtin.append_, run_underlying ht, sizeOf, typeInfo, hi, Builtin.lenOf, Builtin.firstCells, hnc, storeCells]
  · obtain ⟨v', w', hrun, h2, h3, _, _⟩ := run_append_own_at (P := P) w base t ty e i z size bytes ht hi hz hsize hby hzs hsz v n xs hown ad m cap news hl (hcells ad rfl) h1 h63 hbytes hbase
    exact ⟨v', w', hrun, h2, h3⟩
theorem wp_app {t e : TypeId} {i : TypeInfo} {z : Value} {size bytes : Nat} (ht : P.underlying t = some (.slice e)) (hi : P.info? e = some i) (hz : i.zero = some z) (hsize : i.size = size) (hby : i.bytes = bytes)
    (hzs : z.cells.size = size) (hsz : 0 < size) {ops : Array Oper} {rest : List Oper} {o : Oper} {a : Act} {Q : Exit → Act → World → Prop} {w : World} (hgd : o.guard = none) (s x : Operand)
    (ho : o.op = .call { callee := .builtin .append, args := #[s, x], argTypes := #[t, t] }) (base : Nat) (v : Value) (n : Nat) (xs : List Value) (hs : a.eval s = v) (hown : w.ownsRow base e size v n xs)
    (u : Value) (m : Nat) (news : List Value) (hx : a.eval x = u) (hr : SR w u size m news)
    (h1 : ∀ y ∈ news, y.oneCell' = true) (h63 : n + m ≤ maxLen) (hbytes : (n + m) * bytes ≤ 140737488355328) (hbase : base ≤ w.heap.size)
    (h : ∀ v' w', w'.ownsRow base e size v' (n + m) (xs ++ news) → w.grownBy w' v.ownBlock → wpList P ops Q rest (a.put o.dst v') w') : wpList P ops Q (o :: rest) a w := by
  refine wpList_plain hgd fun K hK => ?_
  obtain ⟨v', w', hrun, h2, h3⟩ := run_app (P := P) (ty := o.type) ht hi hz hsize hby hzs hsz w base v n xs hown u m news hr h1 h63 hbytes hbase
  unfold Oper.wp execOp
  simp only [ho, resolve, invoke, builtin, Sem.run_bind, Sem.run_pure, Result.andThen_ok, List.map_toArray, List.map_cons, List.map_nil, hs, hx, hrun]
  exact hK _ _ (h v' w' h2 h3)
end
/-- what append leaves of the world -/
theorem below_app {B base : Nat} {w0 w w' : World} {e : TypeId} {size n : Nat} {v : Value} {xs : List Value} (hb : Below B w0 w) (hg : w.grownBy w' v.ownBlock) (hown : w.ownsRow base e size v n xs) (hB : B ≤ base) (hs : B ≤ w.heap.size) : Below B w0 w' :=
  hb.grown hg hs (fun q hq => Nat.le_trans hB (hown.lt q hq).1)
theorem owns_below {w w' : World} {base n size : Nat} {e : TypeId} {v : Value} {xs : List Value} (h : w.ownsRow base e size v n xs) (hb : Below w.heap.size w w') : w'.ownsRow base e size v n xs := by
  refine h.kept (row := none) ⟨hb.os, hb.tape, hb.output, hb.size, fun k hk _ => hb.block k hk⟩ ?_
  cases v.ownBlock with
  | none => exact .inl rfl
  | some k => exact .inr (by simp)
theorem below_trans {a b c : World} {B : Nat} (h : Below B a b) (k : Below b.heap.size b c) (hB : B ≤ b.heap.size) : Below B a c := h.trans (k.mono hB)
theorem below_of_drew {B : Nat} {x y : World} (h : Below B x.drew y) : Below B x y := ⟨h.os, h.tape, h.output, h.size, h.block⟩
theorem below_drew' {B : Nat} {x y : World} (h : Below B x y) : Below B x y.drew := ⟨h.os, h.tape, h.output, h.size, h.block⟩
/-- cells of ints -/
def nCells (l : List Int) : List Value := l.map (Value.int .i64)
theorem nCells_length (l : List Int) : (nCells l).length = l.length := by simp [nCells]
theorem nCells_append (a b : List Int) : nCells a ++ nCells b = nCells (a ++ b) := by simp [nCells]
theorem nCells_one (l : List Int) : ∀ y ∈ nCells l, y.oneCell' = true := by
  intro y hy
  simp only [nCells, List.mem_map] at hy
  obtain ⟨x, _, rfl⟩ := hy
  rfl
theorem nCells_take (l : List Int) (k : Nat) : (nCells l).take (k * 1) = nCells (l.take k) := by simp [nCells, List.map_take]
/-- a slice of integers that came in -/
theorem SR.row {w : World} {a : Option Addr} {len cap : Nat} {zs : List Int} (h : RowOf .i64 w a len cap zs) : SR w (.slice a len cap) 1 len (nCells (zs.take len)) ∧ (zs.take len).length = len := by
  rcases h with ⟨rfl, rfl, rfl, rfl⟩ | ⟨⟨b, off, spot⟩, rfl, hl, hm, hz, hc, hw⟩
  · exact ⟨SR.nil_ w 1, rfl⟩
  · have hlen : (zs.take len).length = len := by rw [List.length_take]; omega
    refine ⟨⟨_, cap, rfl, hl, hm, by rw [nCells_length, hlen, Nat.mul_one], ?_⟩, hlen⟩
    rcases Nat.eq_zero_or_pos len with h0 | h0
    · exact .inl h0
    · right
      have c0 := hc 0 (by omega)
      have hs : spot = none := by
        have := World.cell?_spot c0
        simpa [Addr.add] using this
      subst hs
      have hb : b < w.heap.size := by
        have := World.block_lt_of_cell? w _ c0
        simpa [Addr.add] using this
      refine ⟨b, off, rfl, hb, fun j u hj => ?_⟩
      have hjl : j < len := by
        have := (List.getElem?_eq_some_iff.1 hj).1
        rw [nCells_length, hlen] at this
        exact this
      have hcj := hc j (by omega)
      rw [add_off] at hcj
      rw [hcj, ← hj]
      simp [nCells, List.getElem?_take, hjl, List.getD, show j < zs.length by omega]
/-- the cell of an integer -/
theorem SR.int {w : World} {a : Option Addr} {len cap : Nat} {l : List Int} (h : SR w (.slice a len cap) 1 len (nCells l)) (h0 : 0 < len) :
    ∃ b off, a = some ⟨b, off, none⟩ ∧ b < w.heap.size ∧ ∀ j, j < len → w.cell? ⟨b, off + j, none⟩ = some (.int .i64 (l.getD j 0)) := by
  obtain ⟨a', cap', he, h1, h2, h3, h4⟩ := h
  injection he with e1 _ e2
  subst e1 e2
  rcases h4 with h4 | ⟨b, off, rfl, hb, hc⟩
  · omega
  · refine ⟨b, off, rfl, hb, fun j hj => hc j _ ?_⟩
    have : j < l.length := by rw [nCells_length] at h3; omega
    simp [nCells, List.getD, this]
theorem SR.form {w : World} {v : Value} {size n : Nat} {xs : List Value} (h : SR w v size n xs) : ∃ a cap, v = .slice a n cap ∧ n ≤ cap ∧ cap ≤ maxLen := by
  obtain ⟨a, cap, e, h1, h2, _⟩ := h
  exact ⟨a, cap, e, h1, h2⟩
end Go.Proofs.Ytodjlaapmbnahaa
