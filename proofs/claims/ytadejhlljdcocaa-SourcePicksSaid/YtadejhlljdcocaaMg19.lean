/-
  Several texts, laid together.
-/
import Derived.Test.YtadejhlljdcocaaMg16
import Derived.Test.YtadejhlljdcocaaMg17
import Derived.Test.YtadejhlljdcocaaMg18
import Derived.Test.YtadejhlljdcocaaMg1
import Derived.Test.YtadejhlljdcocaaShelf
/-
  What layer 30's near gives, as data; a row of what is told, one more at its end.
-/




namespace Go.Proofs.Ytadejhlljdcocaa
open Go.RowKit
set_option linter.unusedVariables false
set_option linter.unusedSimpArgs false

theorem info_told : ∃ i0 : TypeInfo, Try.prog.info? 83 = some i0 ∧ i0.zero = some (.agg #[.int .i64 0, .int .i64 0, .slice none 0 0, .slice none 0 0]) ∧ i0.size = 4 ∧ i0.bytes = 64 := by
  have h : (Try.prog.info? 83).map (fun i => (i.zero, i.size, i.bytes)) = some (some (.agg #[.int .i64 0, .int .i64 0, .slice none 0 0, .slice none 0 0]), 4, 64) := by kernel_rfl
  simp only [Option.map_eq_some_iff, Prod.mk.injEq] at h
  exact h
theorem near_all {l : List HI} (h : ∀ x ∈ l, Raw x) : ∀ x ∈ nearL l, Ok x := fun x hx => by
  obtain ⟨y, hy, rfl⟩ := List.mem_map.1 hx
  exact (nearX_ok (h y (List.mem_of_mem_take hy))).1
theorem of_srt {l : List HI} (h : ∀ x ∈ l, Raw x) : Srt (ofL l) := srt_putAll Srt.nil (near_all h)
theorem of_tok {t : TD} (h : RawT t) {vD vA : Value} : TOk ⟨bits .and .i64 t.e 3, bits .and .i64 t.d 3, ofL t.D, ofL t.A, vD, vA⟩ where
  A := fun x hx => ((of_srt h.A).all x hx).ok
  D := fun x hx => ((of_srt h.D).all x hx).ok
  la := by have := (of_srt h.A).len; show (ofL t.A).length ≤ 1000; omega
  ld := by have := (of_srt h.D).len; show (ofL t.D).length ≤ 1000; omega
/-- lists that lie apart from a row -/
def Ap (w : World) (v u : Value) (n : Nat) : Prop := n = 0 ∨ ∀ k, u.ownBlock = some k → k < w.heap.size ∧ some k ≠ v.ownBlock
theorem near30t (t : TD) (hr : RawT t) (w : World) (ht : t.at_ w) : Calls Try.prog 44 #[.agg t.cells] w fun e w' =>
    ∃ u : TD, e = .returned (.agg u.cells) ∧ u.at_ w' ∧ TOk u ∧ Below w.heap.size w w' ∧ (∀ v : Value, (∀ g, v.ownBlock = some g → g < w.heap.size) → Ap w' v u.vD u.D.length ∧ Ap w' v u.vA u.A.length) ∧ u.e = bits .and .i64 t.e 3 ∧ u.d = bits .and .i64 t.d 3 ∧ Srt u.D ∧ AllM u.D ∧ Srt u.A ∧ AllM u.A := by
  refine Calls.mono (near30 t hr w ht) ?_
  rintro e w' ⟨vD, vA, rfl, h1, h2, hb, f1, f2⟩
  have key : ∀ (x : Value) (n : Nat) (xs : List Value), SR w' x 3 n xs → (∀ b, x.ownBlock = some b → w.heap.size < b) → ∀ v : Value, (∀ g, v.ownBlock = some g → g < w.heap.size) → Ap w' v x n := by
    intro x n xs hs hf v hv
    obtain ⟨a, cap, rfl, -, -, -, h4⟩ := hs
    rcases h4 with h4 | ⟨b, off, rfl, hlt, -⟩
    · exact .inl h4
    · refine .inr fun k e => ⟨by have e : some b = some k := e; injection e with e; omega, fun q => ?_⟩
      have := hf k e
      have := hv k q.symm
      omega
  exact ⟨⟨_, _, ofL t.D, ofL t.A, vD, vA⟩, rfl, ⟨h1, h2⟩, of_tok hr, hb, fun v hv => ⟨key _ _ _ h1 f1 v hv, key _ _ _ h2 f2 v hv⟩, rfl, rfl, of_srt hr.D, allM_putAll (by intro x hx; cases hx), of_srt hr.A, allM_putAll (by intro x hx; cases hx)⟩
/-- what the law has gathered: a row of its own, each of what may be -/
structure Gat (w : World) (N : Nat) (v : Value) (us : List TD) : Prop where
  row : w.ownsRow N 83 4 v us.length (tCells us)
  at_ : ∀ u ∈ us, u.at_ w ∧ Ap w v u.vD u.D.length ∧ Ap w v u.vA u.A.length
  ok : ∀ u ∈ us, TOk u
theorem Gat.tds {w : World} {N : Nat} {v : Value} {us : List TD} (h : Gat w N v us) : TDs w v us := ⟨SR.owns h.row, fun u hu => (h.at_ u hu).1⟩
theorem Gat.nil (w : World) (N : Nat) : Gat w N (.slice none 0 0) [] := ⟨World.ownsRow_nil _ _ _ _, by simp, by simp⟩
theorem Ap.go {w w' : World} {v u : Value} {n : Nat} (h : Ap w v u n) (hs : w.heap.size ≤ w'.heap.size) : Ap w' v u n := h.imp id fun h k e => ⟨Nat.lt_of_lt_of_le (h k e).1 hs, (h k e).2⟩
theorem Gat.go {w w' : World} {N : Nat} {v : Value} {us : List TD} (h : Gat w N v us) (hb : Below w.heap.size w w') : Gat w' N v us :=
  ⟨owns_below h.row hb, fun u hu => ⟨(h.at_ u hu).1.go hb, (h.at_ u hu).2.1.go hb.size, (h.at_ u hu).2.2.go hb.size⟩, h.ok⟩
theorem Gat.lt {w : World} {N : Nat} {v : Value} {us : List TD} (h : Gat w N v us) : ∀ g, v.ownBlock = some g → N ≤ g ∧ g < w.heap.size := fun g e => ⟨(h.row.lt g e).1, by
  rcases h.row.2 with ⟨rfl, -⟩ | ⟨b, cap, cur, rfl, hb, hg, -⟩
  · cases e
  · injection e with e; subst e; exact lt_heap hg⟩
theorem sr_grownT {w w' : World} {v u : Value} {size n : Nat} {xs : List Value} (h : SR w u size n xs) (hg : w.grownBy w' v.ownBlock) (hne : Ap w v u n) : SR w' u size n xs := by
  obtain ⟨a, cap, rfl, h1, h2, h3, h4⟩ := h
  refine ⟨a, cap, rfl, h1, h2, h3, ?_⟩
  rcases h4 with h4 | ⟨g, off, rfl, hb, hc⟩
  · exact .inl h4
  rcases hne with hne | hne
  · exact .inl hne
  refine .inr ⟨g, off, rfl, Nat.lt_of_lt_of_le hb hg.size, fun j y hj => ?_⟩
  have e := hg.block g hb (hne g rfl).2
  have hcu := hc j y hj
  simp only [World.cell?] at hcu ⊢
  rw [e]
  exact hcu
theorem Ap.new {w w' : World} {v v' u : Value} {n : Nat} (h : Ap w v u n) (hs : w.heap.size ≤ w'.heap.size) (hn : v'.ownBlock = v.ownBlock ∨ v'.ownBlock = some w.heap.size) : Ap w' v' u n := by
  refine h.imp id fun h k e => ⟨Nat.lt_of_lt_of_le (h k e).1 hs, fun q => ?_⟩
  rcases hn with p | p
  · exact (h k e).2 (q.trans p)
  · rw [p] at q; injection q with q; have := (h k e).1; omega
theorem Gat.app {w w' : World} {N : Nat} {v v' : Value} {us xs : List TD} (h : Gat w N v us) (hx : ∀ u ∈ xs, u.at_ w ∧ Ap w v u.vD u.D.length ∧ Ap w v u.vA u.A.length) (hok : ∀ u ∈ xs, TOk u)
    (hown : w'.ownsRow N 83 4 v' (us.length + xs.length) (tCells us ++ tCells xs)) (hg : w.grownBy w' v.ownBlock) (hn : v'.ownBlock = v.ownBlock ∨ v'.ownBlock = some w.heap.size) : Gat w' N v' (us ++ xs) := by
  refine ⟨by rw [List.length_append, ← tCells_append]; exact hown, fun u hu => ?_, fun u hu => ?_⟩
  · have key : u.at_ w ∧ Ap w v u.vD u.D.length ∧ Ap w v u.vA u.A.length := by
      rcases List.mem_append.1 hu with q | q
      · exact h.at_ u q
      · exact hx u q
    exact ⟨⟨sr_grownT key.1.1 hg key.2.1, sr_grownT key.1.2 hg key.2.2⟩, key.2.1.new hg.size hn, key.2.2.new hg.size hn⟩
  · rcases List.mem_append.1 hu with q | q
    · exact h.ok u q
    · exact hok u q
theorem Gat.ne {w : World} {N : Nat} {v : Value} {us : List TD} (h : Gat w N v us) {Q : Nat} {A : Array Value} {t : TypeId} {f : Nat × Nat} (hq : w.heap[Q]? = some (.cells A t f)) (ht : t ≠ 83) : some Q ≠ v.ownBlock := by
  intro e
  rcases h.row.2 with ⟨rfl, -⟩ | ⟨b, cap, cur, rfl, hb, hg, -⟩
  · cases e
  · have e : some Q = some b := e
    injection e with e
    subst e
    rw [hq] at hg
    injection hg with hg
    injection hg with _ hg
    exact ht hg
/-- one more, laid behind the others -/
theorem Gat.one {w w' : World} {N : Nat} {v v' : Value} {us : List TD} {u : TD} {o : Obj} (h : Gat w N v us) (hu : u.at_ w) (hok : TOk u) (hap : Ap w v u.vD u.D.length ∧ Ap w v u.vA u.A.length)
    (hown : w'.ownsRow N 83 4 v' (us.length + 1) (tCells us ++ tCells [u])) (hg : (w.alloc o).grownBy w' v.ownBlock) (hn : v'.ownBlock = v.ownBlock ∨ v'.ownBlock = some (w.heap.size + 1)) : Gat w' N v' (us ++ [u]) := by
  have hb := (Below.refl w.heap.size w).alloc (Nat.le_refl _) o
  have hz : (w.alloc o).heap.size = w.heap.size + 1 := by simp
  refine (h.go hb).app (xs := [u]) (fun x hx => ?_) (fun x hx => ?_) hown hg (by rw [hz]; exact hn)
  · rw [List.mem_singleton.1 hx]
    exact ⟨hu.go hb, hap.1.go hb.size, hap.2.go hb.size⟩
  · rw [List.mem_singleton.1 hx]
    exact hok
/-- what an append behind a literal leaves -/
theorem grown_lit {w0 w w' : World} {N B : Nat} {v : Value} {us : List TD} {o : Obj} (h : Gat w N v us) (hg : (w.alloc o).grownBy w' v.ownBlock) (hb : Below B w0 w) (hB : B ≤ N) (hN : B ≤ w.heap.size) : Below B w0 w' ∧ ∀ k, k < w.heap.size → some k ≠ v.ownBlock → w'.heap[k]? = w.heap[k]? := by
  have hz : (w.alloc o).heap.size = w.heap.size + 1 := by simp
  have key : ∀ k, k < w.heap.size → some k ≠ v.ownBlock → w'.heap[k]? = w.heap[k]? := fun k hk hne => (hg.block k (by omega) hne).trans (Below.heap_alloc w o k hk)
  refine ⟨⟨hg.os.trans hb.os, hg.tape.trans hb.tape, hg.output.trans hb.output, ?_, fun k hk => (key k (by omega) fun e => ?_).trans (hb.block k hk)⟩, key⟩
  · have := hg.size; have := hb.size; omega
  · have := (h.lt k e.symm).1; omega
/-- one that was laid just now -/
theorem told_lit (u : TD) (w : World) : SR (w.alloc (.cells u.cells 83)) (.slice (some ⟨w.heap.size, 0, none⟩) 1 1) 4 1 (tCells [u]) := by
  have := SR.lit w 83 u.cells 4 1 (by decide) (by simp [TD.cells])
  simpa [tCells] using this
theorem tCells_one {us : List TD} {w : World} (h : ∀ u ∈ us, u.at_ w) : ∀ y ∈ tCells us, y.oneCell' = true := by
  intro y hy
  simp only [tCells, List.mem_flatMap] at hy
  obtain ⟨u, hu, hy⟩ := hy
  obtain ⟨⟨a, c, e⟩, ⟨a', c', e'⟩⟩ := TD.forms (h u hu)
  simp only [TD.cells, e, e', List.mem_cons, List.not_mem_nil, or_false] at hy
  rcases hy with rfl | rfl | rfl | rfl <;> rfl
/-- an own row stays where another block is written -/
theorem own_set {w : World} {base : Nat} {e : TypeId} {size n : Nat} {v : Value} {xs : List Value} {p : Addr} {u : Value} (h : w.ownsRow base e size v n xs) (hn : ∀ b, v.ownBlock = some b → b ≠ p.block) : (w.setCell p u).ownsRow base e size v n xs := by
  refine ⟨h.1, ?_⟩
  rcases h.2 with hz | ⟨g, cap, cur, rfl, hb, hg, rest⟩
  · exact .inl hz
  · exact .inr ⟨g, cap, cur, rfl, hb, (Below.heap_setCell w p u g (hn g rfl)).trans hg, rest⟩
end Go.Proofs.Ytadejhlljdcocaa
/-
  Rows of what is told, laid behind each other (for SourceMore's last regions).
-/

namespace Go.Proofs.Ytadejhlljdcocaa
open Go.RowKit
set_option linter.unusedVariables false
set_option linter.unusedSimpArgs false

theorem near30c (t : TD) (hr : RawT t) (N : Nat) (w : World) (hW : N ≤ w.heap.size) (ht : t.at_ w) : Calls Try.prog 44 #[.agg t.cells] w fun e w' =>
    ∃ (u : TD) (x y : Int) (gD gA : Option Addr) (nD qD nA qA : Nat), e = .returned (.agg #[.int .i64 x, .int .i64 y, .slice gD nD qD, .slice gA nA qA]) ∧ u.cells = #[.int .i64 x, .int .i64 y, .slice gD nD qD, .slice gA nA qA] ∧ u.at_ w' ∧ TOk u ∧ Below w.heap.size w w' ∧ (∀ v : Value, (∀ g, v.ownBlock = some g → g < w.heap.size) → Ap w' v u.vD u.D.length ∧ Ap w' v u.vA u.A.length) ∧ u.e = bits .and .i64 t.e 3 ∧ u.d = bits .and .i64 t.d 3 ∧ Stays N w w' := by
  refine Calls.mono (near30t t hr w ht) ?_
  rintro e w' ⟨u, rfl, hu, hok, hb, hap, h1, h2, -, -, -, -⟩
  obtain ⟨⟨gD, qD, xD⟩, ⟨gA, qA, xA⟩⟩ := TD.forms hu
  have hcu : u.cells = #[.int .i64 u.e, .int .i64 u.d, .slice gD u.D.length qD, .slice gA u.A.length qA] := by unfold TD.cells; rw [xD, xA]
  exact ⟨u, _, _, _, _, _, _, _, _, by rw [hcu], hcu, hu, hok, hb, hap, h1, h2, stays_of hW hb⟩
theorem Gat.tds_app {w w' : World} {N : Nat} {v v' : Value} {us xs : List TD} (h : Gat w N v us) (hx : ∀ u ∈ xs, u.at_ w ∧ Ap w v u.vD u.D.length ∧ Ap w v u.vA u.A.length)
    (hs : SR w' v' 4 (us.length + xs.length) (tCells us ++ tCells xs)) (hg : w.grownBy w' v.ownBlock) : TDs w' v' (us ++ xs) := by
  refine ⟨by rw [List.length_append, ← tCells_append]; exact hs, fun u hu => ?_⟩
  have key : u.at_ w ∧ Ap w v u.vD u.D.length ∧ Ap w v u.vA u.A.length := by
    rcases List.mem_append.1 hu with q | q
    · exact h.at_ u q
    · exact hx u q
  exact ⟨sr_grownT key.1.1 hg key.2.1, sr_grownT key.1.2 hg key.2.2⟩
/-- laid anew, in a row of its own -/
theorem Gat.copy {w w7 : World} {N0 : Nat} {vv v7 : Value} {us : List TD} {o : Obj} {N : Nat} (h : Gat w N0 vv us) (hN : w.heap.size = N) (own : w7.ownsRow N 83 4 v7 (0 + us.length) ([] ++ tCells us)) (hg : (w.alloc o).drew.grownBy w7 (some N)) : Gat w7 N v7 us := by
  subst hN
  have hb : Below w.heap.size w (w.alloc o).drew := below_drew' ((Below.refl w.heap.size w).alloc (Nat.le_refl _) o)
  have key : ∀ {x : Value} {n : Nat} {ys : List Value}, SR w x 3 n ys → Ap w vv x n → SR w7 x 3 n ys ∧ Ap w7 v7 x n := fun {x} {n} {ys} hs ha => by
    have ha2 : Ap (w.alloc o).drew (.slice (some ⟨w.heap.size, 0, none⟩) 0 0) x n := ha.imp id fun k j e => ⟨Nat.lt_of_lt_of_le (k j e).1 hb.size, fun q => by
      have q : some j = some w.heap.size := q
      injection q with q
      have := (k j e).1
      omega⟩
    refine ⟨sr_grownT (v := .slice (some ⟨w.heap.size, 0, none⟩) 0 0) (hs.below hb) hg ha2, ha.imp id fun k j e => ⟨Nat.lt_of_lt_of_le (k j e).1 (Nat.le_trans hb.size hg.size), fun q => ?_⟩⟩
    have h1 := (own.lt j q.symm).1
    have h2 := (k j e).1
    omega
  refine ⟨by simpa using own, fun u hu => ?_, h.ok⟩
  obtain ⟨⟨h1, h2⟩, h3, h4⟩ := h.at_ u hu
  exact ⟨⟨(key h1 h3).1, (key h2 h4).1⟩, (key h1 h3).2, (key h2 h4).2⟩
/-- one more behind them -/
theorem Gat.tds_one {w w' : World} {N : Nat} {v v' : Value} {us : List TD} {u : TD} {o : Obj} (h : Gat w N v us) (hu : u.at_ w) (hap : Ap w v u.vD u.D.length ∧ Ap w v u.vA u.A.length)
    (hown : w'.ownsRow N 83 4 v' (us.length + 1) (tCells us ++ tCells [u])) (hg : (w.alloc o).grownBy w' v.ownBlock) : TDs w' v' (us ++ [u]) := by
  have hb := (Below.refl w.heap.size w).alloc (Nat.le_refl _) o
  refine (h.go hb).tds_app (xs := [u]) (fun x hx => ?_) (SR.owns hown) hg
  rw [List.mem_singleton.1 hx]
  exact ⟨hu.go hb, hap.1.go hb.size, hap.2.go hb.size⟩
/-- one, and others behind it -/
theorem Gat.tds_cons {w w0 w' : World} {N0 N : Nat} {vv v' : Value} {us : List TD} {u : TD} {o : Obj} (h : Gat w0 N0 vv us) (hb : Below w0.heap.size w0 w) (hu : u.at_ w)
    (hown : w'.ownsRow N 83 4 v' (1 + us.length) (tCells [u] ++ tCells us)) (hg : (w.alloc o).grownBy w' (some w.heap.size)) (hap : Ap w (.slice none 0 0) u.vD u.D.length ∧ Ap w (.slice none 0 0) u.vA u.A.length) : TDs w' v' (u :: us) := by
  have hbA := (Below.refl w.heap.size w).alloc (Nat.le_refl _) o
  have key : ∀ {x : Value} {n : Nat} {ys : List Value} {v : Value}, SR w x 3 n ys → Ap w v x n → SR w' x 3 n ys := fun {x} {n} {ys} {v} hs ha => by
    refine sr_grownT (v := .slice (some ⟨w.heap.size, 0, none⟩) 1 1) (hs.below hbA) hg (ha.imp id fun k j e => ⟨Nat.lt_of_lt_of_le (k j e).1 hbA.size, fun q => ?_⟩)
    have q : some j = some w.heap.size := q
    injection q with q
    have := (k j e).1
    omega
  refine ⟨?_, fun x hx => ?_⟩
  · have := SR.owns hown
    rw [tCells_append] at this
    rw [show (u :: us).length = 1 + us.length by simp; omega]
    exact this
  · rcases List.mem_cons.1 hx with rfl | hx
    · exact ⟨key hu.1 hap.1, key hu.2 hap.2⟩
    · have hg2 := (h.go hb).at_ x hx
      exact ⟨key hg2.1.1 hg2.2.1, key hg2.1.2 hg2.2.2⟩
theorem told_lit2 {u : TD} {x y : Int} {gD gA : Option Addr} {nD qD nA qA : Nat} (h : u.cells = #[.int .i64 x, .int .i64 y, .slice gD nD qD, .slice gA nA qA]) (w : World) : SR (w.alloc (.cells #[.int .i64 x, .int .i64 y, .slice gD nD qD, .slice gA nA qA] 83)) (.slice (some ⟨w.heap.size, 0, none⟩) 1 1) 4 1 (tCells [u]) := by
  rw [← h]
  exact told_lit u w
theorem told_own2 {u : TD} {x y : Int} {gD gA : Option Addr} {nD qD nA qA : Nat} (h : u.cells = #[.int .i64 x, .int .i64 y, .slice gD nD qD, .slice gA nA qA]) (N : Nat) (w : World) (hN : N ≤ w.heap.size) : (w.alloc (.cells #[.int .i64 x, .int .i64 y, .slice gD nD qD, .slice gA nA qA] 83)).ownsRow N 83 4 (.slice (some ⟨w.heap.size, 0, none⟩) 1 1) 1 (tCells [u]) := by
  have := World.ownsRow_lit (base := N) (e := 83) (size := 4) w u.cells 1 hN (by decide) (by simp [TD.cells])
  rw [h] at this
  simpa [tCells, h] using this
theorem tones {w : World} {N : Nat} {v : Value} {us : List TD} (h : Gat w N v us) : ∀ y ∈ tCells us, y.oneCell' = true := tCells_one fun u hu => (h.at_ u hu).1
theorem tones1 {w : World} {u : TD} (h : u.at_ w) : ∀ y ∈ tCells [u], y.oneCell' = true := tCells_one fun x hx => by rw [List.mem_singleton.1 hx]; exact h
theorem spickN (E b k : Int) (ma ca : Option Addr) (M mc nC cc : Nat) (ts : List TD) (hok : ∀ t ∈ ts, TOk t) (N : Nat) (w : World) (v : Value) (hv : TDs w v ts) (hW : N ≤ w.heap.size) :
    Calls Try.prog 45 #[.agg #[.int .i64 E, .int .i64 b, .int .i64 k, .slice ma M mc, .slice ca nC cc], v] w fun e w' => ∃ v', e = .returned (.tuple #[v', .bool (okP E M ts)]) ∧ Below w.heap.size w w' ∧ Stays N w w' := by
  refine Calls.mono (spick E b k ma ca M mc nC cc ts hok w v hv) ?_
  rintro e w' ⟨v', rfl, -, hb⟩
  rw [pickW_some]
  exact ⟨v', rfl, hb, stays_of hW hb⟩
theorem tok_one {us : List TD} {u : TD} (h : ∀ t ∈ us, TOk t) (hu : TOk u) : ∀ t ∈ us ++ [u], TOk t := fun t ht => by
  rcases List.mem_append.1 ht with q | q
  · exact h t q
  · rw [List.mem_singleton.1 q]; exact hu
theorem tok_cons {us : List TD} {u : TD} (h : ∀ t ∈ us, TOk t) (hu : TOk u) : ∀ t ∈ u :: us, TOk t := fun t ht => by
  rcases List.mem_cons.1 ht with q | q
  · rw [q]; exact hu
  · exact h t q
/-- what is enough depends on the epochs and what is done, not on the rows -/
theorem okP_ends {E : Int} {M : Nat} {us : List TD} {x y : TD} (he : x.e = y.e) (hd : x.d = y.d) : okP E M (us ++ [x]) = okP E M (y :: us) := by
  have h1 : ∀ e, isAb e x = isAb e y := fun e => by unfold isAb; rw [he, hd]
  have h2 : ∀ e d, isIn e d x = isIn e d y := fun e d => by unfold isIn; rw [he, hd]
  rw [okP_rot]
  unfold okP
  simp only [List.any_cons, h1, h2]
end Go.Proofs.Ytadejhlljdcocaa
/-
  slices.SortStableFunc of few integers: insertion, as a function of what compares.
-/


namespace Go.Proofs.Ytadejhlljdcocaa
open Go.RowKit
set_option linter.unusedVariables false
set_option linter.unusedSimpArgs false

def swp (l : List Int) (j : Nat) : List Int := (l.set (j + 1) (l.getD j 0)).set j (l.getD (j + 1) 0)
theorem swp_len (l : List Int) (j : Nat) : (swp l j).length = l.length := by simp [swp]
def bub (cf : Int → Int → Int) : Nat → List Int → List Int
  | 0, l => l
  | j + 1, l => if cf (l.getD (j + 1) 0) (l.getD j 0) < 0 then bub cf j (swp l j) else l
def insTo (cf : Int → Int → Int) (l : List Int) : Nat → List Int
  | 0 => l
  | k + 1 => bub cf k (insTo cf l k)
theorem bub_len (cf : Int → Int → Int) : ∀ (j : Nat) (l : List Int), (bub cf j l).length = l.length
  | 0, l => rfl
  | j + 1, l => by
    simp only [bub]
    split
    · rw [bub_len cf j, swp_len]
    · rfl
theorem insTo_len (cf : Int → Int → Int) (l : List Int) (k : Nat) : (insTo cf l k).length = l.length := by
  induction k with
  | zero => rfl
  | succ k ih => rw [insTo, bub_len, ih]
theorem swp_perm (l : List Int) (j : Nat) (hj : j + 1 < l.length) : (swp l j).Perm l := by
  unfold swp
  have h1 : l.getD j 0 = l[j] := by simp [List.getD, show j < l.length by omega]
  have h2 : l.getD (j + 1) 0 = l[j + 1] := by simp [List.getD, hj]
  rw [h1, h2]
  have e : l = l.take j ++ l[j] :: l[j + 1] :: l.drop (j + 2) := by
    conv => lhs; rw [← List.take_append_drop j l, List.drop_eq_getElem_cons (by omega), List.drop_eq_getElem_cons (by omega)]
  generalize l[j] = x at *
  generalize l[j + 1] = y at *
  have hl : (l.take j).length = j := by simp; omega
  rw [e]
  generalize l.take j = p at *
  generalize l.drop (j + 2) = q at *
  subst hl
  have e2 : (((p ++ x :: y :: q).set (p.length + 1) x).set p.length y) = p ++ y :: x :: q := by
    rw [List.set_append_right _ _ (by omega), List.set_append_right _ _ (by omega)]
    simp
  rw [e2]
  exact List.Perm.append_left p (List.Perm.swap x y q)
theorem bub_perm (cf : Int → Int → Int) : ∀ (j : Nat) (l : List Int), j < l.length → (bub cf j l).Perm l
  | 0, l, _ => List.Perm.refl _
  | j + 1, l, h => by
    simp only [bub]
    split
    · exact (bub_perm cf j _ (by rw [swp_len]; omega)).trans (swp_perm l j h)
    · exact List.Perm.refl _
theorem insTo_perm (cf : Int → Int → Int) (l : List Int) (k : Nat) (hk : k ≤ l.length) : (insTo cf l k).Perm l := by
  induction k with
  | zero => exact List.Perm.refl _
  | succ k ih =>
    rw [insTo]
    exact (bub_perm cf k _ (by rw [insTo_len]; omega)).trans (ih (by omega))
theorem bub_zero (l : List Int) (j : Nat) : bub (fun _ _ => 0) j l = l := by
  cases j with
  | zero => rfl
  | succ j => simp [bub]
theorem insTo_zero (l : List Int) (k : Nat) : insTo (fun _ _ => 0) l k = l := by
  induction k with
  | zero => rfl
  | succ k ih => rw [insTo, ih, bub_zero]
/-- a row of integers that may be written -/
def RowL (w : World) (b : Nat) (l : List Int) : Prop := ∀ j, j < l.length → w.cell? ⟨b, j, none⟩ = some (.int .i64 (l.getD j 0)) ∧ w.frozen? ⟨b, j, none⟩ = false
theorem RowL.drewN {w : World} {b : Nat} {l : List Int} (h : RowL w b l) (q : Nat) : RowL (w.drewN q) b l := h
theorem swp_get (l : List Int) (j i : Nat) (hj : j + 1 < l.length) : (swp l j).getD i 0 = if i = j then l.getD (j + 1) 0 else if i = j + 1 then l.getD j 0 else l.getD i 0 := by
  unfold swp
  simp only [List.getD_eq_getElem?_getD, List.getElem?_set]
  by_cases h1 : i = j
  · subst h1
    simp [show i < l.length by omega]
  · by_cases h2 : i = j + 1
    · subst h2
      simp [hj]
    · simp [h1, h2, Ne.symm h1, Ne.symm h2]
theorem RowL.swap {w : World} {b : Nat} {l : List Int} (h : RowL w b l) (j : Nat) (hj : j + 1 < l.length) :
    RowL ((w.setCell ⟨b, j + 1, none⟩ (.int .i64 (l.getD j 0))).setCell ⟨b, j, none⟩ (.int .i64 (l.getD (j + 1) 0))) b (swp l j) := by
  intro i hi
  rw [swp_len] at hi
  obtain ⟨h1, h2⟩ := h i hi
  obtain ⟨k1, -⟩ := h j (by omega)
  obtain ⟨k2, -⟩ := h (j + 1) hj
  refine ⟨?_, by simp [h2]⟩
  rw [swp_get l j i hj]
  by_cases e1 : i = j
  · subst e1
    rw [if_pos rfl]
    exact World.cell?_setCell_same _ _ _ (u := .int .i64 (l.getD i 0)) ((World.cell?_setCell_other _ _ _ _ (by intro e; injection e with _ e2; omega)).trans k1)
  · rw [if_neg e1]
    refine (World.cell?_setCell_other _ _ _ _ (by intro e; injection e with _ e2; omega)).trans ?_
    by_cases e2 : i = j + 1
    · subst e2
      rw [if_pos rfl]
      exact World.cell?_setCell_same _ _ _ k2
    · rw [if_neg e2]
      exact (World.cell?_setCell_other _ _ _ _ (by intro e; injection e with _ e2; omega)).trans h1
/-- what the sorting keeps: only the row turns; what the comparing function reads stays -/
structure SRelI (R : World → Prop) (w wr : World) (b : Nat) (l : List Int) : Prop where
  row : RowL wr b l
  only : Only b w wr
  r : R wr
def SortPost (R : World → Prop) (w : World) (b : Nat) (l : List Int) (e : Ending) (w' : World) : Prop := e = .returned (.tuple #[]) ∧ SRelI R w w' b l
theorem SRelI.drewN {R : World → Prop} {w wr : World} {b : Nat} {l : List Int} (h : SRelI R w wr b l) (hRk : ∀ {w1 w2 : World}, R w1 → Only b w1 w2 → R w2) (q : Nat) : SRelI R w (wr.drewN q) b l := ⟨h.row.drewN q, h.only.drewN q, hRk h.r ((Only.refl b wr).drewN q)⟩
set_option maxHeartbeats 3200000 in
set_option maxRecDepth 100000 in
theorem insI (g : Nat) (lb : Array Value) (cf : Int → Int → Int) (R : World → Prop) (b n cap : Nat) (l : List Int) (w : World) (hl : l.length = n) (hn : n ≤ 1000) (hn2 : 1 ≤ n) (hrow : RowL w b l) (hR : R w)
    (eg : ∀ args w, (callFunc g args).run Try.prog w = .ok (.enter g args) w) (hRk : ∀ {w1 w2 : World}, R w1 → Only b w1 w2 → R w2)
    (hf : ∀ (x y : Int) (w' : World), x ∈ l → y ∈ l → R w' → Calls Try.prog g (#[.int .i64 x, .int .i64 y] ++ lb) w' fun e w'' => e = .returned (.int .i64 (cf x y)) ∧ ∃ q, w'' = w'.drewN q) :
    Calls Try.prog 206 #[.slice (some ⟨b, 0, none⟩) n cap, .int .i64 0, .int .i64 n, .func (.func g) #[] lb] w (SortPost R w b (insTo cf l n)) := by
  have HF := Lib.hid hf
  have HS := Lib.hid (show SRelI R w w b (insTo cf l 1) from ⟨hrow, Only.refl _ _, hR⟩)
  have HL := Lib.hid hl
  clear hf hrow hR hl
  go_enter Try.func206, Try.ntmps206
  go_wp2_with fail
  go_loopw [8] (fun i wr => ∃ k : Nat, 1 ≤ k ∧ k ≤ n ∧ i = .int .i64 k ∧ Hid (SRelI R w wr b (insTo cf l k))) (fun i _ => n - (intOf i).toNat)
  case atStart => exact ⟨1, by decide, hn2, rfl, HS⟩
  case round =>
    obtain ⟨k, hk1, hk, rfl, HR⟩ := hrel
    clear HS
    by_cases hlt : k < n
    · go_wp2_with fail
      go_loopw [9] (fun i wr => ∃ (j : Nat) (m : List Int), j ≤ k ∧ i = .int .i64 j ∧ Hid (SRelI R w wr b m ∧ m.length = n ∧ m.Perm l ∧ bub cf j m = insTo cf l (k + 1))) (fun i _ => (intOf i).toNat)
      case atStart => exact ⟨k, _, Nat.le_refl _, rfl, Lib.hid ⟨HR.out, by rw [insTo_len, HL.out], insTo_perm cf l k (by rw [HL.out]; omega), rfl⟩⟩
      case round =>
        obtain ⟨j, m, hj, rfl, HM⟩ := hrel
        obtain ⟨W0, hW0⟩ : ∃ W0, W0 = wr := ⟨_, rfl⟩
        subst hW0
        have hjn : j < n := by omega
        rcases j with _ | i
        · go_wp2_with fail
          go_quiet (fail)
          have HE := Lib.hid (show SRelI R w (W0.drewN nq) b (insTo cf l (k + 1)) from by
            have := HM.out
            rw [← this.2.2.2]
            exact this.1.drewN hRk nq)
          go_wp2_with fail
          go_roundw
          case rel => exact ⟨k + 1, by omega, by omega, by go_num, HE⟩
          case measure => simp [intOf]; omega
        · obtain ⟨hM, hml, hmp, hmb⟩ := HM.out
          have hi1 : i + 1 < m.length := by omega
          have hbs : bub cf (i + 1) m = if cf (m.getD (i + 1) 0) (m.getD i 0) < 0 then bub cf i (swp m i) else m := rfl
          obtain ⟨c1, f1⟩ := hM.row (i + 1) hi1
          obtain ⟨c0, f0⟩ := hM.row i (by omega)
          have hx : m.getD (i + 1) 0 ∈ l := hmp.mem_iff.1 (by rw [List.getD_eq_getElem?_getD, List.getElem?_eq_getElem hi1]; exact List.getElem_mem _)
          have hy : m.getD i 0 ∈ l := hmp.mem_iff.1 (by rw [List.getD_eq_getElem?_getD, List.getElem?_eq_getElem (show i < m.length by omega)]; exact List.getElem_mem _)
          have hsw := hM.row.swap i hi1
          have cc := fun q => HF.out (m.getD (i + 1) 0) (m.getD i 0) (W0.drewN q) hx hy (hRk hM.r ((Only.refl b W0).drewN q))
          obtain ⟨x, hxe⟩ : ∃ x, m.getD (i + 1) 0 = x := ⟨_, rfl⟩
          obtain ⟨y, hye⟩ : ∃ y, m.getD i 0 = y := ⟨_, rfl⟩
          rw [hxe, hye] at cc hbs hsw
          rw [hxe] at c1
          rw [hye] at c0
          obtain ⟨c, hc⟩ : ∃ c, cf x y = c := ⟨_, rfl⟩
          rw [hc] at cc hbs
          have HX := Lib.hid (And.intro hsw (And.intro hbs (And.intro hml hmp)))
          clear hM hml hmp hmb hbs hx hy hsw hxe hye hc
          have hs1 : ((i + 1 : Nat) : Int) - 1 = i := by omega
          by_cases hcn : c < 0
          · have hcd : decide (c < 0) = true := decide_eq_true hcn
            have hpos : decide (0 < ((i + 1 : Nat) : Int)) = true := decide_eq_true (by omega)
            go_upto_region 4 with fail
            go_quiet (exact Calls.quiet_of (cc _))
            go_wp2_with fail
            have HN := Lib.hid (show SRelI R w (((W0.drewN nq).setCell ⟨b, i + 1, none⟩ (.int .i64 y)).setCell ⟨b, i, none⟩ (.int .i64 x)).drew b (swp m i) ∧ (swp m i).length = n ∧ (swp m i).Perm l ∧ bub cf i (swp m i) = insTo cf l (k + 1) from by
              have ho : Only b W0 (((W0.drewN nq).setCell ⟨b, i + 1, none⟩ (.int .i64 y)).setCell ⟨b, i, none⟩ (.int .i64 x)).drew := ((((Only.refl b W0).drewN nq).set (i + 1) _).set i _).drew
              refine ⟨⟨HX.out.1, HM.out.1.only.trans ho, hRk HM.out.1.r ho⟩, by rw [swp_len]; exact HX.out.2.2.1, (swp_perm m i hi1).trans HX.out.2.2.2, ?_⟩
              have h1 := HX.out.2.1
              rw [if_pos hcn] at h1
              rw [← h1]
              exact HM.out.2.2.2)
            have d1 : (W0.drewN nq).cell? ⟨b, i + 1, none⟩ = some (.int .i64 x) := c1
            have d0 : (W0.drewN nq).cell? ⟨b, i, none⟩ = some (.int .i64 y) := c0
            have e1 : (W0.drewN nq).frozen? ⟨b, i + 1, none⟩ = false := f1
            have e0 : (W0.drewN nq).frozen? ⟨b, i, none⟩ = false := f0
            have e2 : ((W0.drewN nq).setCell ⟨b, i + 1, none⟩ (.int .i64 y)).cell? ⟨b, i, none⟩ = some (.int .i64 y) := (World.cell?_setCell_other _ _ _ _ (by intro e; injection e with _ e2; omega)).trans d0
            clear c1 c0 f1 f0 cc
            generalize W0.drewN nq = W1 at *
            go_region
            all_goals
              go_wp2_with fail
              go_roundw
              case rel => exact ⟨i, swp m i, by omega, by first | rfl | simp, HN⟩
              case measure => simp [intOf]; try omega
          · have hcd : decide (c < 0) = false := decide_eq_false hcn
            go_upto_region 4 with fail
            go_quiet (exact Calls.quiet_of (cc _))
            go_wp2_with fail
            have HE := Lib.hid (show SRelI R w (W0.drewN nq) b (insTo cf l (k + 1)) from by
              have h1 := HX.out.2.1
              rw [if_neg hcn] at h1
              rw [← HM.out.2.2.2, h1]
              exact HM.out.1.drewN hRk nq)
            exact ⟨⟨k + 1, by omega, by omega, by go_num, HE⟩, by simp [intOf]; omega⟩
    · obtain rfl : k = n := by omega
      go_wp2_with fail
      go_end0
      exact ⟨rfl, HR.out⟩
set_option maxHeartbeats 1600000 in
set_option maxRecDepth 100000 in
theorem stableI (g : Nat) (lb : Array Value) (cf : Int → Int → Int) (R : World → Prop) (b n cap : Nat) (l : List Int) (w : World) (hl : l.length = n) (hn : n < 20) (hn2 : 1 ≤ n) (hrow : RowL w b l) (hR : R w)
    (eg : ∀ args w, (callFunc g args).run Try.prog w = .ok (.enter g args) w) (hRk : ∀ {w1 w2 : World}, R w1 → Only b w1 w2 → R w2)
    (hf : ∀ (x y : Int) (w' : World), x ∈ l → y ∈ l → R w' → Calls Try.prog g (#[.int .i64 x, .int .i64 y] ++ lb) w' fun e w'' => e = .returned (.int .i64 (cf x y)) ∧ ∃ q, w'' = w'.drewN q) :
    Calls Try.prog 150 #[.slice (some ⟨b, 0, none⟩) n cap, .func (.func g) #[] lb] w (SortPost R w b (insTo cf l n)) := by
  have ci := insI g lb cf R b n cap l w hl (by omega) hn2 hrow hR eg hRk hf
  have cs : Calls Try.prog 187 #[.slice (some ⟨b, 0, none⟩) n cap, .int .i64 n, .func (.func g) #[] lb] w (SortPost R w b (insTo cf l n)) := by
    clear hf hrow hR hl
    go_enter Try.func187, Try.ntmps187
    go_wp2_with fail
    go_loopw [7, 8] (fun x y wr => x = .int .i64 0 ∧ y = .int .i64 20 ∧ wr = w) (fun _ _ _ => 0)
    case atStart => exact ⟨rfl, rfl, rfl⟩
    case round =>
      obtain ⟨rfl, rfl, rfl⟩ := hrel
      go_wp2_with fail
      refine Calls.mono ci ?_
      rintro e w1 ⟨rfl, h1⟩
      go_wp2_with fail
      go_loopw [6] (fun x wr => x = .int .i64 20 ∧ wr = w1) (fun _ _ => 0)
      case atStart => exact ⟨rfl, rfl⟩
      case round =>
        obtain ⟨rfl, rfl⟩ := hrel
        go_wp2_with fail
        go_end0
        exact ⟨rfl, h1⟩
  clear ci hf hrow hR hl
  go_enter Try.func150, Try.ntmps150
  go_wp2_with fail
  refine Calls.mono cs ?_
  rintro e w1 ⟨rfl, h1⟩
  go_wp2_with fail
  go_end0
  exact ⟨rfl, h1⟩
end Go.Proofs.Ytadejhlljdcocaa
