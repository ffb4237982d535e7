/-
  Several texts, laid together.
-/
import Derived.Test.YtfgmeeponipjeaaMg1
import Derived.Laws.IdiomCopy
import Derived.Lib.Overlaps
import Derived.Deep.AppendLies
import Derived.Test.YtfgmeeponipjeaaShelfI
/-
  Rows of elements of several cells that are the call's own: copy within them, clear, what becomes of them. Of no program.
-/




namespace Go.Proofs.Ytfgmeeponipjeaa
open Go.RowKit
set_option linter.unusedVariables false
set_option linter.unusedSimpArgs false

section
variable {P : Program}
/-- copy into a block of the call's own: the cells from o on become cs -/
theorem run_copy_own (w : World) (dT sT ty elem : TypeId) (size : Nat) (hu : P.underlying dT = some (.slice elem)) (hs : (P.info? elem).map (·.size) = some size)
    (b o dLen dCap : Nat) (e : TypeId) (cur : Array Value) (hb : w.heap[b]? = some (.cells cur e (0, 0)))
    (a : Addr) (sLen sCap : Nat) (cs : List Value) (k : Nat) (hk : Nat.min sLen dLen = k) (hn : cs.length = k * size) (hsrc : ∀ j v, cs[j]? = some v → w.cell? (a.add j) = some v)
    (hfit : o + cs.length ≤ cur.size) (h1 : ∀ v ∈ cs, v.oneCell' = true) :
    (Builtin.copy_ #[dT, sT] ty #[.slice (some ⟨b, o, none⟩) dLen dCap, .slice (some a) sLen sCap]).run P w = .ok (goInt k) (w.setRow b (cur.toList.take o ++ cs ++ cur.toList.drop (o + cs.length)).toArray) := by
  subst hk
  have hf := run_firstCells_some (P := P) w size (Nat.min sLen dLen) a sLen sCap cs hn hsrc
  have hst := run_storeCells_at P b o e cs 0 cur w hb (by simpa using hfit) h1
  simp only [Nat.add_zero] at hst
  cases hq : P.info? elem with
  | none => simp [hq] at hs
  | some i =>
    have hi : i.size = size := by simpa [hq] using hs
    simp [Builtin.copy_, run_underlying hu, Builtin.lenOf, sizeOf, typeInfo, hq, hi, hf, hst]
/-- clear of a part of a block of the call's own -/
theorem run_clear_own (w : World) (t e ty : TypeId) (z : Value) (ht : P.underlying t = some (.slice e)) (hv : ∀ w, (zeroValue e).run P w = .ok z w) (b o n c : Nat) (hn : 0 < n) (e' : TypeId) (cur : Array Value)
    (hb : w.heap[b]? = some (.cells cur e' (0, 0))) (zs : List Value) (hz : (Builtin.zeroCells z.cells n).toList = zs) (hfit : o + zs.length ≤ cur.size) (h1 : ∀ v ∈ zs, v.oneCell' = true) :
    (Builtin.clear_ #[t] ty #[.slice (some ⟨b, o, none⟩) n c]).run P w = .ok (.tuple #[]) (w.setRow b (cur.toList.take o ++ zs ++ cur.toList.drop (o + zs.length)).toArray) := by
  have hst := run_storeCells_at P b o e' zs 0 cur w hb (by simpa using hfit) h1
  simp only [Nat.add_zero] at hst
  obtain ⟨m, rfl⟩ : ∃ m, n = m + 1 := ⟨n - 1, by omega⟩
  simp [Builtin.clear_, run_underlying ht, hv, hz, hst]
end

theorem heap_size_setRow (w : World) (g : Nat) (cs : Array Value) : (w.setRow g cs).heap.size = w.heap.size := by simp
theorem grown_setRow {w w' : World} {row : Option Nat} {g : Nat} (h : w.grownBy w' row) (hg : row = some g ∨ w.heap.size ≤ g) (cs : Array Value) : w.grownBy (w'.setRow g cs) row := by
  refine ⟨h.os, h.tape, h.output, by simpa using h.size, fun k hk hr => ?_⟩
  rw [setRow_other _ _ _ _ (fun e => ?_)]
  · exact h.block k hk hr
  · subst e
    rcases hg with hg | hg
    · exact hr hg.symm
    · omega
theorem grown_setRow_drew {w : World} {g : Nat} {cs : Array Value} {row : Option Nat} (h : w.grownBy (w.setRow g cs) row) : w.grownBy (w.setRow g cs).drew row := ⟨h.os, h.tape, h.output, h.size, h.block⟩
/-- a row is a list of cells in its block -/
theorem own_of {w : World} {N g n cap size : Nat} {e : TypeId} {cur : Array Value} {xs : List Value} (hN : N ≤ g) (hg : w.heap[g]? = some (.cells cur e (0, 0))) (hnc : n ≤ cap) (hcm : cap ≤ maxLen) (hcs : cur.size = cap * size)
    (hx : xs.length = n * size) (ht : cur.toList.take (n * size) = xs) : w.ownsRow N e size (.slice (some ⟨g, 0, none⟩) n cap) n xs :=
  ⟨hx, .inr ⟨g, cap, cur, rfl, hN, hg, hnc, hcm, hcs, ht⟩⟩
theorem own_size {w : World} {base n size : Nat} {e : TypeId} {v : Value} {xs : List Value} (h : w.ownsRow base e size v n xs) {p : Nat} {e' : TypeId} {cs : Array Value} {fr : Nat × Nat} (hp : w.heap[p]? = some (.cells cs e' fr)) (hne : e' ≠ e) : v.ownBlock ≠ some p := by
  rcases h.2 with ⟨rfl, _⟩ | ⟨g, cap, cur, rfl, hb, hg, _⟩
  · intro he; cases he
  · intro he
    injection he with he
    simp only at he
    subst he
    rw [hg] at hp
    injection hp with hp
    injection hp with _ h2
    exact hne h2.symm
/-- a row stays where it is, or lies in a block that is new -/
def NewRow (w : World) (v v' : Value) : Prop := v'.ownBlock = v.ownBlock ∨ ∀ k, v'.ownBlock = some k → w.heap.size ≤ k
theorem newrow_new {w : World} {v : Value} {b n c : Nat} (h : w.heap.size ≤ b) : NewRow w v (.slice (some ⟨b, 0, none⟩) n c) := .inr fun k e => by cases e; exact h
theorem NewRow.trans {a b : World} {u v x : Value} (h : NewRow a u v) (g : NewRow b v x) (hs : a.heap.size ≤ b.heap.size) : NewRow a u x := by
  rcases g with g | g
  · rcases h with h | h
    · exact .inl (g.trans h)
    · exact .inr fun k e => h k (g.symm.trans e)
  · exact .inr fun k e => Nat.le_trans hs (g k e)
theorem obj_cell {w : World} {p : Nat} {v : Value} {t : TypeId} (h : w.heap[p]? = some (.cells #[v] t)) : w.cell? ⟨p, 0, none⟩ = some v := by simp [World.cell?, h]
theorem obj_frozen {w : World} {p : Nat} {v : Value} {t : TypeId} (h : w.heap[p]? = some (.cells #[v] t)) (o : Nat) : w.frozen? ⟨p, o, none⟩ = false := by simp [World.frozen?, h]
theorem grown_of_drew {w w' : World} {row : Option Nat} (h : w.drew.grownBy w' row) : w.grownBy w' row := ⟨h.os, h.tape, h.output, h.size, h.block⟩
theorem grown_below {w w' : World} (h : Below w.heap.size w w') (row : Option Nat) : w.grownBy w' row := ⟨h.os, h.tape, h.output, h.size, fun k hk _ => h.block k hk⟩
theorem grown_then {a b c : World} {row : Option Nat} (h : a.grownBy b row) (g : Below b.heap.size b c) : a.grownBy c row := ⟨g.os.trans h.os, g.tape.trans h.tape, g.output.trans h.output, Nat.le_trans h.size g.size, fun k hk hr => (g.block k (Nat.lt_of_lt_of_le hk h.size)).trans (h.block k hk hr)⟩

/-- an object of one cell at p, which leads to a row of its own: what a change of it leaves -/
structure OKept (w w' : World) (N p : Nat) (v v' : Value) : Prop where
  below : Below N w w'
  size : w.heap.size ≤ w'.heap.size
  block : ∀ k, k < w.heap.size → k ≠ p → some k ≠ v.ownBlock → w'.heap[k]? = w.heap[k]?
  new : NewRow w v v'
theorem OKept.refl (w : World) (N p : Nat) (v : Value) : OKept w w N p v v := ⟨Below.refl _ _, Nat.le_refl _, fun _ _ _ _ => rfl, .inl rfl⟩
theorem OKept.trans {a b c : World} {N p : Nat} {u v x : Value} (h : OKept a b N p u v) (g : OKept b c N p v x) : OKept a c N p u x := by
  refine ⟨h.below.trans g.below, Nat.le_trans h.size g.size, fun k hk hp hu => ?_, h.new.trans g.new h.size⟩
  refine (g.block k (Nat.lt_of_lt_of_le hk h.size) hp fun e => ?_).trans (h.block k hk hp hu)
  rcases h.new with hn | hn
  · exact hu (e.trans hn)
  · exact absurd (hn k e.symm) (by omega)
theorem OKept.of_below {w w' : World} {N p : Nat} {v : Value} (h : Below w.heap.size w w') (hN : N ≤ w.heap.size) : OKept w w' N p v v := ⟨h.mono hN, h.size, fun k hk _ _ => h.block k hk, .inl rfl⟩
/-- a slice whose block is neither the object's nor its row's reads as it did -/
def Apart (mv ov : Value) (p : Nat) : Prop := ∀ b, mv.ownBlock = some b → b ≠ p ∧ some b ≠ ov.ownBlock
theorem sr_kept {w w' : World} {N p size n : Nat} {mv v v' : Value} {xs : List Value} (h : SR w mv size n xs) (ha : Apart mv v p) (hk : OKept w w' N p v v') : SR w' mv size n xs := by
  obtain ⟨a, cap, rfl, h1, h2, h3, h4⟩ := h
  refine ⟨a, cap, rfl, h1, h2, h3, h4.imp id ?_⟩
  rintro ⟨b, off, rfl, hb, hc⟩
  obtain ⟨n1, n2⟩ := ha b rfl
  refine ⟨b, off, rfl, Nat.lt_of_lt_of_le hb hk.size, fun j u hj => ?_⟩
  have := hk.block b hb n1 n2
  have hcu := hc j u hj
  simp only [World.cell?] at hcu ⊢
  rw [this]
  exact hcu
theorem apart_kept {w w' : World} {N p : Nat} {mv v v' : Value} (ha : Apart mv v p) (hb : ∀ b, mv.ownBlock = some b → b < w.heap.size) (hk : OKept w w' N p v v') : Apart mv v' p := by
  intro b e
  obtain ⟨n1, n2⟩ := ha b e
  refine ⟨n1, fun e2 => ?_⟩
  rcases hk.new with hn | hn
  · exact n2 (e2.trans hn)
  · exact absurd (hn b e2.symm) (by have := hb b e; omega)
end Go.Proofs.Ytfgmeeponipjeaa
/-
  Rows of integers of the call's own, and what slices.Insert, Delete, Contains and Index make of them; the shelf's contracts in the words of rows.
-/


namespace Go.Proofs.Ytfgmeeponipjeaa
open Go.RowKit
set_option linter.unusedVariables false
set_option linter.unusedSimpArgs false

/-- v is a row of integers of blocks from N on -/
def RowAt (w : World) (N : Nat) (v : Value) (l : List Int) : Prop :=
  (v = .slice none 0 0 ∧ l = []) ∨ ∃ g cap f, v = .slice (some ⟨g, 0, none⟩) l.length cap ∧ N ≤ g ∧ w.rowIs g 3 cap f ∧ l.length ≤ cap ∧ cap ≤ maxLen ∧ ∀ j, j < l.length → f j = .int .i64 (l.getD j 0)

theorem grown_sets {w : World} {row : Option Nat} {b : Nat} (hb : ∀ k, k < w.heap.size → some k ≠ row → k ≠ b) : ∀ (vs : List Value) (o : Nat) (w' : World), w.grownBy w' row → w.grownBy (w'.setCells b o vs) row
  | [], o, w', h => h
  | v :: r, o, w', h => grown_sets hb r (o + 1) _ ⟨h.os, h.tape, h.output, by simpa [World.setCell] using h.size, fun k hk hr => (heap_setCell_other _ _ _ _ (hb k hk hr)).trans (h.block k hk hr)⟩
theorem grown_drew {w w' : World} {row : Option Nat} (h : w.grownBy w' row) : w.grownBy w'.drew row := ⟨h.os, h.tape, h.output, h.size, h.block⟩
theorem grown_drewN {w w' : World} {row : Option Nat} (h : w.grownBy w' row) (q : Nat) : w.grownBy (w'.drewN q) row := ⟨h.os, h.tape, h.output, h.size, h.block⟩
theorem row_drewN {w : World} {b : Nat} {t : TypeId} {n : Nat} {f : Nat → Value} (h : w.rowIs b t n f) (q : Nat) : (w.drewN q).rowIs b t n f := h
theorem row_alloc (w : World) (c : Array Value) (t : TypeId) (n : Nat) (hn : c.size = n) : (w.alloc (.cells c t)).rowIs w.heap.size t n (fun i => c.getD i default) := by
  subst hn
  exact World.rowIs_alloc w c t _ (fun i hi => by simp [Array.getD, hi])
theorem nCells_get (l : List Int) (j : Nat) (u : Value) (h : (nCells l)[j]? = some u) : j < l.length ∧ u = .int .i64 (l.getD j 0) := by
  simp only [nCells, List.getElem?_map, Option.map_eq_some_iff] at h
  obtain ⟨x, hx, rfl⟩ := h
  have hj : j < l.length := by
    rcases Nat.lt_or_ge j l.length with h | h
    · exact h
    · rw [List.getElem?_eq_none h] at hx; cases hx
  refine ⟨hj, ?_⟩
  rw [List.getD_eq_getElem?_getD, hx]
  rfl
theorem one_get (x : Value) (j : Nat) (u : Value) (h : [x][j]? = some u) : j = 0 ∧ u = x := by
  cases j with
  | zero => simp at h; exact ⟨rfl, h.symm⟩
  | succ j => simp at h
theorem one_one (x : Int) : ∀ v ∈ [Value.int .i64 x], v.oneCell' = true := by
  intro v hv
  simp at hv
  subst hv
  rfl
theorem row_cells {w : World} {g cap : Nat} {f : Nat → Value} {l : List Int} (hrow : w.rowIs g 3 cap f) (hl : l.length ≤ cap) (hf : ∀ j, j < l.length → f j = .int .i64 (l.getD j 0)) :
    ∀ (j : Nat) u, (nCells l)[j]? = some u → w.cell? ⟨g, 0 + j, none⟩ = some u := by
  intro j u h
  obtain ⟨hj, rfl⟩ := nCells_get l j u h
  rw [Nat.zero_add, hrow.cell (i := j) (by omega), hf j hj]
theorem row_size {w : World} {g n : Nat} {t : TypeId} {f : Nat → Value} (h : w.rowIs g t n f) : w.shape? g = some (t, n) := by
  obtain ⟨c, hc, hs, _⟩ := h
  simp [World.shape?, hc, hs]

/-- slices.Insert of one number ahead of all -/
theorem ins_any (l : List Int) (x : Int) (w : World) (N vb : Nat) (v : Value) (hv : RowAt w N v l) (hvb : w.rowIs vb 3 1 (fun _ => .int .i64 x)) (hne : some vb ≠ v.ownBlock) (hl : l.length ≤ 1000000) (hN : N ≤ w.heap.size) :
    Calls Try.prog 114 #[v, .int .i64 0, .slice (some ⟨vb, 0, none⟩) 1 1] w fun e w' => ∃ v', e = .returned v' ∧ RowAt w' N v' (x :: l) ∧ w.grownBy w' v.ownBlock ∧ NewRow w v v' := by
  have hxc : ∀ (j : Nat) u, [Value.int .i64 x][j]? = some u → w.cell? ⟨vb, 0 + j, none⟩ = some u := by
    intro j u h
    obtain ⟨rfl, rfl⟩ := one_get _ _ _ h
    exact hvb.cell (i := 0) (by omega)
  have hmax : 1000001 ≤ maxLen := by decide
  rcases hv with ⟨rfl, rfl⟩ | ⟨g, cap, f, rfl, hg, hrow, hlc, hcm, hf⟩
  · refine Calls.mono (Any2.slices_Insert_int_end_grow Try.laysNm221 none 0 0 vb 0 1 1 [] [.int .i64 x] w (by decide) (by decide) (by decide) (by decide) rfl rfl (fun _ => rfl) (by intro a h; cases h) hxc (one_one x)) ?_
    rintro e w' ⟨rfl, rfl⟩
    refine ⟨_, rfl, .inr ⟨w.heap.size, _, _, rfl, hN, row_alloc w.drew _ _ _ ?_, ?_, ?_, ?_⟩, grown_of_drew (World.grownBy_alloc w.drew _ _), newrow_new (Nat.le_refl _)⟩
    · obtain ⟨G, hG⟩ : ∃ G, G = grownCap w (0 + 1) 0 (Try.laysNm221_ren.t 3) := ⟨_, rfl⟩
      have := grownCap_ge w (0 + 1) 0 (Try.laysNm221_ren.t 3)
      rw [← hG] at this ⊢
      simp [Builtin.zeroCells, Value.cells]
      omega
    · exact grownCap_ge w (0 + 1) 0 3
    · exact grownCap_le_maxLen _ _ _ _ (by omega)
    · intro j hj
      simp at hj
      subst hj
      simp [Array.getD]
  · by_cases h0 : l.length = 0
    · have : l = [] := List.eq_nil_of_length_eq_zero h0
      subst this
      by_cases hc : 1 ≤ cap
      · refine Calls.mono (Any2.slices_Insert_int_end_room Try.laysNm221 g 0 0 cap vb 0 1 1 [.int .i64 x] w (by decide) hc hcm rfl (fun j hj => ?_) (fun j hj => hrow.frozen _) hxc (one_one x)) ?_
        · rw [hrow.cell (i := 0 + 0 + j) (by omega)]
          rfl
        rintro e w' ⟨rfl, rfl⟩
        refine ⟨_, rfl, .inr ⟨g, cap, _, rfl, hg, rowIs_setCells _ _ _ _ hrow, hc, hcm, ?_⟩, grown_sets (fun k _ h => fun e => h (by rw [e]; rfl)) _ _ _ (World.grownBy.refl w _), .inl rfl⟩
        intro j hj
        simp at hj
        subst hj
        simp
      · have : cap = 0 := by omega
        subst this
        refine Calls.mono (Any2.slices_Insert_int_end_grow Try.laysNm221 (some ⟨g, 0, none⟩) 0 0 vb 0 1 1 [] [.int .i64 x] w (by decide) (by decide) (by decide) (by decide) rfl rfl (fun _ => rfl) (by intro a h j u hu; simp at hu) hxc (one_one x)) ?_
        rintro e w' ⟨rfl, rfl⟩
        refine ⟨_, rfl, .inr ⟨w.heap.size, _, _, rfl, hN, row_alloc w.drew _ _ _ ?_, ?_, ?_, ?_⟩, grown_of_drew (World.grownBy_alloc w.drew _ _), newrow_new (Nat.le_refl _)⟩
        · obtain ⟨G, hG⟩ : ∃ G, G = grownCap w (0 + 1) 0 (Try.laysNm221_ren.t 3) := ⟨_, rfl⟩
          have := grownCap_ge w (0 + 1) 0 (Try.laysNm221_ren.t 3)
          rw [← hG] at this ⊢
          simp [Builtin.zeroCells, Value.cells]
          omega
        · exact grownCap_ge w (0 + 1) 0 3
        · exact grownCap_le_maxLen _ _ _ _ (by omega)
        · intro j hj
          simp at hj
          subst hj
          simp [Array.getD]
    · by_cases hc : l.length + 1 ≤ cap
      · refine Calls.mono (Any2.slices_Insert_int_shift Try.laysNm221 g 0 l.length cap 0 vb 0 1 1 (nCells l) [.int .i64 x] w (by omega) (by decide) hc hcm (fun e => hne (by rw [e]; rfl)) (nCells_length l) rfl
          (row_cells hrow hlc hf) (fun j hj => ?_) (fun j hj => hrow.frozen _) hxc (nCells_one l) (one_one x) _ _ _ _ (row_size hvb) (row_size hrow) (by omega) (hvb.frozen _) (hvb.frozen _)) ?_
        · rw [hrow.cell (i := 0 + j) (by omega)]
          rfl
        rintro e w' ⟨rfl, rfl⟩
        refine ⟨_, rfl, .inr ⟨g, cap, _, rfl, hg, rowIs_setCells _ _ _ _ (rowIs_setCells _ _ _ _ hrow.drew), hc, hcm, ?_⟩,
          grown_sets (fun k _ h => fun e => h (by rw [e]; rfl)) _ _ _ (grown_sets (fun k _ h => fun e => h (by rw [e]; rfl)) _ _ _ (grown_drew (World.grownBy.refl w _))), .inl rfl⟩
        intro j hj
        simp only [List.length_cons] at hj
        rcases j with _ | j
        · simp
        · have hj' : j < l.length := by omega
          simp [nCells, hj', List.getD_eq_getElem?_getD]
          intro h; exfalso; omega
      · refine Calls.mono (Any2.slices_Insert_int_grow Try.laysNm221 g 0 l.length cap 0 vb 0 1 1 (nCells l) [.int .i64 x] w (by omega) (by decide) hlc (by omega) (by omega) (nCells_length l) rfl
          (row_cells hrow hlc hf) hxc (nCells_one l) (one_one x)) ?_
        rintro e w' ⟨rfl, rfl⟩
        have hal := row_alloc w (((List.take 0 (nCells l)).toArray ++ Builtin.zeroCells (Value.int .i64 0).cells (l.length + 1 - 0)) ++ Builtin.zeroCells (Value.int .i64 0).cells (grownCap w (l.length + 1) cap 3 - (l.length + 1))) 3 (grownCap w (l.length + 1) cap 3) (by
          have := grownCap_ge w (l.length + 1) cap 3
          simp [Builtin.zeroCells, Value.cells]
          omega)
        refine ⟨_, rfl, .inr ⟨w.heap.size, _, _, rfl, hN, rowIs_setCells _ _ _ _ (World.rowIs.drew (rowIs_setCells _ _ _ _ hal.drew)), ?_, ?_, ?_⟩,
          grown_sets (fun k hk _ e => by omega) _ _ _ (grown_drew (grown_sets (fun k hk _ e => by omega) _ _ _ (grown_drew (World.grownBy_alloc w _ _)))), newrow_new (Nat.le_refl _)⟩
        · exact grownCap_ge w (l.length + 1) cap 3
        · exact grownCap_le_maxLen _ _ _ _ (by omega)
        · intro j hj
          simp only [List.length_cons] at hj
          rcases j with _ | j
          · simp
          · have hj' : j < l.length := by omega
            simp [nCells, hj', List.getD_eq_getElem?_getD]
            intro h; exfalso; omega

theorem row_getD {w : World} {g cap : Nat} {f : Nat → Value} {l : List Int} (hrow : w.rowIs g 3 cap f) (hl : l.length ≤ cap) (hf : ∀ j, j < l.length → f j = .int .i64 (l.getD j 0)) :
    ∀ j, j < l.length → w.cell? ⟨g, 0 + j, none⟩ = some (.int .i64 (l.getD j 0)) := by
  intro j h
  rw [Nat.zero_add, hrow.cell (i := j) (by omega), hf j h]
theorem cont_any (l : List Int) (x : Int) (w : World) (N : Nat) (v : Value) (hv : RowAt w N v l) :
    Calls Try.prog 115 #[v, .int .i64 x] w fun e w' => e = .returned (.bool (l.contains x)) ∧ w = w' := by
  rcases hv with ⟨rfl, rfl⟩ | ⟨g, cap, f, rfl, hg, hrow, hlc, hcm, hf⟩
  · refine Calls.mono (Try.slices_Contains_int_empty none 0 x w) ?_
    rintro e w' ⟨rfl, rfl⟩
    exact ⟨rfl, rfl⟩
  · refine Calls.mono (Try.slices_Contains_int g 0 l.length cap l x w (Nat.le_refl _) (Nat.le_trans hlc hcm) (row_getD hrow hlc hf)) ?_
    rintro e w' ⟨rfl, rfl⟩
    exact ⟨by rw [List.take_length], rfl⟩
theorem index_any (l : List Int) (x : Int) (w : World) (N : Nat) (v : Value) (hv : RowAt w N v l) :
    Calls Try.prog 112 #[v, .int .i64 x] w fun e w' => e = .returned (.int .i64 (Lib.idxOf l x)) ∧ w = w' := by
  rcases hv with ⟨rfl, rfl⟩ | ⟨g, cap, f, rfl, hg, hrow, hlc, hcm, hf⟩
  · refine Calls.mono (Try.slices_Index_int_empty none 0 x w) ?_
    rintro e w' ⟨rfl, rfl⟩
    exact ⟨rfl, rfl⟩
  · refine Calls.mono (Try.slices_Index_int g 0 l.length cap l x w (Nat.le_refl _) (Nat.le_trans hlc hcm) (row_getD hrow hlc hf)) ?_
    rintro e w' ⟨rfl, rfl⟩
    exact ⟨by rw [List.take_length], rfl⟩
/-- slices.Delete of one -/
theorem del_any (l : List Int) (i : Nat) (w : World) (N : Nat) (v : Value) (hv : RowAt w N v l) (hi : i < l.length) :
    Calls Try.prog 113 #[v, .int .i64 i, .int .i64 ((i : Int) + 1)] w fun e w' => ∃ v', e = .returned v' ∧ RowAt w' N v' (l.eraseIdx i) ∧ w.grownBy w' v.ownBlock ∧ NewRow w v v' := by
  rcases hv with ⟨rfl, rfl⟩ | ⟨g, cap, f, rfl, hg, hrow, hlc, hcm, hf⟩
  · simp at hi
  · refine Calls.mono (Try.slices_Delete_int_cells g 0 l.length cap i (i + 1) l w (Nat.le_refl _) hlc hcm (by omega) (by omega) (row_getD hrow hlc hf) (fun j hj => hrow.frozen _)) ?_
    rintro e w' ⟨rfl, q, rfl⟩
    have hlen : (l.eraseIdx i).length = l.length - (i + 1 - i) := by rw [List.length_eraseIdx, if_pos hi]; omega
    refine ⟨_, rfl, .inr ⟨g, cap, _, by rw [hlen], hg, rowIs_setCells _ _ _ _ (row_drewN hrow q), by omega, hcm, ?_⟩, grown_sets (fun k _ h => fun e => h (by rw [e]; rfl)) _ _ _ (grown_drewN (World.grownBy.refl w _) q), .inl rfl⟩
    intro j hj
    rw [hlen] at hj
    rw [List.take_length, List.eraseIdx_eq_take_drop_succ]
    have h1 : (l.take i ++ l.drop (i + 1)).length = l.length - 1 := by simp; omega
    have h2 : j < (l.take i ++ l.drop (i + 1)).length := by omega
    have h3 : 0 ≤ j ∧ j < 0 + (List.map (Value.int .i64) (l.take i ++ l.drop (i + 1) ++ List.replicate (i + 1 - i) 0)).length := by simp; omega
    rw [if_pos h3, List.getElem?_map, Nat.sub_zero, List.getElem?_append_left h2, List.getD_eq_getElem?_getD, List.getElem?_eq_getElem h2]
    rfl
end Go.Proofs.Ytfgmeeponipjeaa
/-
  An order that lies in a cell of an object (an arc's four lists): the methods of order, whatever it holds.
-/

namespace Go.Proofs.Ytfgmeeponipjeaa
open Go.RowKit
set_option linter.unusedVariables false
set_option linter.unusedSimpArgs false

theorem RowAt.form {w : World} {N : Nat} {v : Value} {l : List Int} (h : RowAt w N v l) : ∃ a c, v = .slice a l.length c ∧ l.length ≤ c ∧ c ≤ maxLen := by
  rcases h with ⟨rfl, rfl⟩ | ⟨g, cap, f, rfl, hg, hrow, hlc, hcm, hf⟩
  · exact ⟨none, 0, rfl, Nat.le_refl _, Nat.zero_le _⟩
  · exact ⟨_, cap, rfl, hlc, hcm⟩
theorem RowAt.kept {w w' : World} {N : Nat} {v : Value} {l : List Int} (h : RowAt w N v l) (hk : ∀ g, v.ownBlock = some g → w'.heap[g]? = w.heap[g]?) : RowAt w' N v l := by
  rcases h with h | ⟨g, cap, f, rfl, hg, hrow, h⟩
  · exact .inl h
  · exact .inr ⟨g, cap, f, rfl, hg, hrow.of_block (hk g rfl), h⟩
/-- a row's block is no object of another type -/
theorem RowAt.other {w : World} {N p : Nat} {v : Value} {l : List Int} {A : Array Value} {t : TypeId} (h : RowAt w N v l) (hp : w.heap[p]? = some (.cells A t)) (ht : 3 ≠ t) : v.ownBlock ≠ some p := by
  rcases h with ⟨rfl, rfl⟩ | ⟨g, cap, f, rfl, hg, ⟨c, hc, _⟩, _⟩
  · exact fun e => by cases e
  · intro e
    injection e with e
    simp only at e
    subst e
    rw [hc] at hp
    injection hp with hp
    injection hp with _ h2
    exact ht h2
theorem RowAt.from {w : World} {N : Nat} {v : Value} {l : List Int} (h : RowAt w N v l) : ∀ k, v.ownBlock = some k → N ≤ k := by
  rcases h with ⟨rfl, rfl⟩ | ⟨g, cap, f, rfl, hg, _⟩
  · exact fun k e => by cases e
  · intro k e
    cases e
    exact hg
theorem RowAt.lt {w : World} {N : Nat} {v : Value} {l : List Int} (h : RowAt w N v l) : ∀ k, v.ownBlock = some k → k < w.heap.size := by
  rcases h with ⟨rfl, rfl⟩ | ⟨g, cap, f, rfl, hg, hrow, _⟩
  · exact fun k e => by cases e
  · intro k e
    cases e
    exact hrow.lt
theorem RowAt.alloc {w : World} {N : Nat} {v : Value} {l : List Int} (h : RowAt w N v l) (o : Obj) : RowAt (w.alloc o) N v l :=
  h.kept fun g hg => (World.grownBy_alloc w o none).block g (h.lt g hg) (by simp)
theorem RowAt.nil (w : World) (N : Nat) : RowAt w N (.slice none 0 0) [] := .inl ⟨rfl, rfl⟩
theorem obj_lt {w : World} {p : Nat} {o : Obj} (h : w.heap[p]? = some o) : p < w.heap.size := by
  rcases Nat.lt_or_ge p w.heap.size with h1 | h1
  · exact h1
  · rw [Array.getElem?_eq_none h1] at h; cases h
theorem heap_alloc_old {w : World} {p : Nat} {o' : Obj} (h : w.heap[p]? = some o') (o : Obj) : (w.alloc o).heap[p]? = some o' := ((World.grownBy_alloc w o none).block p (obj_lt h) (by simp)).trans h
theorem set_same {A : Array Value} {k : Nat} {v : Value} (h : A[k]? = some v) : A.setIfInBounds k v = A := by
  obtain ⟨hk, -⟩ := Array.getElem?_eq_some_iff.1 h
  apply Array.ext_getElem?
  intro i
  rw [Array.getElem?_setIfInBounds]
  split
  · next e => subst e; exact h.symm
  · rfl
/-- an order in cell k of the object at block a -/
structure OrdA (w : World) (N a k : Nat) (t : TypeId) (A : Array Value) (v : Value) (l : List Int) : Prop where
  low : N ≤ a
  obj : w.heap[a]? = some (.cells A t)
  cell : A[k]? = some v
  row : RowAt w N v l
  ty : 3 ≠ t
/-- what a change of it leaves -/
structure AKept (w w' : World) (N a k : Nat) (t : TypeId) (A : Array Value) (v v' : Value) : Prop where
  below : Below N w w'
  size : w.heap.size ≤ w'.heap.size
  obj : w'.heap[a]? = some (.cells (A.setIfInBounds k v') t)
  block : ∀ j, j < w.heap.size → j ≠ a → some j ≠ v.ownBlock → w'.heap[j]? = w.heap[j]?
  new : NewRow w v v'
theorem OrdA.at_ {w : World} {N a k : Nat} {t : TypeId} {A : Array Value} {v : Value} {l : List Int} (h : OrdA w N a k t A v l) : w.cell? ⟨a, k, none⟩ = some v := by simp [World.cell?, h.obj, h.cell]
theorem OrdA.below {w w' : World} {N a k : Nat} {t : TypeId} {A : Array Value} {v : Value} {l : List Int} (h : OrdA w N a k t A v l) (hb : Below w.heap.size w w') : OrdA w' N a k t A v l :=
  ⟨h.low, (hb.block a (obj_lt h.obj)).trans h.obj, h.cell, h.row.kept fun g hg => hb.block g (h.row.lt g hg), h.ty⟩
theorem ohasA (l : List Int) (n : Int) (w : World) (N a k : Nat) (t : TypeId) (A : Array Value) (v : Value) (h : OrdA w N a k t A v l) : Calls Try.prog 98 #[.pointer (some ⟨a, k, none⟩), .int .i64 n] w fun e w' => e = .returned (.bool (l.contains n)) ∧ w = w' := by
  have hr := h.row
  have hc := h.at_
  go_enter Try.func98, Try.ntmps98
  go_wp2_with fail
  refine Calls.mono (cont_any l n _ N v hr) ?_
  rintro e w1 ⟨rfl, rfl⟩
  go_wp2_with fail
  all_goals go_ret
  all_goals simp_all
theorem olenA (l : List Int) (w : World) (N a k : Nat) (t : TypeId) (A : Array Value) (v : Value) (h : OrdA w N a k t A v l) : Calls Try.prog 116 #[.pointer (some ⟨a, k, none⟩)] w fun e w' => e = .returned (.int .i64 l.length) ∧ w = w' := by
  have hr := h.row
  have hc := h.at_
  obtain ⟨a, c, rfl, _, _⟩ := hr.form
  go_enter Try.func116, Try.ntmps116
  go_wp2
  go_ret
  exact ⟨rfl, rfl⟩
theorem idx_mem (l : List Int) (n : Int) (h : n ∈ l) : Lib.idxOf l n = ((l.idxOf n : Nat) : Int) := by
  have hlt : l.idxOf n < l.length := List.idxOf_lt_length_of_mem h
  have := Lib.idxOf_hit l l.length (l.idxOf n) n hlt (Nat.le_refl _) (by rw [List.getD_eq_getElem?_getD, List.getElem?_eq_getElem hlt]; simp) (by
    intro j hj e
    have hj2 : j < l.length := by omega
    rw [List.getD_eq_getElem?_getD, List.getElem?_eq_getElem hj2] at e
    simp only [Option.getD_some] at e
    have h3 := List.not_of_lt_findIdx (p := fun y => y == n) (xs := l) (i := j) hj
    simp [e] at h3)
  rw [List.take_length] at this
  exact this
theorem put_ordA {w w1 : World} {N a k : Nat} {t : TypeId} {A : Array Value} {v v' : Value} {l m : List Int} (h : OrdA w N a k t A v l) (hg : w.grownBy w1 v.ownBlock) (hr1 : RowAt w1 N v' m) (hn : NewRow w v v') :
    w1.heap[a]? = some (.cells A t) ∧ OrdA (w1.setCell ⟨a, k, none⟩ v') N a k t (A.setIfInBounds k v') v' m ∧ AKept w (w1.setCell ⟨a, k, none⟩ v') N a k t A v v' := by
  have hp1 : w1.heap[a]? = some (.cells A t) := (hg.block a (obj_lt h.obj) (fun e => h.row.other h.obj h.ty e.symm)).trans h.obj
  have hp2 : (w1.setCell ⟨a, k, none⟩ v').heap[a]? = some (.cells (A.setIfInBounds k v') t) := heap_setCell_same _ _ _ _ _ _ hp1
  obtain ⟨hk, -⟩ := Array.getElem?_eq_some_iff.1 h.cell
  refine ⟨hp1, ⟨h.low, hp2, by simp [hk], hr1.kept fun g hg' => heap_setCell_other _ _ _ _ (fun e => hr1.other hp1 h.ty (by rw [hg', e])), h.ty⟩, ?_⟩
  have hb : Below N w w1 := (Below.refl N w).grown hg (Nat.le_trans h.low (Nat.le_of_lt (obj_lt h.obj))) h.row.from
  have hb2 := below_setCells h.low [v'] k w1 hb
  refine ⟨hb2, hb2.size, hp2, fun j hj hja hu => ?_, hn⟩
  rw [heap_setCell_other _ _ _ _ hja]
  exact hg.block j hj hu
theorem obj_frozenA {w : World} {p : Nat} {A : Array Value} {t : TypeId} (h : w.heap[p]? = some (.cells A t)) (o : Nat) : w.frozen? ⟨p, o, none⟩ = false := by simp [World.frozen?, h]
theorem obj_cellA {w : World} {p k : Nat} {A : Array Value} {t : TypeId} {v : Value} (h : w.heap[p]? = some (.cells A t)) (hv : A[k]? = some v) : w.cell? ⟨p, k, none⟩ = some v := by simp [World.cell?, h, hv]
theorem AKept.refl {w : World} {N a k : Nat} {t : TypeId} {A : Array Value} {v : Value} {l : List Int} (h : OrdA w N a k t A v l) : AKept w w N a k t A v v := ⟨Below.refl _ _, Nat.le_refl _, by rw [set_same h.cell]; exact h.obj, fun _ _ _ _ => rfl, .inl rfl⟩
set_option maxHeartbeats 1600000 in
theorem odropA (l : List Int) (n : Int) (w : World) (N a k : Nat) (t : TypeId) (A : Array Value) (v : Value) (h : OrdA w N a k t A v l) (hl : l.length ≤ 1000000) : Calls Try.prog 96 #[.pointer (some ⟨a, k, none⟩), .int .i64 n] w fun e w' => e = .returned (.bool (l.contains n)) ∧ ∃ v', OrdA w' N a k t (A.setIfInBounds k v') v' (l.erase n) ∧ AKept w w' N a k t A v v' := by
  have hr := h.row
  have hc := h.at_
  by_cases hm : n ∈ l
  · have hi : l.idxOf n < l.length := List.idxOf_lt_length_of_mem hm
    go_enter Try.func96, Try.ntmps96
    go_wp2_with fail
    refine Calls.mono (ohasA l n _ N a k t A v h) ?_
    rintro e w1 ⟨rfl, rfl⟩
    simp only [List.contains_iff_mem, hm, decide_true, List.contains_eq_mem]
    go_wp2_with fail
    refine Calls.mono (index_any l n _ N v hr) ?_
    rintro e w1 ⟨rfl, rfl⟩
    rw [idx_mem l n hm]
    go_wp2_with fail
    refine Calls.mono (del_any l (l.idxOf n) _ N v hr hi) ?_
    rintro e w1 ⟨v', rfl, hr1, hg, hnr⟩
    have hput := put_ordA h hg hr1 hnr
    have hc1 := obj_cellA hput.1 h.cell
    have hf1 := obj_frozenA hput.1 k
    obtain ⟨a, c, rfl, _, _⟩ := hr1.form
    go_wp2_with fail
    go_ret
    exact ⟨by simp [hm], _, by rw [List.erase_eq_eraseIdx_of_idxOf rfl]; exact hput.2.1, hput.2.2⟩
  · go_enter Try.func96, Try.ntmps96
    go_wp2_with fail
    refine Calls.mono (ohasA l n _ N a k t A v h) ?_
    rintro e w1 ⟨rfl, rfl⟩
    simp only [List.contains_eq_mem, hm, decide_false]
    go_wp2_with fail
    go_ret
    exact ⟨by simp [hm], v, by rw [List.erase_of_not_mem hm, set_same h.cell]; exact h, AKept.refl h⟩
theorem AKept.trans {x y z : World} {N a k : Nat} {t : TypeId} {A : Array Value} {u v s : Value} (h : AKept x y N a k t A u v) (g : AKept y z N a k t (A.setIfInBounds k v) v s) : AKept x z N a k t A u s := by
  refine ⟨h.below.trans g.below, Nat.le_trans h.size g.size, ?_, fun j hj hja hu => ?_, h.new.trans g.new h.size⟩
  · have := g.obj
    rwa [Array.setIfInBounds_setIfInBounds] at this
  · refine (g.block j (Nat.lt_of_lt_of_le hj h.size) hja fun e => ?_).trans (h.block j hj hja hu)
    rcases h.new with hn | hn
    · exact hu (e.trans hn)
    · exact absurd (hn j e.symm) (by omega)
set_option maxHeartbeats 1600000 in
theorem ouseA (l : List Int) (n : Int) (w : World) (N a k : Nat) (t : TypeId) (A : Array Value) (v : Value) (h : OrdA w N a k t A v l) (hl : l.length ≤ 1000000) : Calls Try.prog 97 #[.pointer (some ⟨a, k, none⟩), .int .i64 n] w fun e w' => e = .returned (.tuple #[]) ∧ ∃ v', OrdA w' N a k t (A.setIfInBounds k v') v' (n :: l.erase n) ∧ AKept w w' N a k t A v v' := by
  go_enter Try.func97, Try.ntmps97
  go_wp2_with fail
  refine Calls.mono (odropA l n _ N a k t A v h hl) ?_
  rintro e w1 ⟨rfl, v1, h1, hb⟩
  have hr := h1.row
  have hc := h1.at_
  have hlen : (l.erase n).length ≤ 1000000 := Nat.le_trans (List.length_erase_le) hl
  have hNs : N ≤ w1.heap.size := Nat.le_trans h1.low (Nat.le_of_lt (obj_lt h1.obj))
  go_wp2_with fail
  refine Calls.mono (ins_any (l.erase n) n (w1.alloc (.cells #[.int .i64 n] 3)) N w1.heap.size v1 (hr.alloc _) (World.rowIs_alloc w1 #[Value.int .i64 n] 3 (fun _ => .int .i64 n) (by intro i hi; simp at hi; subst hi; rfl))
    (fun e => Nat.lt_irrefl _ (hr.lt _ e.symm)) hlen (Nat.le_trans hNs (World.grownBy_alloc w1 _ none).size)) ?_
  rintro e w2 ⟨v', rfl, hr2, hg2, hnr⟩
  have hbA := (Below.refl w1.heap.size w1).alloc (Nat.le_refl _) (.cells #[.int .i64 n] 3)
  have hA : AKept w1 (w1.alloc (.cells #[.int .i64 n] 3)) N a k t (A.setIfInBounds k v1) v1 v1 := ⟨hbA.mono hNs, hbA.size, by rw [set_same h1.cell]; exact heap_alloc_old h1.obj _, fun j hj _ _ => hbA.block j hj, .inl rfl⟩
  have hput := put_ordA (h1.below hbA) hg2 hr2 hnr
  have hc2 := obj_cellA hput.1 h1.cell
  have hf2 := obj_frozenA hput.1 k
  obtain ⟨b, c, rfl, _, _⟩ := hr2.form
  go_wp2_with fail
  go_returns
  refine ⟨rfl, _, ?_, (hb.trans hA).trans hput.2.2⟩
  have := hput.2.1
  rwa [Array.setIfInBounds_setIfInBounds] at this
end Go.Proofs.Ytfgmeeponipjeaa
