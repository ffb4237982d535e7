/-
  Several texts, laid together.
-/
import Derived.Test.YtlhjgpedmnjbpaaMg16
import Derived.Deep.RegionLawGrows
/-
  Where a command is: rlog.Log.Has.
-/

namespace Go.Proofs.Ytlhjgpedmnjbpaa
open Go.RowKit
set_option linter.unusedVariables false
set_option linter.unusedSimpArgs false

/-- does an entry hold this command -/
def isK (x : Int) (c : CF) (e : EN) : Bool := e.x == x && sameC e.c c
theorem sameE_self (e : EN) (x : Int) (c : CF) : sameE e.t e.x e.c e.t x c = isK x c e := by simp [sameE, isK]
/-- none of the first j holds this command -/
def NoneYet (es : List EN) (x : Int) (c : CF) (j : Nat) : Prop := ∀ k, k < j → ∀ e, es[k]? = some e → isK x c e = false
theorem noneYet_next {es : List EN} {x : Int} {c : CF} {j : Nat} {e : EN} (h : NoneYet es x c j) (hj : es[j]? = some e) (he : isK x c e = false) : NoneYet es x c (j + 1) := by
  intro k hk f hf
  by_cases hkj : k = j
  · subst hkj
    rw [hj] at hf
    cases hf
    exact he
  · exact h k (by omega) f hf
/-- the first place that holds this command -/
def ixE (x : Int) (c : CF) (es : List EN) : Int := match es.findIdx? (isK x c) with | some i => i | none => -1
theorem ixE_at {es : List EN} {x : Int} {c : CF} {j : Nat} {e : EN} (h : NoneYet es x c j) (hj : es[j]? = some e) (he : isK x c e = true) : ixE x c es = j := by
  unfold ixE
  have hl := (List.getElem?_eq_some_iff.1 hj).1
  have : es.findIdx? (isK x c) = some j := by
    rw [List.findIdx?_eq_some_iff_getElem]
    refine ⟨hl, ?_, fun k hk => ?_⟩
    · rw [(List.getElem?_eq_some_iff.1 hj).2]; exact he
    · have := h k hk es[k] (List.getElem?_eq_getElem (by omega))
      simp [this]
  rw [this]
theorem ixE_none {es : List EN} {x : Int} {c : CF} (h : NoneYet es x c es.length) : ixE x c es = -1 := by
  unfold ixE
  have : es.findIdx? (isK x c) = none := by
    rw [List.findIdx?_eq_none_iff]
    intro e he
    obtain ⟨k, hk, rfl⟩ := List.mem_iff_getElem.1 he
    exact h k hk _ (List.getElem?_eq_getElem hk)
  rw [this]
theorem LogE.elts {w : World} {N g : Nat} {v : Value} {es : List EN} (h : LogE w N g v es) : Elts w EN.cells 7 v es := by
  obtain ⟨a, cap, rfl, h1, h2, h3, h4⟩ := SR.owns h.row
  refine ⟨a, cap, rfl, h1, h2, h4.imp id ?_⟩
  rintro ⟨b, off, rfl, hb, hc⟩
  refine ⟨b, off, rfl, hb, fun j e hj k u hk => ?_⟩
  have hk7 : k < 7 := by
    have := (List.getElem?_eq_some_iff.1 hk).1
    simpa [EN.cells] using this
  have := hc (j * 7 + k) u (enCells_get es j e hj k u hk hk7)
  rwa [← Nat.add_assoc] at this
theorem ixE_le (x : Int) (c : CF) (es : List EN) : -1 ≤ ixE x c es ∧ ixE x c es < es.length := by
  unfold ixE
  rcases h : es.findIdx? (isK x c) with _ | i
  · simp; omega
  · rw [List.findIdx?_eq_some_iff_getElem] at h
    obtain ⟨h1, -⟩ := h
    simp; omega
end Go.Proofs.Ytlhjgpedmnjbpaa
/-
  A log whose entries fill their row: Add, where what is laid goes into a new row.
-/


namespace Go.Proofs.Ytlhjgpedmnjbpaa
open Go.RowKit
set_option linter.unusedVariables false
set_option linter.unusedSimpArgs false

theorem enCells_len (es : List EN) : (enCells es).length = es.length * 7 := by
  induction es with
  | nil => rfl
  | cons x t ih => simp only [enCells, List.flatMap_cons, List.length_append] at ih ⊢; rw [ih]; simp [EN.cells]; omega
/-- a log behind no place whose slice has no room -/
structure LogF (w : World) (N g : Nat) (ao : Option Addr) (n : Nat) (es : List EN) : Prop where
  low : N ≤ g
  obj : w.heap[g]? = some (.cells #[.int .i64 0, .int .i64 0, .slice ao n n] 152)
  nn : ao = none → n = 0
  rd : ao = none ∨ ∃ b off, ao = some ⟨b, off, none⟩ ∧ b < w.heap.size ∧ ∀ (j : Nat) u, (enCells es)[j]? = some u → w.cell? ⟨b, off + j, none⟩ = some u
  lists : ∀ e ∈ es, e.own N w
theorem LogF.below {w w' : World} {N g n : Nat} {ao : Option Addr} {ts : List EN} (h : LogF w N g ao n ts) (hb : Below w.heap.size w w') : LogF w' N g ao n ts :=
  ⟨h.low, below_at hb (lt_heap h.obj) h.obj, h.nn, h.rd.imp id fun ⟨b, off, e, hl, hc⟩ => ⟨b, off, e, Nat.lt_of_lt_of_le hl hb.size, fun j u hj => (hb.cell (p := ⟨b, off + j, none⟩) hl).trans (hc j u hj)⟩, fun e he => CFO.below (h.lists e he) hb⟩
theorem LogF.cells {w : World} {N g n : Nat} {ao : Option Addr} {ts : List EN} (h : LogF w N g ao n ts) : w.cell? ⟨g, 0, none⟩ = some (.int .i64 0) ∧ w.cell? ⟨g, 1, none⟩ = some (.int .i64 0) ∧ w.cell? ⟨g, 2, none⟩ = some (.slice ao n n) ∧ w.frozen? ⟨g, 2, none⟩ = false :=
  ⟨cell_atD h.obj 0 rfl, cell_atD h.obj 1 rfl, cell_atD h.obj 2 rfl, by have := h.obj; simp [World.frozen?, this]⟩
theorem LogF.le {w : World} {N g n : Nat} {ao : Option Addr} {ts : List EN} (h : LogF w N g ao n ts) : N ≤ w.heap.size := Nat.le_trans h.low (Nat.le_of_lt (lt_heap h.obj))
theorem LogF.lts {w : World} {N g n : Nat} {ao : Option Addr} {ts : List EN} (h : LogF w N g ao n ts) : ∀ b, ((∃ off, ao = some ⟨b, off, none⟩) ∨ ∃ e ∈ ts, (Value.slice e.a1 e.c.M.length e.q1).ownBlock = some b ∨ (Value.slice e.a2 e.c.C.length e.q2).ownBlock = some b) → b < w.heap.size := by
  rintro b (⟨off, rfl⟩ | ⟨e, he, q | q⟩)
  · rcases h.rd with q | ⟨b', off', e, hl, -⟩
    · cases q
    · cases e; exact hl
  · obtain ⟨c, hc⟩ := own_typeN (h.lists e he).1 q; exact lt_heap hc
  · obtain ⟨c, hc⟩ := own_typeN (h.lists e he).2 q; exact lt_heap hc
theorem LogF.only2 {w w' : World} {N g y n : Nat} {ao : Option Addr} {ts : List EN} (h : LogF w N g ao n ts) (ho : Only y w w') (h1 : y ≠ g) (h2 : ∀ b, ((∃ off, ao = some ⟨b, off, none⟩) ∨ ∃ e ∈ ts, (Value.slice e.a1 e.c.M.length e.q1).ownBlock = some b ∨ (Value.slice e.a2 e.c.C.length e.q2).ownBlock = some b) → b ≠ y) : LogF w' N g ao n ts :=
  ⟨h.low, (ho.block g (lt_heap h.obj) (Ne.symm h1)).trans h.obj, h.nn, h.rd.imp id fun ⟨b, off, e, hl, hc⟩ => ⟨b, off, e, Nat.lt_of_lt_of_le hl ho.size, fun j u hj => (World.cell?_of_block (a := ⟨b, off + j, none⟩) (ho.block b hl (h2 b (.inl ⟨off, e⟩)))).trans (hc j u hj)⟩,
   fun e he => ⟨own_moveN (h.lists e he).1 fun b q => by obtain ⟨c, hc⟩ := own_typeN (h.lists e he).1 q; exact ho.block b (lt_heap hc) (h2 b (.inr ⟨e, he, .inl q⟩)), own_moveN (h.lists e he).2 fun b q => by obtain ⟨c, hc⟩ := own_typeN (h.lists e he).2 q; exact ho.block b (lt_heap hc) (h2 b (.inr ⟨e, he, .inr q⟩))⟩⟩
theorem holdsF {w : World} {N g n : Nat} {ao : Option Addr} {ts : List EN} {o : Obj} (h : LogF w N g ao n ts) : ∀ b, ao = some b → ∀ (j : Nat) u, (enCells ts)[j]? = some u → (w.drew.alloc o).cell? (b.add j) = some u := by
  rintro b rfl j u hj
  rcases h.rd with q | ⟨b', off', e, hl, hc⟩
  · cases q
  · cases e
    rw [add_off]
    exact (World.cell?_alloc_lt w.drew _ ⟨b', off' + j, none⟩ hl).trans (hc j u hj)
theorem litF (w : World) (e : EN) (t : TypeId) : ∀ (j : Nat) u, (enCells [e])[j]? = some u → (w.alloc (.cells #[.int .i64 e.t, .int .i64 e.x, .int .i64 e.c.e, .int .i64 e.c.b, .int .i64 e.c.k, .slice e.a1 e.c.M.length e.q1, .slice e.a2 e.c.C.length e.q2] t)).cell? ((⟨w.heap.size, 0, none⟩ : Addr).add j) = some u := by
  intro j u hj
  rw [add_off, Nat.zero_add]
  have hx := heap_alloc_self w (.cells #[.int .i64 e.t, .int .i64 e.x, .int .i64 e.c.e, .int .i64 e.c.b, .int .i64 e.c.k, .slice e.a1 e.c.M.length e.q1, .slice e.a2 e.c.C.length e.q2] t)
  simp only [World.cell?, hx]
  simpa [enCells, EN.cells] using hj
theorem onlyB {y : Nat} {w w' : World} (h : Below w.heap.size w w') : Only y w w' := ⟨h.os, h.tape, h.output, h.size, fun k hk _ => h.block k hk⟩
theorem onlyN {y : Nat} {w w' : World} (h : Only y w w') (q : Nat) : Only y w (w'.drewN q) := ⟨h.os, h.tape, h.output, h.size, h.block⟩
theorem logF_put {w w2 : World} {N g n : Nat} {ao : Option Addr} {v2 : Value} {ts : List EN} {o : Obj} {t : EN} (h : LogF w N g ao n ts) (ht : t.own N w) (hn : ts.length = n) (own2 : w2.ownsRow (w.alloc o).heap.size 52 7 v2 (n + 1) (enCells ts ++ enCells [t])) (hg : (w.alloc o).grownBy w2 none) :
    w2.heap[g]? = some (.cells #[.int .i64 0, .int .i64 0, .slice ao n n] 152) ∧ LogE (w2.setCell ⟨g, 2, none⟩ v2) N g v2 (ts ++ [t]) ∧ Only g w (w2.setCell ⟨g, 2, none⟩ v2) := by
  have hlt := lt_heap h.obj
  have hb0 : Below w.heap.size w w2 := ⟨hg.os, hg.tape, hg.output, Nat.le_trans (by simp) hg.size, fun k hk => (hg.block k (by simp; omega) (by simp)).trans (Below.heap_alloc _ _ _ hk)⟩
  have hobj2 := below_at hb0 hlt h.obj
  have v2o := row_otherE own2 hobj2 (by decide)
  have hset : ∀ k, k ≠ g → (w2.setCell ⟨g, 2, none⟩ v2).heap[k]? = w2.heap[k]? := fun k hk => heap_setCell_other _ _ _ _ hk
  have hgp : w2.grownBy (w2.setCell ⟨g, 2, none⟩ v2) (some g) := ⟨rfl, rfl, rfl, by simp, fun k _ hk => hset k (fun e => hk (by rw [e]))⟩
  have hmv : ∀ (b : Nat) (c : Array Value), w.heap[b]? = some (.cells c 3) → (w2.setCell ⟨g, 2, none⟩ v2).heap[b]? = w.heap[b]? := by
    intro b c hb
    have n1 : b ≠ g := by
      rintro rfl
      rw [h.obj] at hb
      injection hb with hb
      injection hb with _ h2
      exact absurd h2 (by decide)
    exact (hset b n1).trans (hb0.block b (lt_heap hb))
  refine ⟨hobj2, ⟨h.low, (heap_setCell_same _ _ _ _ _ _ hobj2).trans rfl, ?_, ?_⟩, ?_⟩
  · have := (owns_baseD own2 (show N ≤ (w.alloc o).heap.size by have := h.le; simp; omega)).kept hgp (.inr v2o)
    rw [List.length_append, hn, ← enCells_append]
    exact this
  · intro e he
    rcases List.mem_append.1 he with q | q
    · exact EN.own.move (h.lists e q) hmv
    · rw [List.mem_singleton.1 q]
      exact EN.own.move ht hmv
  · exact ⟨hb0.os, hb0.tape, hb0.output, by simpa [World.setCell] using hb0.size, fun k hk hne => (hset k hne).trans (hb0.block k hk)⟩
set_option maxHeartbeats 6400000 in
set_option maxRecDepth 100000 in
theorem raddF (e : EN) (w : World) (ha : e.at_ w) (hs : short e.c) (hm : mayE e.t e.x e.c = true) (N g : Nat) (ao : Option Addr) (n : Nat) (ts : List EN) (h : LogF w N g ao n ts) (hn : ts.length = n) (hl : n < 300) :
    Calls Try.prog 46 #[.pointer (some ⟨g, 0, none⟩), .agg #[.int .i64 e.t, .int .i64 e.x, .int .i64 e.c.e, .int .i64 e.c.b, .int .i64 e.c.k, .slice e.a1 e.c.M.length e.q1, .slice e.a2 e.c.C.length e.q2]] w fun ev w' => ev = .returned (.tuple #[.int .i64 ((n : Int) + 1), .bool true]) ∧ ∃ b1 p1 b2 p2 v', LogE w' N g v' (ts ++ [⟨e.t, e.x, e.c, b1, p1, b2, p2⟩]) ∧ Only g w w' := by
  obtain ⟨i0, hi, hz0, hz1, hz2⟩ := info_parts einfoN
  have hb := (Below.refl w.heap.size w).alloc (Nat.le_refl _) (.cells #[.int .i64 e.t, .int .i64 e.x, .int .i64 e.c.e, .int .i64 e.c.b, .int .i64 e.c.k, .slice e.a1 e.c.M.length e.q1, .slice e.a2 e.c.C.length e.q2] 52)
  have hx := heap_alloc_self w (.cells #[.int .i64 e.t, .int .i64 e.x, .int .i64 e.c.e, .int .i64 e.c.b, .int .i64 e.c.k, .slice e.a1 e.c.M.length e.q1, .slice e.a2 e.c.C.length e.q2] 52)
  have h1 := h.below hb
  have ha1 := CFat.below ha hb
  have HU := Lib.hid (And.intro (lt_heap h.obj) h.lts)
  have HW := Lib.hid (And.intro h.le h.low)
  clear h ha
  go_enter Try.func46, Try.ntmps46
  go_upto_region 1 with fail
  generalize w.alloc (.cells #[.int .i64 e.t, .int .i64 e.x, .int .i64 e.c.e, .int .i64 e.c.b, .int .i64 e.c.k, .slice e.a1 e.c.M.length e.q1, .slice e.a2 e.c.C.length e.q2] 52) = w1 at *
  have d0 := cell_atD hx 0 (v := .int .i64 e.t) rfl
  have d1 := cell_atD hx 1 (v := .int .i64 e.x) rfl
  have d2 := cell_atD hx 2 (v := .int .i64 e.c.e) rfl
  have d3 := cell_atD hx 3 (v := .int .i64 e.c.b) rfl
  have d4 := cell_atD hx 4 (v := .int .i64 e.c.k) rfl
  have d5 := cell_atD hx 5 (v := .slice e.a1 e.c.M.length e.q1) rfl
  have d6 := cell_atD hx 6 (v := .slice e.a2 e.c.C.length e.q2) rfl
  obtain ⟨g0, g1, g2, gf⟩ := h1.cells
  have ce := emayE e.t e.x e.c e.a1 e.a2 e.q1 e.q2 w1 ha1
  rw [hm] at ce
  have HX := Lib.hid (And.intro hx (And.intro hb (And.intro h1 ha1)))
  have HN := Lib.hid hn
  have HM := Lib.hid hm
  clear hx hb h1 ha1 hn hm
  go_wp2_with fail
  refine Calls.mono ce ?_
  rintro ev w2 ⟨rfl, h2⟩
  have hx := below_at h2 (lt_heap HX.out.1) HX.out.1
  have hb := HX.out.2.1.trans (h2.mono HX.out.2.1.size)
  have h3 := HX.out.2.2.1.below h2
  have ha := CFat.below HX.out.2.2.2 h2
  clear d0 d1 d2 d3 d4 d5 d6 h2 HX g0 g1 g2 gf ce
  have d0 := cell_atD hx 0 (v := .int .i64 e.t) rfl
  have d1 := cell_atD hx 1 (v := .int .i64 e.x) rfl
  have d2 := cell_atD hx 2 (v := .int .i64 e.c.e) rfl
  have d3 := cell_atD hx 3 (v := .int .i64 e.c.b) rfl
  have d4 := cell_atD hx 4 (v := .int .i64 e.c.k) rfl
  have d5 := cell_atD hx 5 (v := .slice e.a1 e.c.M.length e.q1) rfl
  have d6 := cell_atD hx 6 (v := .slice e.a2 e.c.C.length e.q2) rfl
  obtain ⟨g0, g1, g2, gf⟩ := h3.cells
  have co := ocmd e.x e.c e.a1 e.a2 e.q1 e.q2 w2 ha hs
  have HX := Lib.hid (And.intro hx (And.intro hb (And.intro h3 ha)))
  have hzs : w.heap.size + 1 ≤ w2.heap.size := by have := lt_heap hx; omega
  clear hx hb h3 ha
  go_wp2_with fail
  refine Calls.mono co ?_
  rintro ev w3 ⟨b1, p1, b2, p2, rfl, ho, h2⟩
  replace ho := CFO.base ho hzs
  have hx := below_at h2 (lt_heap HX.out.1) HX.out.1
  have hb := HX.out.2.1.trans (h2.mono HX.out.2.1.size)
  have h3 := HX.out.2.2.1.below h2
  have ha := CFat.below HX.out.2.2.2 h2
  have hzs3 : w.heap.size + 1 ≤ w3.heap.size := Nat.le_trans hzs h2.size
  clear d0 d1 d2 d3 d4 d5 d6 h2 HX g0 g1 g2 gf co hzs ha
  have d0 := cell_atD hx 0 (v := .int .i64 e.t) rfl
  have d1 := cell_atD hx 1 (v := .int .i64 e.x) rfl
  have d2 := cell_atD hx 2 (v := .int .i64 e.c.e) rfl
  have d3 := cell_atD hx 3 (v := .int .i64 e.c.b) rfl
  have d4 := cell_atD hx 4 (v := .int .i64 e.c.k) rfl
  have d5 := cell_atD hx 5 (v := .slice e.a1 e.c.M.length e.q1) rfl
  have d6 := cell_atD hx 6 (v := .slice e.a2 e.c.C.length e.q2) rfl
  have fz : ∀ i, w3.frozen? ⟨w.heap.size, i, none⟩ = false := fun i => by simp [World.frozen?, hx]
  have k1 : (w3.setCell ⟨w.heap.size, 1, none⟩ (.int .i64 e.x)).heap[w.heap.size]? = some (.cells #[.int .i64 e.t, .int .i64 e.x, .int .i64 e.c.e, .int .i64 e.c.b, .int .i64 e.c.k, .slice e.a1 e.c.M.length e.q1, .slice e.a2 e.c.C.length e.q2] 52) := heap_set_self hx 1 _
  have k2 : ((w3.setCell ⟨w.heap.size, 1, none⟩ (.int .i64 e.x)).setCell ⟨w.heap.size, 2, none⟩ (.int .i64 e.c.e)).heap[w.heap.size]? = some (.cells #[.int .i64 e.t, .int .i64 e.x, .int .i64 e.c.e, .int .i64 e.c.b, .int .i64 e.c.k, .slice e.a1 e.c.M.length e.q1, .slice e.a2 e.c.C.length e.q2] 52) := heap_set_self k1 2 _
  have k3 : (((w3.setCell ⟨w.heap.size, 1, none⟩ (.int .i64 e.x)).setCell ⟨w.heap.size, 2, none⟩ (.int .i64 e.c.e)).setCell ⟨w.heap.size, 3, none⟩ (.int .i64 e.c.b)).heap[w.heap.size]? = some (.cells #[.int .i64 e.t, .int .i64 e.x, .int .i64 e.c.e, .int .i64 e.c.b, .int .i64 e.c.k, .slice e.a1 e.c.M.length e.q1, .slice e.a2 e.c.C.length e.q2] 52) := heap_set_self k2 3 _
  have k4 : ((((w3.setCell ⟨w.heap.size, 1, none⟩ (.int .i64 e.x)).setCell ⟨w.heap.size, 2, none⟩ (.int .i64 e.c.e)).setCell ⟨w.heap.size, 3, none⟩ (.int .i64 e.c.b)).setCell ⟨w.heap.size, 4, none⟩ (.int .i64 e.c.k)).heap[w.heap.size]? = some (.cells #[.int .i64 e.t, .int .i64 e.x, .int .i64 e.c.e, .int .i64 e.c.b, .int .i64 e.c.k, .slice e.a1 e.c.M.length e.q1, .slice e.a2 e.c.C.length e.q2] 52) := heap_set_self k3 4 _
  have k5 : (((((w3.setCell ⟨w.heap.size, 1, none⟩ (.int .i64 e.x)).setCell ⟨w.heap.size, 2, none⟩ (.int .i64 e.c.e)).setCell ⟨w.heap.size, 3, none⟩ (.int .i64 e.c.b)).setCell ⟨w.heap.size, 4, none⟩ (.int .i64 e.c.k)).setCell ⟨w.heap.size, 5, none⟩ (.slice b1 e.c.M.length p1)).heap[w.heap.size]? = some (.cells #[.int .i64 e.t, .int .i64 e.x, .int .i64 e.c.e, .int .i64 e.c.b, .int .i64 e.c.k, .slice b1 e.c.M.length p1, .slice e.a2 e.c.C.length e.q2] 52) := heap_set_self k4 5 _
  have k6 : ((((((w3.setCell ⟨w.heap.size, 1, none⟩ (.int .i64 e.x)).setCell ⟨w.heap.size, 2, none⟩ (.int .i64 e.c.e)).setCell ⟨w.heap.size, 3, none⟩ (.int .i64 e.c.b)).setCell ⟨w.heap.size, 4, none⟩ (.int .i64 e.c.k)).setCell ⟨w.heap.size, 5, none⟩ (.slice b1 e.c.M.length p1)).setCell ⟨w.heap.size, 6, none⟩ (.slice b2 e.c.C.length p2)).heap[w.heap.size]? = some (.cells #[.int .i64 e.t, .int .i64 e.x, .int .i64 e.c.e, .int .i64 e.c.b, .int .i64 e.c.k, .slice b1 e.c.M.length p1, .slice b2 e.c.C.length p2] 52) := heap_set_self k5 6 _
  have kI := Lib.hid k6
  have kO := Lib.hid (show Only (w.heap.size) w3 ((((((w3.setCell ⟨w.heap.size, 1, none⟩ (.int .i64 e.x)).setCell ⟨w.heap.size, 2, none⟩ (.int .i64 e.c.e)).setCell ⟨w.heap.size, 3, none⟩ (.int .i64 e.c.b)).setCell ⟨w.heap.size, 4, none⟩ (.int .i64 e.c.k)).setCell ⟨w.heap.size, 5, none⟩ (.slice b1 e.c.M.length p1)).setCell ⟨w.heap.size, 6, none⟩ (.slice b2 e.c.C.length p2)) from (((((((Only.refl _ _).set 1 _).set 2 _).set 3 _).set 4 _).set 5 _).set 6 _))
  clear k1 k2 k3 k4 k5 k6
  have hobj := h3.obj
  have hgl := h3.low
  have HX := Lib.hid (And.intro hb (And.intro h3 (And.intro ho hzs3)))
  clear hx hb h3 ho hzs3 hobj hgl
  go_upto_region 4 with fail
  generalize ((((((w3.setCell ⟨w.heap.size, 1, none⟩ (.int .i64 e.x)).setCell ⟨w.heap.size, 2, none⟩ (.int .i64 e.c.e)).setCell ⟨w.heap.size, 3, none⟩ (.int .i64 e.c.b)).setCell ⟨w.heap.size, 4, none⟩ (.int .i64 e.c.k)).setCell ⟨w.heap.size, 5, none⟩ (.slice b1 e.c.M.length p1)).setCell ⟨w.heap.size, 6, none⟩ (.slice b2 e.c.C.length p2)) = w4 at *
  clear fz d0 d1 d2 d3 d4 d5 d6
  obtain ⟨hb, h3, ho, hzs3⟩ := HX.out
  clear HX
  have hx := kI.out
  have h4 : LogF w4 N g ao n ts := h3.only2 kO.out (by have := HU.out.1; omega) (fun b hb => by have := HU.out.2 b hb; omega)
  have ho4 : CFO e.c (w.heap.size + 1) w4 (.slice b1 e.c.M.length p1) (.slice b2 e.c.C.length p2) := ho.only kO.out (by omega)
  have hb4 : Below w.heap.size w w4 := hb.trans (kO.out.below (B := w.heap.size) (by omega) hb.size)
  clear hb h3 ho kI kO hzs3
  have d0 := cell_atD hx 0 (v := .int .i64 e.t) rfl
  have d1 := cell_atD hx 1 (v := .int .i64 e.x) rfl
  have d2 := cell_atD hx 2 (v := .int .i64 e.c.e) rfl
  have d3 := cell_atD hx 3 (v := .int .i64 e.c.b) rfl
  have d4 := cell_atD hx 4 (v := .int .i64 e.c.k) rfl
  have d5 := cell_atD hx 5 (v := .slice b1 e.c.M.length p1) rfl
  have d6 := cell_atD hx 6 (v := .slice b2 e.c.C.length p2) rfl
  obtain ⟨g0, g1, g2, gf⟩ := h4.cells
  have hle := h4.le
  have hlt3 : w.heap.size ≤ w4.heap.size := hb4.size
  have hee : EN.own ⟨e.t, e.x, e.c, b1, p1, b2, p2⟩ N w4 := CFO.base ho4 (Nat.le_trans HW.out.1 (Nat.le_succ _))
  have HL := Lib.hid h4
  have HE := Lib.hid hee
  have HB4 := Lib.hid hb4
  have hrd4 := HL.out.rd
  have HO7 := Lib.hid hrd4
  have gza : (w4.alloc (.cells #[.int .i64 e.t, .int .i64 e.x, .int .i64 e.c.e, .int .i64 e.c.b, .int .i64 e.c.k, .slice b1 e.c.M.length p1, .slice b2 e.c.C.length p2] 52)).cell? ⟨g, 2, none⟩ = some (.slice ao n n) := (World.cell?_alloc_lt w4 _ ⟨g, 2, none⟩ (lt_heap HL.out.obj)).trans g2
  have HLD := Lib.hid (HL.out.below (below_drew' (Below.refl _ _)))
  have HED := Lib.hid (CFO.below HE.out (below_drew' (Below.refl _ _)))
  clear hrd4 h4 hee hb4 hx ho4
  go_region_law (first | (refine step_append_grows rfl (.tmp 29) (.tmp 31) 63 rfl 52 i0 _ 7 88 Try.underlying63 hi hz0 hz1 hz2 rfl (by decide) ao n n (enCells ts) rfl (fun e => ⟨HL.out.nn e, HL.out.nn e⟩) (by rw [enCells_len, HN.out]) (holdsF HL.out) _ 1 _ (enCells [⟨e.t, e.x, e.c, b1, p1, b2, p2⟩]) rfl rfl (litF _ _ _) (enCells_one _) (by omega) (by unfold maxLen; omega) (by omega) ?_; intro v2 w5 own2 hg2; obtain ⟨a2, c2, rfl⟩ := owns_form3 own2; have LP := logF_put (v2 := .slice a2 (n + 1) c2) HLD.out HED.out HN.out own2 hg2; have y2 := cell_atD LP.1 2 (v := .slice ao n n) rfl; have f2 : w5.frozen? ⟨g, 2, none⟩ = false := (by have := LP.1; simp [World.frozen?, this]); have HLP := Lib.hid LP; clear LP own2 hg2))
  all_goals
    have HF := Lib.hid (show Only g w (w5.setCell ⟨g, 2, none⟩ (.slice a2 (n + 1) c2)) from (onlyB (below_drew' HB4.out)).trans HLP.out.2.2)
    have hL5 := HLP.out.2.1
    have hln : (ts ++ [(⟨e.t, e.x, e.c, b1, p1, b2, p2⟩ : EN)]).length = n + 1 := by rw [List.length_append, HN.out]; rfl
    clear y2 f2 HLP HLD HED gza HO7 HL HE d0 d1 d2 d3 d4 d5 d6 g0 g1 g2 gf
    generalize w5.setCell ⟨g, 2, none⟩ (.slice a2 (n + 1) c2) = W5 at *
    have cl := rlenE W5 N g _ _ hL5 (by rw [hln]; omega)
    rw [hln] at cl
    have HL5 := Lib.hid hL5
    clear hL5 hln
    go_wp2_with fail
    refine Calls.mono cl ?_
    rintro ev w6 ⟨rfl, q, rfl⟩
    go_wp2_with fail
    go_returns
    exact ⟨by simp, _, _, _, _, _, HL5.out.drewN q, onlyN HF.out q⟩
end Go.Proofs.Ytlhjgpedmnjbpaa
/-
  An entry laid just behind all; entries laid one behind the other: rlog.lay, Append.
-/

namespace Go.Proofs.Ytlhjgpedmnjbpaa
open Go.RowKit
set_option linter.unusedVariables false
set_option linter.unusedSimpArgs false

theorem logF_of {w : World} {N g n c : Nat} {ao : Option Addr} {ts : List EN} (h : LogE w N g (.slice ao n c) ts) (hn : ts.length = n) : LogF (w.setCell ⟨g, 2, none⟩ (.slice ao n n)) N g ao n ts := by
  have hset : ∀ k, k ≠ g → (w.setCell ⟨g, 2, none⟩ (.slice ao n n)).heap[k]? = w.heap[k]? := fun k hk => heap_setCell_other _ _ _ _ hk
  have hro := row_otherE h.row h.obj (by decide)
  refine ⟨h.low, (heap_setCell_same _ _ _ _ _ _ h.obj).trans rfl, ?_, ?_, fun e he => EN.own.move (h.lists e he) fun b c hb => hset b ?_⟩
  · rintro rfl
    rcases h.row.2 with ⟨e, h0⟩ | ⟨g', cap, cur, e, _⟩
    · omega
    · cases e
  · obtain ⟨a, cap, e, h1, h2, h3, h4⟩ := SR.owns h.row
    injection e with e1 e2 e3
    subst e1 e3
    rcases h4 with h4 | ⟨b, off, rfl, hb, hc⟩
    · rcases h.row.2 with ⟨e, h0⟩ | ⟨g', cap, cur, e, hb, hg, -⟩
      · injection e with e1; exact .inl e1
      · injection e with e1
        subst e1
        refine .inr ⟨g', 0, rfl, by simpa [World.setCell] using lt_heap hg, fun j u hj => ?_⟩
        have := (List.getElem?_eq_some_iff.1 hj).1
        rw [enCells_len] at this
        omega
    · refine .inr ⟨b, off, rfl, by simpa [World.setCell] using hb, fun j u hj => ?_⟩
      have hbg : b ≠ g := fun e => hro (by rw [e]; rfl)
      exact (World.cell?_of_block (a := ⟨b, off + j, none⟩) (hset b hbg)).trans (hc j u hj)
  · rintro rfl
    rw [h.obj] at hb
    injection hb with hb
    injection hb with _ h2
    exact absurd h2 (by decide)
theorem only_set {w : World} {g : Nat} {v : Value} : Only g w (w.setCell ⟨g, 2, none⟩ v) := (Only.refl _ _).set 2 v
/-- an entry's lists do not lie in this block -/
def EN.far (e : EN) (g : Nat) : Prop := (∀ k, (Value.slice e.a1 e.c.M.length e.q1).ownBlock = some k → k ≠ g) ∧ ∀ k, (Value.slice e.a2 e.c.C.length e.q2).ownBlock = some k → k ≠ g
theorem srFar {w w' : World} {b size n : Nat} {v : Value} {xs : List Value} (h : SR w v size n xs) (ho : Only b w w') (hne : ∀ k, v.ownBlock = some k → k ≠ b) : SR w' v size n xs := by
  obtain ⟨a, cap, rfl, h1, h2, h3, h4⟩ := h
  refine ⟨a, cap, rfl, h1, h2, h3, h4.imp id ?_⟩
  rintro ⟨g, off, rfl, hb, hc⟩
  exact ⟨g, off, rfl, Nat.lt_of_lt_of_le hb ho.size, fun j u hj => (World.cell?_of_block (a := ⟨g, off + j, none⟩) (ho.block g hb (hne g rfl))).trans (hc j u hj)⟩
theorem atF {e : EN} {w : World} {g : Nat} {v : Value} (h : e.at_ w) (hf : e.far g) : e.at_ (w.setCell ⟨g, 2, none⟩ v) := ⟨srFar h.1 only_set hf.1, srFar h.2 only_set hf.2⟩
set_option maxHeartbeats 3200000 in
set_option maxRecDepth 100000 in
theorem rlayE (e : EN) (w : World) (ha : e.at_ w) (hs : short e.c) (hm : mayE e.t e.x e.c = true) (N g : Nat) (hf : e.far g) (v : Value) (ts : List EN) (h : LogE w N g v ts) (hl : ts.length < 300) :
    Calls Try.prog 99 #[.pointer (some ⟨g, 0, none⟩), .int .i64 ((ts.length : Int) + 1), .agg #[.int .i64 e.t, .int .i64 e.x, .int .i64 e.c.e, .int .i64 e.c.b, .int .i64 e.c.k, .slice e.a1 e.c.M.length e.q1, .slice e.a2 e.c.C.length e.q2]] w fun ev w' => ev = .returned (.bool true) ∧ ∃ b1 p1 b2 p2 v', LogE w' N g v' (ts ++ [⟨e.t, e.x, e.c, b1, p1, b2, p2⟩]) ∧ Only g w w' := by
  obtain ⟨n, hn⟩ : ∃ n, ts.length = n := ⟨_, rfl⟩
  have hcase : v = .slice none 0 0 ∧ n = 0 ∨ ∃ b c, v = .slice (some ⟨b, 0, none⟩) n c ∧ n ≤ c ∧ c ≤ maxLen := by
    rcases h.row.2 with ⟨e, h0⟩ | ⟨b, c, cur, e, _, _, h1, h2, _⟩
    · exact .inl ⟨e, by omega⟩
    · exact .inr ⟨b, c, by rw [e, hn], by omega, h2⟩
  have hx := heap_alloc_self w (.cells #[.int .i64 e.t, .int .i64 e.x, .int .i64 e.c.e, .int .i64 e.c.b, .int .i64 e.c.k, .slice e.a1 e.c.M.length e.q1, .slice e.a2 e.c.C.length e.q2] 52)
  have hb : Below w.heap.size w (w.alloc (.cells #[.int .i64 e.t, .int .i64 e.x, .int .i64 e.c.e, .int .i64 e.c.b, .int .i64 e.c.k, .slice e.a1 e.c.M.length e.q1, .slice e.a2 e.c.C.length e.q2] 52)) := (Below.refl _ _).alloc (Nat.le_refl _) _
  have h1 := h.below hb
  have ha1 := EN.at_.below ha hb
  have hgs := lt_heap h.obj
  have hng : w.heap.size ≠ g := by omega
  have HN := Lib.hid hn
  rw [hn] at hl
  rw [hn]
  obtain ⟨P, hP⟩ : ∃ P : Int, P = (n : Int) + 1 := ⟨_, rfl⟩
  obtain ⟨Q, hQ⟩ : ∃ P : Int, P = (n : Int) := ⟨_, rfl⟩
  rw [← hP]
  have hat : ¬ (P ≤ Q) := by omega
  have hatd : decide (P ≤ Q) = false := by simpa using hat
  have HPQ := Lib.hid (And.intro hP hQ)
  clear hP
  have HF0 := Lib.hid hf
  clear hn h ha hf
  go_enter Try.func99, Try.ntmps99
  go_upto_region 1 with fail
  generalize w.alloc (.cells #[.int .i64 e.t, .int .i64 e.x, .int .i64 e.c.e, .int .i64 e.c.b, .int .i64 e.c.k, .slice e.a1 e.c.M.length e.q1, .slice e.a2 e.c.C.length e.q2] 52) = w1 at *
  have cl := rlenE w1.drew N g v ts (h1.below (below_drew' (Below.refl _ _))) (by have := HN.out; omega)
  rw [HN.out, ← hQ] at cl
  clear hQ
  have HX := Lib.hid (And.intro hx (And.intro hb (And.intro h1 ha1)))
  have HC := Lib.hid hcase
  clear hx hb h1 ha1 hcase
  refine wp_region_held_drew (S := fun _ => True) (by kernel_rfl) trivial (fun hHeld => ?_)
  refine wpAnyH_take (i := 0) (oi := { dst := some 10, op := Go.Op.move (Go.Operand.tmp 1), type := 3, pos := "rlog.go:110", after := #[], guard := none }) (v := ?v0) rfl (by kernel_rfl) (by kernel_rfl) (by kernel_rfl) (fun _ _ _ h => h) (Or.inl ⟨by rfl, ?y0⟩) (by assumption) ?r0
  case y0 => (intro w hSw; (try dsimp only at hSw); go_simp; try with_reducible rfl)
  try simp only [Act.put, List.setIfInBounds_toArray, List.set_cons_zero, List.set_cons_succ]
  refine wpAnyH_take (i := 1) (oi := { dst := some 11, op := Go.Op.move (Go.Operand.tmp 0), type := 68, pos := "rlog.go:110", after := #[], guard := none }) (v := ?v1) rfl (by kernel_rfl) (by kernel_rfl) (by kernel_rfl) (fun _ _ _ h => h) (Or.inl ⟨by rfl, ?y1⟩) (by assumption) ?r1
  case y1 => (intro w hSw; (try dsimp only at hSw); go_simp; try with_reducible rfl)
  try simp only [Act.put, List.setIfInBounds_toArray, List.set_cons_zero, List.set_cons_succ]
  refine wpAnyH_ready (rs := [2]) (by kernel_rfl) (by simp) ?_
  refine AllReadyH.cons (o := { dst := some 12, op := Go.Op.call { callee := Go.Callee.value (Go.Operand.func 49), args := #[Go.Operand.tmp 11], argTypes := #[68] }, type := 3, pos := "rlog.go:110", after := #[{ on := 1, ground := Go.Ground.data }], guard := none }) rfl (fun K hK => ?_) AllReadyH.nil
  go_simp
  go_at_call 49
  refine Calls.mono cl ?_
  rintro ev w2 ⟨rfl, q, rfl⟩
  try simp only []
  refine hK.out _ _ trivial (fun hHeld2 => ?_)
  clear hK K
  try simp only [Act.put, List.setIfInBounds_toArray, List.set_cons_zero, List.set_cons_succ]
  refine wpAnyH_take (i := 3) (oi := { dst := some 13, op := Go.Op.binOp Go.BinOp.leq 3 (Go.Operand.tmp 10) (Go.Operand.tmp 12) 3, type := 4, pos := "rlog.go:110", after := #[{ on := 0, ground := Go.Ground.data }, { on := 2, ground := Go.Ground.data }], guard := none }) (v := ?v3) rfl (by kernel_rfl) (by kernel_rfl) (by kernel_rfl) (fun _ _ _ h => h) (Or.inl ⟨by rfl, ?y3⟩) (by assumption) ?r3
  case y3 => (intro w hSw; (try dsimp only at hSw); go_simp; try with_reducible rfl)
  try simp only [Act.put, List.setIfInBounds_toArray, List.set_cons_zero, List.set_cons_succ]
  refine wpAnyH_take (i := 4) (oi := { dst := some 14, op := Go.Op.move (Go.Operand.tmp 13), type := 4, pos := "rlog.go:110", after := #[{ on := 3, ground := Go.Ground.data }, { on := 2, ground := Go.Ground.chain }], guard := none }) (v := ?v4) rfl (by kernel_rfl) (by kernel_rfl) (by kernel_rfl) (fun _ _ _ h => h) (Or.inl ⟨by rfl, ?y4⟩) (by assumption) ?r4
  case y4 => (intro w hSw; (try dsimp only at hSw); go_simp; try with_reducible rfl)
  try simp only [Act.put, List.setIfInBounds_toArray, List.set_cons_zero, List.set_cons_succ]
  refine wpAnyH_take (i := 5) (oi := { dst := some 15, op := Go.Op.move (Go.Operand.tmp 0), type := 68, pos := "rlog.go:110", after := #[{ on := 4, ground := Go.Ground.guard }], guard := some (4, true) }) (v := undef) rfl (by kernel_rfl) (by kernel_rfl) (by kernel_rfl) (fun _ _ _ h => h) (Or.inr ⟨by rfl, rfl⟩) (by assumption) ?_
  try simp only [Act.put, List.setIfInBounds_toArray, List.set_cons_zero, List.set_cons_succ]
  refine wpAnyH_take (i := 6) (oi := { dst := some 16, op := Go.Op.move (Go.Operand.tmp 1), type := 3, pos := "rlog.go:110", after := #[{ on := 4, ground := Go.Ground.guard }], guard := some (4, true) }) (v := undef) rfl (by kernel_rfl) (by kernel_rfl) (by kernel_rfl) (fun _ _ _ h => h) (Or.inr ⟨by rfl, rfl⟩) (by assumption) ?_
  try simp only [Act.put, List.setIfInBounds_toArray, List.set_cons_zero, List.set_cons_succ]
  refine wpAnyH_take (i := 7) (oi := { dst := some 17, op := Go.Op.call { callee := Go.Callee.value (Go.Operand.func 50), args := #[Go.Operand.tmp 15, Go.Operand.tmp 16], argTypes := #[68, 3] }, type := 3, pos := "rlog.go:110", after := #[{ on := 5, ground := Go.Ground.data }, { on := 6, ground := Go.Ground.data }, { on := 4, ground := Go.Ground.chain }, { on := 4, ground := Go.Ground.guard }], guard := some (4, true) }) (v := undef) rfl (by kernel_rfl) (by kernel_rfl) (by kernel_rfl) (fun _ _ _ h => h) (Or.inr ⟨by rfl, rfl⟩) (by assumption) ?_
  try simp only [Act.put, List.setIfInBounds_toArray, List.set_cons_zero, List.set_cons_succ]
  refine wpAnyH_take (i := 8) (oi := { dst := some 18, op := Go.Op.fieldAddr 52 (Go.Operand.tmp 5) 0, type := 0, pos := "rlog.go:110", after := #[{ on := 4, ground := Go.Ground.guard }], guard := some (4, true) }) (v := undef) rfl (by kernel_rfl) (by kernel_rfl) (by kernel_rfl) (fun _ _ _ h => h) (Or.inr ⟨by rfl, rfl⟩) (by assumption) ?_
  try simp only [Act.put, List.setIfInBounds_toArray, List.set_cons_zero, List.set_cons_succ]
  refine wpAnyH_take (i := 9) (oi := { dst := some 19, op := Go.Op.load 3 (Go.Operand.tmp 18), type := 3, pos := "rlog.go:110", after := #[{ on := 8, ground := Go.Ground.data }, { on := 4, ground := Go.Ground.guard }], guard := some (4, true) }) (v := undef) rfl (by kernel_rfl) (by kernel_rfl) (by kernel_rfl) (fun _ _ _ h => h) (Or.inr ⟨by rfl, rfl⟩) (by assumption) ?_
  try simp only [Act.put, List.setIfInBounds_toArray, List.set_cons_zero, List.set_cons_succ]
  refine wpAnyH_take (i := 10) (oi := { dst := some 20, op := Go.Op.binOp Go.BinOp.eql 3 (Go.Operand.tmp 17) (Go.Operand.tmp 19) 3, type := 4, pos := "rlog.go:110", after := #[{ on := 7, ground := Go.Ground.data }, { on := 9, ground := Go.Ground.data }, { on := 4, ground := Go.Ground.guard }], guard := some (4, true) }) (v := undef) rfl (by kernel_rfl) (by kernel_rfl) (by kernel_rfl) (fun _ _ _ h => h) (Or.inr ⟨by rfl, rfl⟩) (by assumption) ?_
  try simp only [Act.put, List.setIfInBounds_toArray, List.set_cons_zero, List.set_cons_succ]
  refine wpAnyH_take (i := 11) (oi := { dst := some 21, op := Go.Op.pick (Go.Operand.tmp 14) (Go.Operand.tmp 20) (Go.Operand.const (Go.Value.bool false)), type := 4, pos := "rlog.go:110", after := #[{ on := 4, ground := Go.Ground.data }, { on := 10, ground := Go.Ground.data }], guard := none }) (v := ?v11) rfl (by kernel_rfl) (by kernel_rfl) (by kernel_rfl) (fun _ _ _ h => h) (Or.inl ⟨by rfl, ?y11⟩) (by assumption) ?r11
  case y11 => (intro w hSw; (try dsimp only at hSw); go_simp; try with_reducible rfl)
  try simp only [Act.put, List.setIfInBounds_toArray, List.set_cons_zero, List.set_cons_succ]
  refine wpAnyH_done (by kernel_rfl) ?_ _
  have hs2 : Below w1.heap.size w1 (w1.drew.drewN q) := below_drewN' (below_drew' (Below.refl _ _)) q
  generalize w1.drew.drewN q = w2 at *
  clear cl hat hatd hHeld
  have hx := below_at hs2 (lt_heap HX.out.1) HX.out.1
  have hb := HX.out.2.1.trans (hs2.mono HX.out.2.1.size)
  have h1 := HX.out.2.2.1.below hs2
  have ha1 := EN.at_.below HX.out.2.2.2 hs2
  clear HX
  clear hs2
  obtain ⟨hP, hQ⟩ := HPQ.out
  clear HPQ
  subst hP hQ
  have d0 := cell_atD hx 0 (v := .int .i64 e.t) rfl
  have d1 := cell_atD hx 1 (v := .int .i64 e.x) rfl
  have d2 := cell_atD hx 2 (v := .int .i64 e.c.e) rfl
  have d3 := cell_atD hx 3 (v := .int .i64 e.c.b) rfl
  have d4 := cell_atD hx 4 (v := .int .i64 e.c.k) rfl
  have d5 := cell_atD hx 5 (v := .slice e.a1 e.c.M.length e.q1) rfl
  have d6 := cell_atD hx 6 (v := .slice e.a2 e.c.C.length e.q2) rfl
  have ce := emayE e.t e.x e.c e.a1 e.a2 e.q1 e.q2 w2 ha1
  rw [hm] at ce
  have HM := Lib.hid hm
  clear hm
  have HX := Lib.hid (And.intro hx (And.intro hb (And.intro h1 ha1)))
  clear hx hb h1 ha1
  go_wp2_with fail
  refine Calls.mono ce ?_
  rintro ev w3 ⟨rfl, hs3⟩
  clear ce d0 d1 d2 d3 d4 d5 d6
  have hx := below_at hs3 (lt_heap HX.out.1) HX.out.1
  have hb := HX.out.2.1.trans (hs3.mono HX.out.2.1.size)
  have h1 := HX.out.2.2.1.below hs3
  have ha1 := EN.at_.below HX.out.2.2.2 hs3
  clear HX
  clear hs3
  obtain ⟨g0, g1, g2, gf⟩ := h1.cells
  have HX := Lib.hid (And.intro hx (And.intro hb (And.intro h1 ha1)))
  clear hx hb h1 ha1
  have hgi := hgs
  rcases HC.out with ⟨rfl, rfl⟩ | ⟨b, c, rfl, hnc, hcm⟩
  · clear HC
    go_upto_region 7 with fail
    have hF := logF_of HX.out.2.2.1 (n := 0) (by have := HN.out; omega)
    have hO : Only g w (w3.setCell ⟨g, 2, none⟩ (.slice none 0 0)) := (onlyB HX.out.2.1).trans only_set
    have hat : EN.at_ e (w3.setCell ⟨g, 2, none⟩ (.slice none 0 0)) := atF HX.out.2.2.2 HF0.out
    have hxs : (w3.setCell ⟨g, 2, none⟩ (.slice none 0 0)).heap[w.heap.size]? = some _ := (heap_setCell_other _ _ _ _ hng).trans HX.out.1
    generalize w3.setCell ⟨g, 2, none⟩ (.slice none 0 0) = w4 at *
    have d0 := cell_atD hxs 0 (v := .int .i64 e.t) rfl
    have d1 := cell_atD hxs 1 (v := .int .i64 e.x) rfl
    have d2 := cell_atD hxs 2 (v := .int .i64 e.c.e) rfl
    have d3 := cell_atD hxs 3 (v := .int .i64 e.c.b) rfl
    have d4 := cell_atD hxs 4 (v := .int .i64 e.c.k) rfl
    have d5 := cell_atD hxs 5 (v := .slice e.a1 e.c.M.length e.q1) rfl
    have d6 := cell_atD hxs 6 (v := .slice e.a2 e.c.C.length e.q2) rfl
    have ca := raddF e w4 hat hs HM.out N g _ _ ts hF (by have := HN.out; omega) (by omega)
    have HO := Lib.hid hO
    clear hO hF hat hxs g0 g1 g2 gf HX
    go_wp2_with fail
    refine Calls.mono ca ?_
    rintro ev w5 ⟨rfl, b1, p1, b2, p2, v', hL, hO5⟩
    have HL := Lib.hid (And.intro hL (HO.out.trans hO5))
    clear hL hO5 ca d0 d1 d2 d3 d4 d5 d6
    go_wp2_with fail
    go_ret
    exact ⟨ret_bool rfl, b1, p1, b2, p2, v', HL.out.1, HL.out.2⟩
  · clear HC
    unfold maxLen at hcm
    go_upto_region 7 with fail
    have hF := logF_of HX.out.2.2.1 (n := n) (by have := HN.out; omega)
    have hO : Only g w (w3.setCell ⟨g, 2, none⟩ (.slice (some ⟨b, 0, none⟩) n n)) := (onlyB HX.out.2.1).trans only_set
    have hat : EN.at_ e (w3.setCell ⟨g, 2, none⟩ (.slice (some ⟨b, 0, none⟩) n n)) := atF HX.out.2.2.2 HF0.out
    have hxs : (w3.setCell ⟨g, 2, none⟩ (.slice (some ⟨b, 0, none⟩) n n)).heap[w.heap.size]? = some _ := (heap_setCell_other _ _ _ _ hng).trans HX.out.1
    generalize w3.setCell ⟨g, 2, none⟩ (.slice (some ⟨b, 0, none⟩) n n) = w4 at *
    have d0 := cell_atD hxs 0 (v := .int .i64 e.t) rfl
    have d1 := cell_atD hxs 1 (v := .int .i64 e.x) rfl
    have d2 := cell_atD hxs 2 (v := .int .i64 e.c.e) rfl
    have d3 := cell_atD hxs 3 (v := .int .i64 e.c.b) rfl
    have d4 := cell_atD hxs 4 (v := .int .i64 e.c.k) rfl
    have d5 := cell_atD hxs 5 (v := .slice e.a1 e.c.M.length e.q1) rfl
    have d6 := cell_atD hxs 6 (v := .slice e.a2 e.c.C.length e.q2) rfl
    have ca := raddF e w4 hat hs HM.out N g _ _ ts hF (by have := HN.out; omega) (by omega)
    have HO := Lib.hid hO
    clear hO hF hat hxs g0 g1 g2 gf HX
    go_wp2_with fail
    refine Calls.mono ca ?_
    rintro ev w5 ⟨rfl, b1, p1, b2, p2, v', hL, hO5⟩
    have HL := Lib.hid (And.intro hL (HO.out.trans hO5))
    clear hL hO5 ca d0 d1 d2 d3 d4 d5 d6
    go_wp2_with fail
    go_ret
    exact ⟨ret_bool rfl, b1, p1, b2, p2, v', HL.out.1, HL.out.2⟩
end Go.Proofs.Ytlhjgpedmnjbpaa
