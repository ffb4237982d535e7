/-
  A log whose entries fill their row: Add, where what is laid goes into a new row.
-/
import Derived.Test.YtkdmnhmlkcejfaaRlh
import Derived.Deep.RegionLawGrows
namespace Go.Proofs.Ytkdmnhmlkcejfaa
open Go.RowKit
set_option linter.unusedVariables false
set_option linter.unusedSimpArgs false

theorem enCells_len (es : List EN) : (enCells es).length = es.length * 7 := by
  induction es with
  | nil => rfl
  | cons x t ih => simp only [enCells, List.flatMap_cons, List.length_append] at ih ⊢; rw [ih]; simp [EN.cells]; omega
/-- a log behind no place whose slice has no room -/
structure LogF (w : World) (N g : Nat) (ao : Option Addr) (n : Nat) (es : List EN) : Prop where
  low : N ≤ g
  obj : w.heap[g]? = some (.cells #[.int .i64 0, .int .i64 0, .slice ao n n] 70)
  nn : ao = none → n = 0
  rd : ao = none ∨ ∃ b off, ao = some ⟨b, off, none⟩ ∧ b < w.heap.size ∧ ∀ (j : Nat) u, (enCells es)[j]? = some u → w.cell? ⟨b, off + j, none⟩ = some u
  lists : ∀ e ∈ es, e.own N w
theorem LogF.below {w w' : World} {N g n : Nat} {ao : Option Addr} {ts : List EN} (h : LogF w N g ao n ts) (hb : Below w.heap.size w w') : LogF w' N g ao n ts :=
  ⟨h.low, below_at hb (lt_heap h.obj) h.obj, h.nn, h.rd.imp id fun ⟨b, off, e, hl, hc⟩ => ⟨b, off, e, Nat.lt_of_lt_of_le hl hb.size, fun j u hj => (hb.cell (p := ⟨b, off + j, none⟩) hl).trans (hc j u hj)⟩, fun e he => CFO.below (h.lists e he) hb⟩
theorem LogF.cells {w : World} {N g n : Nat} {ao : Option Addr} {ts : List EN} (h : LogF w N g ao n ts) : w.cell? ⟨g, 0, none⟩ = some (.int .i64 0) ∧ w.cell? ⟨g, 1, none⟩ = some (.int .i64 0) ∧ w.cell? ⟨g, 2, none⟩ = some (.slice ao n n) ∧ w.frozen? ⟨g, 2, none⟩ = false :=
  ⟨cell_atD h.obj 0 rfl, cell_atD h.obj 1 rfl, cell_atD h.obj 2 rfl, by have := h.obj; simp [World.frozen?, this]⟩
theorem LogF.le {w : World} {N g n : Nat} {ao : Option Addr} {ts : List EN} (h : LogF w N g ao n ts) : N ≤ w.heap.size := Nat.le_trans h.low (Nat.le_of_lt (lt_heap h.obj))
theorem LogF.lts {w : World} {N g n : Nat} {ao : Option Addr} {ts : List EN} (h : LogF w N g ao n ts) : ∀ b, ((∃ off, ao = some ⟨b, off, none⟩) ∨ ∃ e ∈ ts, (Value.slice e.a1 e.c.M.length e.q1).ownBlock = some b ∨ (Value.slice e.a2 e.c.C.length e.q2).ownBlock = some b) → b < w.heap.size := by
  rintro b (⟨off, rfl⟩ | ⟨e, he, q | q⟩)
  · rcases h.rd with q | ⟨b', off', e, hl, -⟩
    · cases q
    · cases e; exact hl
  · obtain ⟨c, hc⟩ := own_typeN (h.lists e he).1 q; exact lt_heap hc
  · obtain ⟨c, hc⟩ := own_typeN (h.lists e he).2 q; exact lt_heap hc
theorem LogF.only2 {w w' : World} {N g y n : Nat} {ao : Option Addr} {ts : List EN} (h : LogF w N g ao n ts) (ho : Only y w w') (h1 : y ≠ g) (h2 : ∀ b, ((∃ off, ao = some ⟨b, off, none⟩) ∨ ∃ e ∈ ts, (Value.slice e.a1 e.c.M.length e.q1).ownBlock = some b ∨ (Value.slice e.a2 e.c.C.length e.q2).ownBlock = some b) → b ≠ y) : LogF w' N g ao n ts :=
  ⟨h.low, (ho.block g (lt_heap h.obj) (Ne.symm h1)).trans h.obj, h.nn, h.rd.imp id fun ⟨b, off, e, hl, hc⟩ => ⟨b, off, e, Nat.lt_of_lt_of_le hl ho.size, fun j u hj => (World.cell?_of_block (a := ⟨b, off + j, none⟩) (ho.block b hl (h2 b (.inl ⟨off, e⟩)))).trans (hc j u hj)⟩,
   fun e he => ⟨own_moveN (h.lists e he).1 fun b q => by obtain ⟨c, hc⟩ := own_typeN (h.lists e he).1 q; exact ho.block b (lt_heap hc) (h2 b (.inr ⟨e, he, .inl q⟩)), own_moveN (h.lists e he).2 fun b q => by obtain ⟨c, hc⟩ := own_typeN (h.lists e he).2 q; exact ho.block b (lt_heap hc) (h2 b (.inr ⟨e, he, .inr q⟩))⟩⟩
theorem holdsF {w : World} {N g n : Nat} {ao : Option Addr} {ts : List EN} {o : Obj} (h : LogF w N g ao n ts) : ∀ b, ao = some b → ∀ (j : Nat) u, (enCells ts)[j]? = some u → (w.drew.alloc o).cell? (b.add j) = some u := by
  rintro b rfl j u hj
  rcases h.rd with q | ⟨b', off', e, hl, hc⟩
  · cases q
  · cases e
    rw [add_off]
    exact (World.cell?_alloc_lt w.drew _ ⟨b', off' + j, none⟩ hl).trans (hc j u hj)
theorem litF (w : World) (e : EN) (t : TypeId) : ∀ (j : Nat) u, (enCells [e])[j]? = some u → (w.alloc (.cells #[.int .i64 e.t, .int .i64 e.x, .int .i64 e.c.e, .int .i64 e.c.b, .int .i64 e.c.k, .slice e.a1 e.c.M.length e.q1, .slice e.a2 e.c.C.length e.q2] t)).cell? ((⟨w.heap.size, 0, none⟩ : Addr).add j) = some u := by
  intro j u hj
  rw [add_off, Nat.zero_add]
  have hx := heap_alloc_self w (.cells #[.int .i64 e.t, .int .i64 e.x, .int .i64 e.c.e, .int .i64 e.c.b, .int .i64 e.c.k, .slice e.a1 e.c.M.length e.q1, .slice e.a2 e.c.C.length e.q2] t)
  simp only [World.cell?, hx]
  simpa [enCells, EN.cells] using hj
theorem onlyB {y : Nat} {w w' : World} (h : Below w.heap.size w w') : Only y w w' := ⟨h.os, h.tape, h.output, h.size, fun k hk _ => h.block k hk⟩
theorem onlyN {y : Nat} {w w' : World} (h : Only y w w') (q : Nat) : Only y w (w'.drewN q) := ⟨h.os, h.tape, h.output, h.size, h.block⟩
theorem logF_put {w w2 : World} {N g n : Nat} {ao : Option Addr} {v2 : Value} {ts : List EN} {o : Obj} {t : EN} (h : LogF w N g ao n ts) (ht : t.own N w) (hn : ts.length = n) (own2 : w2.ownsRow (w.alloc o).heap.size 46 7 v2 (n + 1) (enCells ts ++ enCells [t])) (hg : (w.alloc o).grownBy w2 none) :
    w2.heap[g]? = some (.cells #[.int .i64 0, .int .i64 0, .slice ao n n] 70) ∧ LogE (w2.setCell ⟨g, 2, none⟩ v2) N g v2 (ts ++ [t]) ∧ Only g w (w2.setCell ⟨g, 2, none⟩ v2) := by
  have hlt := lt_heap h.obj
  have hb0 : Below w.heap.size w w2 := ⟨hg.os, hg.tape, hg.output, Nat.le_trans (by simp) hg.size, fun k hk => (hg.block k (by simp; omega) (by simp)).trans (Below.heap_alloc _ _ _ hk)⟩
  have hobj2 := below_at hb0 hlt h.obj
  have v2o := row_otherE own2 hobj2 (by decide)
  have hset : ∀ k, k ≠ g → (w2.setCell ⟨g, 2, none⟩ v2).heap[k]? = w2.heap[k]? := fun k hk => heap_setCell_other _ _ _ _ hk
  have hgp : w2.grownBy (w2.setCell ⟨g, 2, none⟩ v2) (some g) := ⟨rfl, rfl, rfl, by simp, fun k _ hk => hset k (fun e => hk (by rw [e]))⟩
  have hmv : ∀ (b : Nat) (c : Array Value), w.heap[b]? = some (.cells c 3) → (w2.setCell ⟨g, 2, none⟩ v2).heap[b]? = w.heap[b]? := by
    intro b c hb
    have n1 : b ≠ g := by
      rintro rfl
      rw [h.obj] at hb
      injection hb with hb
      injection hb with _ h2
      exact absurd h2 (by decide)
    exact (hset b n1).trans (hb0.block b (lt_heap hb))
  refine ⟨hobj2, ⟨h.low, (heap_setCell_same _ _ _ _ _ _ hobj2).trans rfl, ?_, ?_⟩, ?_⟩
  · have := (owns_baseD own2 (show N ≤ (w.alloc o).heap.size by have := h.le; simp; omega)).kept hgp (.inr v2o)
    rw [List.length_append, hn, ← enCells_append]
    exact this
  · intro e he
    rcases List.mem_append.1 he with q | q
    · exact EN.own.move (h.lists e q) hmv
    · rw [List.mem_singleton.1 q]
      exact EN.own.move ht hmv
  · exact ⟨hb0.os, hb0.tape, hb0.output, by simpa [World.setCell] using hb0.size, fun k hk hne => (hset k hne).trans (hb0.block k hk)⟩
set_option maxHeartbeats 6400000 in
set_option maxRecDepth 100000 in
theorem raddF (e : EN) (w : World) (ha : e.at_ w) (hs : short e.c) (hm : mayE e.t e.x e.c = true) (N g : Nat) (ao : Option Addr) (n : Nat) (ts : List EN) (h : LogF w N g ao n ts) (hn : ts.length = n) (hl : n < 300) :
    Calls Try.prog 15 #[.pointer (some ⟨g, 0, none⟩), .agg #[.int .i64 e.t, .int .i64 e.x, .int .i64 e.c.e, .int .i64 e.c.b, .int .i64 e.c.k, .slice e.a1 e.c.M.length e.q1, .slice e.a2 e.c.C.length e.q2]] w fun ev w' => ev = .returned (.tuple #[.int .i64 ((n : Int) + 1), .bool true]) ∧ ∃ b1 p1 b2 p2 v', LogE w' N g v' (ts ++ [⟨e.t, e.x, e.c, b1, p1, b2, p2⟩]) ∧ Only g w w' := by
  obtain ⟨i0, hi, hz0, hz1, hz2⟩ := info_parts einfoN
  have hb := (Below.refl w.heap.size w).alloc (Nat.le_refl _) (.cells #[.int .i64 e.t, .int .i64 e.x, .int .i64 e.c.e, .int .i64 e.c.b, .int .i64 e.c.k, .slice e.a1 e.c.M.length e.q1, .slice e.a2 e.c.C.length e.q2] 46)
  have hx := heap_alloc_self w (.cells #[.int .i64 e.t, .int .i64 e.x, .int .i64 e.c.e, .int .i64 e.c.b, .int .i64 e.c.k, .slice e.a1 e.c.M.length e.q1, .slice e.a2 e.c.C.length e.q2] 46)
  have h1 := h.below hb
  have ha1 := CFat.below ha hb
  have HU := Lib.hid (And.intro (lt_heap h.obj) h.lts)
  have HW := Lib.hid (And.intro h.le h.low)
  clear h ha
  go_enter Try.func15, Try.ntmps15
  go_upto_region 1 with fail
  generalize w.alloc (.cells #[.int .i64 e.t, .int .i64 e.x, .int .i64 e.c.e, .int .i64 e.c.b, .int .i64 e.c.k, .slice e.a1 e.c.M.length e.q1, .slice e.a2 e.c.C.length e.q2] 46) = w1 at *
  have d0 := cell_atD hx 0 (v := .int .i64 e.t) rfl
  have d1 := cell_atD hx 1 (v := .int .i64 e.x) rfl
  have d2 := cell_atD hx 2 (v := .int .i64 e.c.e) rfl
  have d3 := cell_atD hx 3 (v := .int .i64 e.c.b) rfl
  have d4 := cell_atD hx 4 (v := .int .i64 e.c.k) rfl
  have d5 := cell_atD hx 5 (v := .slice e.a1 e.c.M.length e.q1) rfl
  have d6 := cell_atD hx 6 (v := .slice e.a2 e.c.C.length e.q2) rfl
  obtain ⟨g0, g1, g2, gf⟩ := h1.cells
  have ce := emayE e.t e.x e.c e.a1 e.a2 e.q1 e.q2 w1 ha1
  rw [hm] at ce
  have HX := Lib.hid (And.intro hx (And.intro hb (And.intro h1 ha1)))
  have HN := Lib.hid hn
  have HM := Lib.hid hm
  clear hx hb h1 ha1 hn hm
  go_wp2_with fail
  refine Calls.mono ce ?_
  rintro ev w2 ⟨rfl, h2⟩
  have hx := below_at h2 (lt_heap HX.out.1) HX.out.1
  have hb := HX.out.2.1.trans (h2.mono HX.out.2.1.size)
  have h3 := HX.out.2.2.1.below h2
  have ha := CFat.below HX.out.2.2.2 h2
  clear d0 d1 d2 d3 d4 d5 d6 h2 HX g0 g1 g2 gf ce
  have d0 := cell_atD hx 0 (v := .int .i64 e.t) rfl
  have d1 := cell_atD hx 1 (v := .int .i64 e.x) rfl
  have d2 := cell_atD hx 2 (v := .int .i64 e.c.e) rfl
  have d3 := cell_atD hx 3 (v := .int .i64 e.c.b) rfl
  have d4 := cell_atD hx 4 (v := .int .i64 e.c.k) rfl
  have d5 := cell_atD hx 5 (v := .slice e.a1 e.c.M.length e.q1) rfl
  have d6 := cell_atD hx 6 (v := .slice e.a2 e.c.C.length e.q2) rfl
  obtain ⟨g0, g1, g2, gf⟩ := h3.cells
  have co := ocmd e.x e.c e.a1 e.a2 e.q1 e.q2 w2 ha hs
  have HX := Lib.hid (And.intro hx (And.intro hb (And.intro h3 ha)))
  have hzs : w.heap.size + 1 ≤ w2.heap.size := by have := lt_heap hx; omega
  clear hx hb h3 ha
  go_wp2_with fail
  refine Calls.mono co ?_
  rintro ev w3 ⟨b1, p1, b2, p2, rfl, ho, h2⟩
  replace ho := CFO.base ho hzs
  have hx := below_at h2 (lt_heap HX.out.1) HX.out.1
  have hb := HX.out.2.1.trans (h2.mono HX.out.2.1.size)
  have h3 := HX.out.2.2.1.below h2
  have ha := CFat.below HX.out.2.2.2 h2
  have hzs3 : w.heap.size + 1 ≤ w3.heap.size := Nat.le_trans hzs h2.size
  clear d0 d1 d2 d3 d4 d5 d6 h2 HX g0 g1 g2 gf co hzs ha
  have d0 := cell_atD hx 0 (v := .int .i64 e.t) rfl
  have d1 := cell_atD hx 1 (v := .int .i64 e.x) rfl
  have d2 := cell_atD hx 2 (v := .int .i64 e.c.e) rfl
  have d3 := cell_atD hx 3 (v := .int .i64 e.c.b) rfl
  have d4 := cell_atD hx 4 (v := .int .i64 e.c.k) rfl
  have d5 := cell_atD hx 5 (v := .slice e.a1 e.c.M.length e.q1) rfl
  have d6 := cell_atD hx 6 (v := .slice e.a2 e.c.C.length e.q2) rfl
  have fz : ∀ i, w3.frozen? ⟨w.heap.size, i, none⟩ = false := fun i => by simp [World.frozen?, hx]
  have k1 : (w3.setCell ⟨w.heap.size, 1, none⟩ (.int .i64 e.x)).heap[w.heap.size]? = some (.cells #[.int .i64 e.t, .int .i64 e.x, .int .i64 e.c.e, .int .i64 e.c.b, .int .i64 e.c.k, .slice e.a1 e.c.M.length e.q1, .slice e.a2 e.c.C.length e.q2] 46) := heap_set_self hx 1 _
  have k2 : ((w3.setCell ⟨w.heap.size, 1, none⟩ (.int .i64 e.x)).setCell ⟨w.heap.size, 2, none⟩ (.int .i64 e.c.e)).heap[w.heap.size]? = some (.cells #[.int .i64 e.t, .int .i64 e.x, .int .i64 e.c.e, .int .i64 e.c.b, .int .i64 e.c.k, .slice e.a1 e.c.M.length e.q1, .slice e.a2 e.c.C.length e.q2] 46) := heap_set_self k1 2 _
  have k3 : (((w3.setCell ⟨w.heap.size, 1, none⟩ (.int .i64 e.x)).setCell ⟨w.heap.size, 2, none⟩ (.int .i64 e.c.e)).setCell ⟨w.heap.size, 3, none⟩ (.int .i64 e.c.b)).heap[w.heap.size]? = some (.cells #[.int .i64 e.t, .int .i64 e.x, .int .i64 e.c.e, .int .i64 e.c.b, .int .i64 e.c.k, .slice e.a1 e.c.M.length e.q1, .slice e.a2 e.c.C.length e.q2] 46) := heap_set_self k2 3 _
  have k4 : ((((w3.setCell ⟨w.heap.size, 1, none⟩ (.int .i64 e.x)).setCell ⟨w.heap.size, 2, none⟩ (.int .i64 e.c.e)).setCell ⟨w.heap.size, 3, none⟩ (.int .i64 e.c.b)).setCell ⟨w.heap.size, 4, none⟩ (.int .i64 e.c.k)).heap[w.heap.size]? = some (.cells #[.int .i64 e.t, .int .i64 e.x, .int .i64 e.c.e, .int .i64 e.c.b, .int .i64 e.c.k, .slice e.a1 e.c.M.length e.q1, .slice e.a2 e.c.C.length e.q2] 46) := heap_set_self k3 4 _
  have k5 : (((((w3.setCell ⟨w.heap.size, 1, none⟩ (.int .i64 e.x)).setCell ⟨w.heap.size, 2, none⟩ (.int .i64 e.c.e)).setCell ⟨w.heap.size, 3, none⟩ (.int .i64 e.c.b)).setCell ⟨w.heap.size, 4, none⟩ (.int .i64 e.c.k)).setCell ⟨w.heap.size, 5, none⟩ (.slice b1 e.c.M.length p1)).heap[w.heap.size]? = some (.cells #[.int .i64 e.t, .int .i64 e.x, .int .i64 e.c.e, .int .i64 e.c.b, .int .i64 e.c.k, .slice b1 e.c.M.length p1, .slice e.a2 e.c.C.length e.q2] 46) := heap_set_self k4 5 _
  have k6 : ((((((w3.setCell ⟨w.heap.size, 1, none⟩ (.int .i64 e.x)).setCell ⟨w.heap.size, 2, none⟩ (.int .i64 e.c.e)).setCell ⟨w.heap.size, 3, none⟩ (.int .i64 e.c.b)).setCell ⟨w.heap.size, 4, none⟩ (.int .i64 e.c.k)).setCell ⟨w.heap.size, 5, none⟩ (.slice b1 e.c.M.length p1)).setCell ⟨w.heap.size, 6, none⟩ (.slice b2 e.c.C.length p2)).heap[w.heap.size]? = some (.cells #[.int .i64 e.t, .int .i64 e.x, .int .i64 e.c.e, .int .i64 e.c.b, .int .i64 e.c.k, .slice b1 e.c.M.length p1, .slice b2 e.c.C.length p2] 46) := heap_set_self k5 6 _
  have kI := Lib.hid k6
  have kO := Lib.hid (show Only (w.heap.size) w3 ((((((w3.setCell ⟨w.heap.size, 1, none⟩ (.int .i64 e.x)).setCell ⟨w.heap.size, 2, none⟩ (.int .i64 e.c.e)).setCell ⟨w.heap.size, 3, none⟩ (.int .i64 e.c.b)).setCell ⟨w.heap.size, 4, none⟩ (.int .i64 e.c.k)).setCell ⟨w.heap.size, 5, none⟩ (.slice b1 e.c.M.length p1)).setCell ⟨w.heap.size, 6, none⟩ (.slice b2 e.c.C.length p2)) from (((((((Only.refl _ _).set 1 _).set 2 _).set 3 _).set 4 _).set 5 _).set 6 _))
  clear k1 k2 k3 k4 k5 k6
  have hobj := h3.obj
  have hgl := h3.low
  have HX := Lib.hid (And.intro hb (And.intro h3 (And.intro ho hzs3)))
  clear hx hb h3 ho hzs3 hobj hgl
  go_upto_region 4 with fail
  generalize ((((((w3.setCell ⟨w.heap.size, 1, none⟩ (.int .i64 e.x)).setCell ⟨w.heap.size, 2, none⟩ (.int .i64 e.c.e)).setCell ⟨w.heap.size, 3, none⟩ (.int .i64 e.c.b)).setCell ⟨w.heap.size, 4, none⟩ (.int .i64 e.c.k)).setCell ⟨w.heap.size, 5, none⟩ (.slice b1 e.c.M.length p1)).setCell ⟨w.heap.size, 6, none⟩ (.slice b2 e.c.C.length p2)) = w4 at *
  clear fz d0 d1 d2 d3 d4 d5 d6
  obtain ⟨hb, h3, ho, hzs3⟩ := HX.out
  clear HX
  have hx := kI.out
  have h4 : LogF w4 N g ao n ts := h3.only2 kO.out (by have := HU.out.1; omega) (fun b hb => by have := HU.out.2 b hb; omega)
  have ho4 : CFO e.c (w.heap.size + 1) w4 (.slice b1 e.c.M.length p1) (.slice b2 e.c.C.length p2) := ho.only kO.out (by omega)
  have hb4 : Below w.heap.size w w4 := hb.trans (kO.out.below (B := w.heap.size) (by omega) hb.size)
  clear hb h3 ho kI kO hzs3
  have d0 := cell_atD hx 0 (v := .int .i64 e.t) rfl
  have d1 := cell_atD hx 1 (v := .int .i64 e.x) rfl
  have d2 := cell_atD hx 2 (v := .int .i64 e.c.e) rfl
  have d3 := cell_atD hx 3 (v := .int .i64 e.c.b) rfl
  have d4 := cell_atD hx 4 (v := .int .i64 e.c.k) rfl
  have d5 := cell_atD hx 5 (v := .slice b1 e.c.M.length p1) rfl
  have d6 := cell_atD hx 6 (v := .slice b2 e.c.C.length p2) rfl
  obtain ⟨g0, g1, g2, gf⟩ := h4.cells
  have hle := h4.le
  have hlt3 : w.heap.size ≤ w4.heap.size := hb4.size
  have hee : EN.own ⟨e.t, e.x, e.c, b1, p1, b2, p2⟩ N w4 := CFO.base ho4 (Nat.le_trans HW.out.1 (Nat.le_succ _))
  have HL := Lib.hid h4
  have HE := Lib.hid hee
  have HB4 := Lib.hid hb4
  have hrd4 := HL.out.rd
  have HO7 := Lib.hid hrd4
  have gza : (w4.alloc (.cells #[.int .i64 e.t, .int .i64 e.x, .int .i64 e.c.e, .int .i64 e.c.b, .int .i64 e.c.k, .slice b1 e.c.M.length p1, .slice b2 e.c.C.length p2] 46)).cell? ⟨g, 2, none⟩ = some (.slice ao n n) := (World.cell?_alloc_lt w4 _ ⟨g, 2, none⟩ (lt_heap HL.out.obj)).trans g2
  have HLD := Lib.hid (HL.out.below (below_drew' (Below.refl _ _)))
  have HED := Lib.hid (CFO.below HE.out (below_drew' (Below.refl _ _)))
  clear hrd4 h4 hee hb4 hx ho4
  go_region_law (first | (refine step_append_grows rfl (.tmp 29) (.tmp 31) 25 rfl 46 i0 _ 7 88 Try.underlying25 hi hz0 hz1 hz2 rfl (by decide) ao n n (enCells ts) rfl (fun e => ⟨HL.out.nn e, HL.out.nn e⟩) (by rw [enCells_len, HN.out]) (holdsF HL.out) _ 1 _ (enCells [⟨e.t, e.x, e.c, b1, p1, b2, p2⟩]) rfl rfl (litF _ _ _) (enCells_one _) (by omega) (by unfold maxLen; omega) (by omega) ?_; intro v2 w5 own2 hg2; obtain ⟨a2, c2, rfl⟩ := owns_form3 own2; have LP := logF_put (v2 := .slice a2 (n + 1) c2) HLD.out HED.out HN.out own2 hg2; have y2 := cell_atD LP.1 2 (v := .slice ao n n) rfl; have f2 : w5.frozen? ⟨g, 2, none⟩ = false := (by have := LP.1; simp [World.frozen?, this]); have HLP := Lib.hid LP; clear LP own2 hg2))
  all_goals
    have HF := Lib.hid (show Only g w (w5.setCell ⟨g, 2, none⟩ (.slice a2 (n + 1) c2)) from (onlyB (below_drew' HB4.out)).trans HLP.out.2.2)
    have hL5 := HLP.out.2.1
    have hln : (ts ++ [(⟨e.t, e.x, e.c, b1, p1, b2, p2⟩ : EN)]).length = n + 1 := by rw [List.length_append, HN.out]; rfl
    clear y2 f2 HLP HLD HED gza HO7 HL HE d0 d1 d2 d3 d4 d5 d6 g0 g1 g2 gf
    generalize w5.setCell ⟨g, 2, none⟩ (.slice a2 (n + 1) c2) = W5 at *
    have cl := rlenE W5 N g _ _ hL5 (by rw [hln]; omega)
    rw [hln] at cl
    have HL5 := Lib.hid hL5
    clear hL5 hln
    go_wp2_with fail
    refine Calls.mono cl ?_
    rintro ev w6 ⟨rfl, q, rfl⟩
    go_wp2_with fail
    go_returns
    exact ⟨by simp, _, _, _, _, _, HL5.out.drewN q, onlyN HF.out q⟩
end Go.Proofs.Ytkdmnhmlkcejfaa
