/-
  A voter's log behind any place: Len, Add.
-/
import Derived.Test.YtkdmnhmlkcejfaaRlz
namespace Go.Proofs.Ytkdmnhmlkcejfaa
open Go.RowKit
set_option linter.unusedVariables false
set_option linter.unusedSimpArgs false

variable {B T : Int}
/-- a log of such entries behind a place whose entry has a term -/
structure LogG (B T : Int) (w : World) (N g : Nat) (v : Value) (es : List EN) : Prop where
  low : N ≤ g
  obj : w.heap[g]? = some (.cells #[.int .i64 B, .int .i64 T, v] 70)
  row : w.ownsRow N 46 7 v es.length (enCells es)
  lists : ∀ e ∈ es, e.own N w
  bd : 0 ≤ B ∧ B ≤ 1000
theorem LogG.below {w w' : World} {N g : Nat} {v : Value} {ts : List EN} (h : LogG B T w N g v ts) (hb : Below w.heap.size w w') : LogG B T w' N g v ts := ⟨h.low, below_at hb (lt_heap h.obj) h.obj, owns_below h.row hb, fun e he => CFO.below (h.lists e he) hb, h.bd⟩
theorem LogG.drewN {w : World} {N g : Nat} {v : Value} {ts : List EN} (h : LogG B T w N g v ts) (q : Nat) : LogG B T (w.drewN q) N g v ts := h.below (below_drewN' (Below.refl _ _) q)
theorem LogG.form {w : World} {N g : Nat} {v : Value} {ts : List EN} (h : LogG B T w N g v ts) : ∃ a c, v = .slice a ts.length c := by
  rcases h.row.2 with ⟨rfl, h0⟩ | ⟨g, cap, _, rfl, _⟩
  · exact ⟨none, 0, by rw [h0]⟩
  · exact ⟨_, cap, rfl⟩
theorem LogG.cells {w : World} {N g : Nat} {v : Value} {ts : List EN} (h : LogG B T w N g v ts) : w.cell? ⟨g, 0, none⟩ = some (.int .i64 B) ∧ w.cell? ⟨g, 1, none⟩ = some (.int .i64 T) ∧ w.cell? ⟨g, 2, none⟩ = some v ∧ w.frozen? ⟨g, 2, none⟩ = false :=
  ⟨cell_atD h.obj 0 rfl, cell_atD h.obj 1 rfl, cell_atD h.obj 2 rfl, by have := h.obj; simp [World.frozen?, this]⟩
theorem LogG.le {w : World} {N g : Nat} {v : Value} {ts : List EN} (h : LogG B T w N g v ts) : N ≤ w.heap.size := Nat.le_trans h.low (Nat.le_of_lt (lt_heap h.obj))
theorem rlenG (w : World) (N g : Nat) (v : Value) (ts : List EN) (h : LogG B T w N g v ts) (hl : ts.length ≤ 1000) : Calls Try.prog 18 #[.pointer (some ⟨g, 0, none⟩)] w fun e w' => e = .returned (.int .i64 (B + ts.length)) ∧ ∃ q, w' = w.drewN q := by
  obtain ⟨c0, c1, c2, -⟩ := h.cells
  obtain ⟨a, c, rfl⟩ := h.form
  obtain ⟨hb1, hb2⟩ := h.bd
  clear h
  generalize ts.length = n at *
  have hw : wrap64 (B + (n : Int)) = B + n := by unfold wrap64; omega
  have hw2 : IntKind.i64.wrap (B + (n : Int)) = B + n := by rw [IntKind.wrap_i64]; omega
  go_enter Try.func18, Try.ntmps18
  go_wp2_with fail
  go_quiet (fail)
  go_wp2_with fail
  go_ret
  exact ⟨by first | rfl | simp, _, rfl⟩
theorem logG_put {w w2 : World} {N g : Nat} {v v2 : Value} {ts : List EN} {o : Obj} {t : EN} (h : LogG B T w N g v ts) (ht : t.own N w) (own2 : w2.ownsRow N 46 7 v2 (ts.length + 1) (enCells ts ++ enCells [t])) (hg : (w.alloc o).grownBy w2 v.ownBlock) (hn : v2.ownBlock = v.ownBlock ∨ v2.ownBlock = some (w.alloc o).heap.size) :
    w2.heap[g]? = some (.cells #[.int .i64 B, .int .i64 T, v] 70) ∧ LogG B T (w2.setCell ⟨g, 2, none⟩ v2) N g v2 (ts ++ [t]) ∧ LKept w (w2.setCell ⟨g, 2, none⟩ v2) N g v v2 := by
  have hvo := row_otherE h.row h.obj (by decide)
  have hlt := lt_heap h.obj
  have hg0 : w.grownBy w2 v.ownBlock := ⟨hg.os, hg.tape, hg.output, Nat.le_trans (by simp) hg.size, fun k hk hne => (hg.block k (by simp; omega) hne).trans (Below.heap_alloc _ _ _ hk)⟩
  have hobj2 : w2.heap[g]? = some (.cells #[.int .i64 B, .int .i64 T, v] 70) := (hg0.block g hlt (fun e => hvo e.symm)).trans h.obj
  have v2o := row_otherE own2 hobj2 (by decide)
  have hset : ∀ k, k ≠ g → (w2.setCell ⟨g, 2, none⟩ v2).heap[k]? = w2.heap[k]? := fun k hk => heap_setCell_other _ _ _ _ hk
  have hgp : w2.grownBy (w2.setCell ⟨g, 2, none⟩ v2) (some g) := ⟨rfl, rfl, rfl, by simp, fun k _ hk => hset k (fun e => hk (by rw [e]))⟩
  have hmv : ∀ (b : Nat) (c : Array Value), w.heap[b]? = some (.cells c 3) → (w2.setCell ⟨g, 2, none⟩ v2).heap[b]? = w.heap[b]? := by
    intro b c hb
    have n1 : b ≠ g := by
      rintro rfl
      rw [h.obj] at hb
      injection hb with hb
      injection hb with _ h2
      exact absurd h2 (by decide)
    refine (hset b n1).trans (hg0.block b (lt_heap hb) fun e => ?_)
    obtain ⟨c2, hc2⟩ := own_typeN h.row e.symm
    rw [hb] at hc2
    injection hc2 with hc2
    injection hc2 with _ h2
    exact absurd h2 (by decide)
  refine ⟨hobj2, ⟨h.low, (heap_setCell_same _ _ _ _ _ _ hobj2).trans rfl, ?_, ?_, h.bd⟩, ⟨?_, ?_, ?_, ?_⟩⟩
  · have := own2.kept hgp (.inr v2o)
    rw [List.length_append, ← enCells_append]
    exact this
  · intro e he
    rcases List.mem_append.1 he with q | q
    · exact EN.own.move (h.lists e q) hmv
    · rw [List.mem_singleton.1 q]
      exact EN.own.move ht hmv
  · exact ((Below.refl N w).grown hg0 h.le (fun k e => (h.row.lt k e).1)).setCell (p := ⟨g, 2, none⟩) h.low _
  · simpa [World.setCell] using hg0.size
  · exact fun k hk hkg hkv => (hset k hkg).trans (hg0.block k hk hkv)
  · rcases hn with hn | hn
    · exact .inl hn
    · right
      intro k e
      rw [hn] at e
      cases e
      simp
/-- a block of another type, behind the log's object and rows -/
theorem LogG.only2 {w w' : World} {N g y : Nat} {v : Value} {ts : List EN} (h : LogG B T w N g v ts) (ho : Only y w w') (h1 : y ≠ g) (h2 : ∀ b, (v.ownBlock = some b ∨ ∃ e ∈ ts, (Value.slice e.a1 e.c.M.length e.q1).ownBlock = some b ∨ (Value.slice e.a2 e.c.C.length e.q2).ownBlock = some b) → b ≠ y) : LogG B T w' N g v ts :=
  ⟨h.low, (ho.block g (lt_heap h.obj) (Ne.symm h1)).trans h.obj, own_moveN h.row fun b q => by obtain ⟨c, hc⟩ := own_typeN h.row q; exact ho.block b (lt_heap hc) (h2 b (.inl q)),
   fun e he => ⟨own_moveN (h.lists e he).1 fun b q => by obtain ⟨c, hc⟩ := own_typeN (h.lists e he).1 q; exact ho.block b (lt_heap hc) (h2 b (.inr ⟨e, he, .inl q⟩)), own_moveN (h.lists e he).2 fun b q => by obtain ⟨c, hc⟩ := own_typeN (h.lists e he).2 q; exact ho.block b (lt_heap hc) (h2 b (.inr ⟨e, he, .inr q⟩))⟩, h.bd⟩
theorem LogG.lts {w : World} {N g : Nat} {v : Value} {ts : List EN} (h : LogG B T w N g v ts) : ∀ b, (v.ownBlock = some b ∨ ∃ e ∈ ts, (Value.slice e.a1 e.c.M.length e.q1).ownBlock = some b ∨ (Value.slice e.a2 e.c.C.length e.q2).ownBlock = some b) → b < w.heap.size := by
  rintro b (q | ⟨e, he, q | q⟩)
  · obtain ⟨c, hc⟩ := own_typeN h.row q; exact lt_heap hc
  · obtain ⟨c, hc⟩ := own_typeN (h.lists e he).1 q; exact lt_heap hc
  · obtain ⟨c, hc⟩ := own_typeN (h.lists e he).2 q; exact lt_heap hc
set_option maxHeartbeats 6400000 in
set_option maxRecDepth 100000 in
theorem raddG (e : EN) (w : World) (ha : e.at_ w) (hs : short e.c) (hm : mayE e.t e.x e.c = true) (N g : Nat) (v : Value) (ts : List EN) (h : LogG B T w N g v ts) (hl : ts.length < 300) :
    Calls Try.prog 15 #[.pointer (some ⟨g, 0, none⟩), .agg #[.int .i64 e.t, .int .i64 e.x, .int .i64 e.c.e, .int .i64 e.c.b, .int .i64 e.c.k, .slice e.a1 e.c.M.length e.q1, .slice e.a2 e.c.C.length e.q2]] w fun ev w' => ev = .returned (.tuple #[.int .i64 (B + ((ts.length : Int) + 1)), .bool true]) ∧ ∃ b1 p1 b2 p2 v', LogG B T w' N g v' (ts ++ [⟨e.t, e.x, e.c, b1, p1, b2, p2⟩]) ∧ LKept w w' N g v v' := by
  obtain ⟨i0, hi, hz0, hz1, hz2⟩ := info_parts einfoN
  obtain ⟨av, cv, rfl⟩ := h.form
  obtain ⟨n, hn⟩ : ∃ n, ts.length = n := ⟨_, rfl⟩
  rw [hn] at h hl
  rw [hn]
  have hb := (Below.refl w.heap.size w).alloc (Nat.le_refl _) (.cells #[.int .i64 e.t, .int .i64 e.x, .int .i64 e.c.e, .int .i64 e.c.b, .int .i64 e.c.k, .slice e.a1 e.c.M.length e.q1, .slice e.a2 e.c.C.length e.q2] 46)
  have hx := heap_alloc_self w (.cells #[.int .i64 e.t, .int .i64 e.x, .int .i64 e.c.e, .int .i64 e.c.b, .int .i64 e.c.k, .slice e.a1 e.c.M.length e.q1, .slice e.a2 e.c.C.length e.q2] 46)
  have h1 := h.below hb
  have ha1 := CFat.below ha hb
  have HU := Lib.hid (And.intro (lt_heap h.obj) h.lts)
  have HW := Lib.hid (And.intro h.le (fun (x y : World) (v' : Value) (hb : Below w.heap.size w x) (hk : LKept x y N g (.slice av n cv) v') => (show LKept w y N g (.slice av n cv) v' from ⟨(hb.mono h.le).trans hk.below, Nat.le_trans hb.size hk.size, fun k hlt h2 h3 => (hk.block k (Nat.lt_of_lt_of_le hlt hb.size) h2 h3).trans (hb.block k hlt), hk.new.imp id fun f k e => Nat.le_trans hb.size (f k e)⟩)))
  clear h ha
  go_enter Try.func15, Try.ntmps15
  go_upto_region 1 with fail
  generalize w.alloc (.cells #[.int .i64 e.t, .int .i64 e.x, .int .i64 e.c.e, .int .i64 e.c.b, .int .i64 e.c.k, .slice e.a1 e.c.M.length e.q1, .slice e.a2 e.c.C.length e.q2] 46) = w1 at *
  have d0 := cell_atD hx 0 (v := .int .i64 e.t) rfl
  have d1 := cell_atD hx 1 (v := .int .i64 e.x) rfl
  have d2 := cell_atD hx 2 (v := .int .i64 e.c.e) rfl
  have d3 := cell_atD hx 3 (v := .int .i64 e.c.b) rfl
  have d4 := cell_atD hx 4 (v := .int .i64 e.c.k) rfl
  have d5 := cell_atD hx 5 (v := .slice e.a1 e.c.M.length e.q1) rfl
  have d6 := cell_atD hx 6 (v := .slice e.a2 e.c.C.length e.q2) rfl
  obtain ⟨g0, g1, g2, gf⟩ := h1.cells
  have ce := emayE e.t e.x e.c e.a1 e.a2 e.q1 e.q2 w1 ha1
  rw [hm] at ce
  have HX := Lib.hid (And.intro hx (And.intro hb (And.intro h1 ha1)))
  have HN := Lib.hid hn
  have HM := Lib.hid hm
  clear hx hb h1 ha1 hn hm
  go_wp2_with fail
  refine Calls.mono ce ?_
  rintro ev w2 ⟨rfl, h2⟩
  have hx := below_at h2 (lt_heap HX.out.1) HX.out.1
  have hb := HX.out.2.1.trans (h2.mono HX.out.2.1.size)
  have h3 := HX.out.2.2.1.below h2
  have ha := CFat.below HX.out.2.2.2 h2
  clear d0 d1 d2 d3 d4 d5 d6 h2 HX g0 g1 g2 gf ce
  have d0 := cell_atD hx 0 (v := .int .i64 e.t) rfl
  have d1 := cell_atD hx 1 (v := .int .i64 e.x) rfl
  have d2 := cell_atD hx 2 (v := .int .i64 e.c.e) rfl
  have d3 := cell_atD hx 3 (v := .int .i64 e.c.b) rfl
  have d4 := cell_atD hx 4 (v := .int .i64 e.c.k) rfl
  have d5 := cell_atD hx 5 (v := .slice e.a1 e.c.M.length e.q1) rfl
  have d6 := cell_atD hx 6 (v := .slice e.a2 e.c.C.length e.q2) rfl
  obtain ⟨g0, g1, g2, gf⟩ := h3.cells
  have co := ocmd e.x e.c e.a1 e.a2 e.q1 e.q2 w2 ha hs
  have HX := Lib.hid (And.intro hx (And.intro hb (And.intro h3 ha)))
  have hzs : w.heap.size + 1 ≤ w2.heap.size := by have := lt_heap hx; omega
  clear hx hb h3 ha
  go_wp2_with fail
  refine Calls.mono co ?_
  rintro ev w3 ⟨b1, p1, b2, p2, rfl, ho, h2⟩
  replace ho := CFO.base ho hzs
  have hx := below_at h2 (lt_heap HX.out.1) HX.out.1
  have hb := HX.out.2.1.trans (h2.mono HX.out.2.1.size)
  have h3 := HX.out.2.2.1.below h2
  have ha := CFat.below HX.out.2.2.2 h2
  have hzs3 : w.heap.size + 1 ≤ w3.heap.size := Nat.le_trans hzs h2.size
  clear d0 d1 d2 d3 d4 d5 d6 h2 HX g0 g1 g2 gf co hzs ha
  have d0 := cell_atD hx 0 (v := .int .i64 e.t) rfl
  have d1 := cell_atD hx 1 (v := .int .i64 e.x) rfl
  have d2 := cell_atD hx 2 (v := .int .i64 e.c.e) rfl
  have d3 := cell_atD hx 3 (v := .int .i64 e.c.b) rfl
  have d4 := cell_atD hx 4 (v := .int .i64 e.c.k) rfl
  have d5 := cell_atD hx 5 (v := .slice e.a1 e.c.M.length e.q1) rfl
  have d6 := cell_atD hx 6 (v := .slice e.a2 e.c.C.length e.q2) rfl
  have fz : ∀ i, w3.frozen? ⟨w.heap.size, i, none⟩ = false := fun i => by simp [World.frozen?, hx]
  have k1 : (w3.setCell ⟨w.heap.size, 1, none⟩ (.int .i64 e.x)).heap[w.heap.size]? = some (.cells #[.int .i64 e.t, .int .i64 e.x, .int .i64 e.c.e, .int .i64 e.c.b, .int .i64 e.c.k, .slice e.a1 e.c.M.length e.q1, .slice e.a2 e.c.C.length e.q2] 46) := heap_set_self hx 1 _
  have k2 : ((w3.setCell ⟨w.heap.size, 1, none⟩ (.int .i64 e.x)).setCell ⟨w.heap.size, 2, none⟩ (.int .i64 e.c.e)).heap[w.heap.size]? = some (.cells #[.int .i64 e.t, .int .i64 e.x, .int .i64 e.c.e, .int .i64 e.c.b, .int .i64 e.c.k, .slice e.a1 e.c.M.length e.q1, .slice e.a2 e.c.C.length e.q2] 46) := heap_set_self k1 2 _
  have k3 : (((w3.setCell ⟨w.heap.size, 1, none⟩ (.int .i64 e.x)).setCell ⟨w.heap.size, 2, none⟩ (.int .i64 e.c.e)).setCell ⟨w.heap.size, 3, none⟩ (.int .i64 e.c.b)).heap[w.heap.size]? = some (.cells #[.int .i64 e.t, .int .i64 e.x, .int .i64 e.c.e, .int .i64 e.c.b, .int .i64 e.c.k, .slice e.a1 e.c.M.length e.q1, .slice e.a2 e.c.C.length e.q2] 46) := heap_set_self k2 3 _
  have k4 : ((((w3.setCell ⟨w.heap.size, 1, none⟩ (.int .i64 e.x)).setCell ⟨w.heap.size, 2, none⟩ (.int .i64 e.c.e)).setCell ⟨w.heap.size, 3, none⟩ (.int .i64 e.c.b)).setCell ⟨w.heap.size, 4, none⟩ (.int .i64 e.c.k)).heap[w.heap.size]? = some (.cells #[.int .i64 e.t, .int .i64 e.x, .int .i64 e.c.e, .int .i64 e.c.b, .int .i64 e.c.k, .slice e.a1 e.c.M.length e.q1, .slice e.a2 e.c.C.length e.q2] 46) := heap_set_self k3 4 _
  have k5 : (((((w3.setCell ⟨w.heap.size, 1, none⟩ (.int .i64 e.x)).setCell ⟨w.heap.size, 2, none⟩ (.int .i64 e.c.e)).setCell ⟨w.heap.size, 3, none⟩ (.int .i64 e.c.b)).setCell ⟨w.heap.size, 4, none⟩ (.int .i64 e.c.k)).setCell ⟨w.heap.size, 5, none⟩ (.slice b1 e.c.M.length p1)).heap[w.heap.size]? = some (.cells #[.int .i64 e.t, .int .i64 e.x, .int .i64 e.c.e, .int .i64 e.c.b, .int .i64 e.c.k, .slice b1 e.c.M.length p1, .slice e.a2 e.c.C.length e.q2] 46) := heap_set_self k4 5 _
  have k6 : ((((((w3.setCell ⟨w.heap.size, 1, none⟩ (.int .i64 e.x)).setCell ⟨w.heap.size, 2, none⟩ (.int .i64 e.c.e)).setCell ⟨w.heap.size, 3, none⟩ (.int .i64 e.c.b)).setCell ⟨w.heap.size, 4, none⟩ (.int .i64 e.c.k)).setCell ⟨w.heap.size, 5, none⟩ (.slice b1 e.c.M.length p1)).setCell ⟨w.heap.size, 6, none⟩ (.slice b2 e.c.C.length p2)).heap[w.heap.size]? = some (.cells #[.int .i64 e.t, .int .i64 e.x, .int .i64 e.c.e, .int .i64 e.c.b, .int .i64 e.c.k, .slice b1 e.c.M.length p1, .slice b2 e.c.C.length p2] 46) := heap_set_self k5 6 _
  have kI := Lib.hid k6
  have kO := Lib.hid (show Only (w.heap.size) w3 ((((((w3.setCell ⟨w.heap.size, 1, none⟩ (.int .i64 e.x)).setCell ⟨w.heap.size, 2, none⟩ (.int .i64 e.c.e)).setCell ⟨w.heap.size, 3, none⟩ (.int .i64 e.c.b)).setCell ⟨w.heap.size, 4, none⟩ (.int .i64 e.c.k)).setCell ⟨w.heap.size, 5, none⟩ (.slice b1 e.c.M.length p1)).setCell ⟨w.heap.size, 6, none⟩ (.slice b2 e.c.C.length p2)) from (((((((Only.refl _ _).set 1 _).set 2 _).set 3 _).set 4 _).set 5 _).set 6 _))
  clear k1 k2 k3 k4 k5 k6
  have hobj := h3.obj
  have hgl := h3.low
  have HX := Lib.hid (And.intro hb (And.intro h3 (And.intro ho hzs3)))
  clear hx hb h3 ho hzs3 hobj hgl
  go_upto_region 4 with fail
  generalize ((((((w3.setCell ⟨w.heap.size, 1, none⟩ (.int .i64 e.x)).setCell ⟨w.heap.size, 2, none⟩ (.int .i64 e.c.e)).setCell ⟨w.heap.size, 3, none⟩ (.int .i64 e.c.b)).setCell ⟨w.heap.size, 4, none⟩ (.int .i64 e.c.k)).setCell ⟨w.heap.size, 5, none⟩ (.slice b1 e.c.M.length p1)).setCell ⟨w.heap.size, 6, none⟩ (.slice b2 e.c.C.length p2)) = w4 at *
  clear fz d0 d1 d2 d3 d4 d5 d6
  obtain ⟨hb, h3, ho, hzs3⟩ := HX.out
  clear HX
  have hx := kI.out
  have h4 : LogG B T w4 N g (.slice av n cv) ts := h3.only2 kO.out (by have := HU.out.1; omega) (fun b hb => by have := HU.out.2 b hb; omega)
  have ho4 : CFO e.c (w.heap.size + 1) w4 (.slice b1 e.c.M.length p1) (.slice b2 e.c.C.length p2) := ho.only kO.out (by omega)
  have hb4 : Below w.heap.size w w4 := hb.trans (kO.out.below (B := w.heap.size) (by omega) hb.size)
  clear hb h3 ho kI kO hzs3
  have d0 := cell_atD hx 0 (v := .int .i64 e.t) rfl
  have d1 := cell_atD hx 1 (v := .int .i64 e.x) rfl
  have d2 := cell_atD hx 2 (v := .int .i64 e.c.e) rfl
  have d3 := cell_atD hx 3 (v := .int .i64 e.c.b) rfl
  have d4 := cell_atD hx 4 (v := .int .i64 e.c.k) rfl
  have d5 := cell_atD hx 5 (v := .slice b1 e.c.M.length p1) rfl
  have d6 := cell_atD hx 6 (v := .slice b2 e.c.C.length p2) rfl
  obtain ⟨g0, g1, g2, gf⟩ := h4.cells
  have hle := h4.le
  have hlt3 : w.heap.size ≤ w4.heap.size := hb4.size
  have hee : EN.own ⟨e.t, e.x, e.c, b1, p1, b2, p2⟩ N w4 := CFO.base ho4 (Nat.le_trans HW.out.1 (Nat.le_succ _))
  have HL := Lib.hid h4
  have HE := Lib.hid hee
  have HB4 := Lib.hid hb4
  have ho7 := HL.out.row
  rw [HN.out] at ho7
  have HO7 := Lib.hid ho7
  have gza : (w4.alloc (.cells #[.int .i64 e.t, .int .i64 e.x, .int .i64 e.c.e, .int .i64 e.c.b, .int .i64 e.c.k, .slice b1 e.c.M.length p1, .slice b2 e.c.C.length p2] 46)).cell? ⟨g, 2, none⟩ = some (.slice av n cv) := (World.cell?_alloc_lt w4 _ ⟨g, 2, none⟩ (lt_heap HL.out.obj)).trans g2
  have HLD := Lib.hid (HL.out.below (below_drew' (Below.refl _ _)))
  have HED := Lib.hid (CFO.below HE.out (below_drew' (Below.refl _ _)))
  clear ho7 h4 hee hb4 hx ho4
  go_region_law (first | (refine step_app2 Try.underlying25 hi hz0 hz1 hz2 rfl (by decide) rfl (.tmp 29) (.tmp 31) rfl N _ n (enCells ts) rfl ((owns_below HO7.out (Below.drew (Below.refl _ _))).alloc _) _ 1 (enCells [⟨e.t, e.x, e.c, b1, p1, b2, p2⟩]) rfl (SR.lit _ _ #[.int .i64 e.t, .int .i64 e.x, .int .i64 e.c.e, .int .i64 e.c.b, .int .i64 e.c.k, .slice b1 e.c.M.length p1, .slice b2 e.c.C.length p2] 7 1 (by decide) rfl) (by decide) (enCells_one _) (by unfold maxLen; omega) (by omega) (by simp; omega) ?_; intro v2 w5 own2 hg2 hn2; obtain ⟨a2, c2, rfl⟩ := owns_form3 own2; have LP := logG_put (v2 := .slice a2 (n + 1) c2) HLD.out HED.out (by rw [HN.out]; exact own2) hg2 hn2; have y2 := cell_atD LP.1 2 (v := .slice av n cv) rfl; have f2 : w5.frozen? ⟨g, 2, none⟩ = false := (by have := LP.1; simp [World.frozen?, this]); have HLP := Lib.hid LP; clear LP own2 hg2 hn2))
  all_goals
    have HF := Lib.hid (HW.out.2 _ _ _ (below_drew' HB4.out) HLP.out.2.2)
    have hL5 := HLP.out.2.1
    have hln : (ts ++ [(⟨e.t, e.x, e.c, b1, p1, b2, p2⟩ : EN)]).length = n + 1 := by rw [List.length_append, HN.out]; rfl
    clear y2 f2 HLP HLD HED gza HO7 HL HE d0 d1 d2 d3 d4 d5 d6 g0 g1 g2 gf
    generalize w5.setCell ⟨g, 2, none⟩ (.slice a2 (n + 1) c2) = W5 at *
    have cl := rlenG W5 N g _ _ hL5 (by rw [hln]; omega)
    rw [hln] at cl
    have HL5 := Lib.hid hL5
    clear hL5 hln
    go_wp2_with fail
    refine Calls.mono cl ?_
    rintro ev w6 ⟨rfl, q, rfl⟩
    go_wp2_with fail
    go_returns
    exact ⟨by simp [Int.add_assoc], _, _, _, _, _, HL5.out.drewN q, HF.out.drewN q⟩
end Go.Proofs.Ytkdmnhmlkcejfaa
