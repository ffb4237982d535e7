/-
  Several texts, laid together.
-/
import Derived.Test.YtjaaddjbmimjoaaMh31
import Derived.Test.YtjaaddjbmimjoaaMh32
import Derived.Test.YtjaaddjbmimjoaaMh27
/-
  tarnref12.Do, read weakly: whatever is decided, there is some state that can be put.
-/



namespace Go.Proofs.Ytjaaddjbmimjoaa
open Go.RowKit
set_option linter.unusedVariables false
set_option linter.unusedSimpArgs false

/-- G: what is told of a configuration's lists; no list is made, or changed -/
def RDoS (G : Value → Value → List Int → List Int → Prop) (w : World) (ev : Ending) (w' : World) : Prop := ∃ (s : DS) (a1 : Option Addr) (q1 : Nat) (a2 : Option Addr) (q2 : Nat) (a3 : Option Addr) (q3 : Nat) (a4 : Option Addr) (q4 : Nat), ev = .returned (.agg #[.int .i64 s.ep, .int .i64 s.a.e, .int .i64 s.a.b, .int .i64 s.a.k, .slice a1 s.a.M.length q1, .slice a2 s.a.C.length q2, .int .i64 s.n.e, .int .i64 s.n.b, .int .i64 s.n.k, .slice a3 s.n.M.length q3, .slice a4 s.n.C.length q4, .int .i64 s.s0, .int .i64 s.s1]) ∧ (G (.slice a1 s.a.M.length q1) (.slice a2 s.a.C.length q2) s.a.M s.a.C ∧ G (.slice a3 s.n.M.length q3) (.slice a4 s.n.C.length q4) s.n.M s.n.C) ∧ LowS s ∧ Below w.heap.size w w'
structure B12 (S K : Array Value) (w wx : World) : Prop where
  st : wx.heap[w.heap.size]? = some (.cells S 42)
  cm : wx.heap[w.heap.size + 1]? = some (.cells K 26)
  rs : wx.heap[w.heap.size + 2]? = some (.cells #[.int .i64 0, .int .i64 0, .int .i64 0, .int .i64 0, .slice none 0 0, .slice none 0 0, .int .i64 0, .int .i64 0, .int .i64 0, .slice none 0 0, .slice none 0 0, .int .i64 0, .int .i64 0] 42)
  bl : Below w.heap.size w wx
theorem B12.below {S K : Array Value} {w wx wy : World} (h : B12 S K w wx) (hb : Below wx.heap.size wx wy) : B12 S K w wy :=
  ⟨below_at hb (lt_heap h.st) h.st, below_at hb (lt_heap h.cm) h.cm, below_at hb (lt_heap h.rs) h.rs, h.bl.trans (hb.mono h.bl.size)⟩
theorem B12.only {S S' K : Array Value} {w wx wy : World} (h : B12 S K w wx) (ho : Only w.heap.size wx wy) (hx : wy.heap[w.heap.size]? = some (.cells S' 42)) : B12 S' K w wy :=
  ⟨hx, (ho.block _ (lt_heap h.cm) (by omega)).trans h.cm, (ho.block _ (lt_heap h.rs) (by omega)).trans h.rs, h.bl.trans (ho.below (Nat.le_refl _) h.bl.size)⟩
theorem lowC_e {c : CF} (h : LowC c) {e : Int} (h0 : 0 ≤ e) (h1 : e ≤ 9223372036854775807) : LowC ⟨e, c.b, c.k, c.M, c.C⟩ := by
  obtain ⟨⟨h2, h3⟩, h4, h5⟩ := h
  refine ⟨⟨by simp, fun x hx => ?_⟩, h4, h5⟩
  simp at hx
  rcases hx with rfl | rfl | rfl
  · omega
  · exact h3 c.b (by simp)
  · exact h3 c.k (by simp)
set_option maxHeartbeats 12800000 in
set_option maxRecDepth 100000 in
theorem rdo12 (s : DS) (x : Int) (c : CF) (a1 a2 a3 a4 b1 b2 : Option Addr) (q1 q2 q3 q4 p1 p2 : Nat) (w : World) (ha : CFat s.a w (.slice a1 s.a.M.length q1) (.slice a2 s.a.C.length q2)) (hn : CFat s.n w (.slice a3 s.n.M.length q3) (.slice a4 s.n.C.length q4)) (hc : CFat c w (.slice b1 c.M.length p1) (.slice b2 c.C.length p2)) (hs : LowS s) (G : Value → Value → List Int → List Int → Prop) (ga : G (.slice a1 s.a.M.length q1) (.slice a2 s.a.C.length q2) s.a.M s.a.C) (gn : G (.slice a3 s.n.M.length q3) (.slice a4 s.n.C.length q4) s.n.M s.n.C) (gc : G (.slice b1 c.M.length p1) (.slice b2 c.C.length p2) c.M c.C) :
    Calls Try.prog 14 #[.agg #[.int .i64 s.ep, .int .i64 s.a.e, .int .i64 s.a.b, .int .i64 s.a.k, .slice a1 s.a.M.length q1, .slice a2 s.a.C.length q2, .int .i64 s.n.e, .int .i64 s.n.b, .int .i64 s.n.k, .slice a3 s.n.M.length q3, .slice a4 s.n.C.length q4, .int .i64 s.s0, .int .i64 s.s1], .agg #[.int .i64 x, .int .i64 c.e, .int .i64 c.b, .int .i64 c.k, .slice b1 c.M.length p1, .slice b2 c.C.length p2]] w (RDoS G w) := by
  obtain ⟨h0, h1, h2, hb, hz⟩ := three_alloc w #[.int .i64 s.ep, .int .i64 s.a.e, .int .i64 s.a.b, .int .i64 s.a.k, .slice a1 s.a.M.length q1, .slice a2 s.a.C.length q2, .int .i64 s.n.e, .int .i64 s.n.b, .int .i64 s.n.k, .slice a3 s.n.M.length q3, .slice a4 s.n.C.length q4, .int .i64 s.s0, .int .i64 s.s1] #[.int .i64 x, .int .i64 c.e, .int .i64 c.b, .int .i64 c.k, .slice b1 c.M.length p1, .slice b2 c.C.length p2] #[.int .i64 0, .int .i64 0, .int .i64 0, .int .i64 0, .slice none 0 0, .slice none 0 0, .int .i64 0, .int .i64 0, .int .i64 0, .slice none 0 0, .slice none 0 0, .int .i64 0, .int .i64 0] 42 26 42
  have cm := fun w h => rmayK x c b1 b2 p1 p2 w h
  have HB := Lib.hid (show B12 #[.int .i64 s.ep, .int .i64 s.a.e, .int .i64 s.a.b, .int .i64 s.a.k, .slice a1 s.a.M.length q1, .slice a2 s.a.C.length q2, .int .i64 s.n.e, .int .i64 s.n.b, .int .i64 s.n.k, .slice a3 s.n.M.length q3, .slice a4 s.n.C.length q4, .int .i64 s.s0, .int .i64 s.s1] #[.int .i64 x, .int .i64 c.e, .int .i64 c.b, .int .i64 c.k, .slice b1 c.M.length p1, .slice b2 c.C.length p2] w (((w.alloc (.cells #[.int .i64 s.ep, .int .i64 s.a.e, .int .i64 s.a.b, .int .i64 s.a.k, .slice a1 s.a.M.length q1, .slice a2 s.a.C.length q2, .int .i64 s.n.e, .int .i64 s.n.b, .int .i64 s.n.k, .slice a3 s.n.M.length q3, .slice a4 s.n.C.length q4, .int .i64 s.s0, .int .i64 s.s1] 42)).alloc (.cells #[.int .i64 x, .int .i64 c.e, .int .i64 c.b, .int .i64 c.k, .slice b1 c.M.length p1, .slice b2 c.C.length p2] 26)).alloc (.cells #[.int .i64 0, .int .i64 0, .int .i64 0, .int .i64 0, .slice none 0 0, .slice none 0 0, .int .i64 0, .int .i64 0, .int .i64 0, .slice none 0 0, .slice none 0 0, .int .i64 0, .int .i64 0] 42)) from ⟨h0, h1, h2, hb⟩)
  have HS := Lib.hid (And.intro ha (And.intro hn (And.intro hs hc)))
  have HG := Lib.hid (And.intro ga (And.intro gn gc))
  unfold RDoS
  clear h0 h1 h2 hb hz ha hn hc hs ga gn gc
  go_enter Try.func14, Try.ntmps14
  go_upto_region 1 with fail
  generalize ((w.alloc (.cells #[.int .i64 s.ep, .int .i64 s.a.e, .int .i64 s.a.b, .int .i64 s.a.k, .slice a1 s.a.M.length q1, .slice a2 s.a.C.length q2, .int .i64 s.n.e, .int .i64 s.n.b, .int .i64 s.n.k, .slice a3 s.n.M.length q3, .slice a4 s.n.C.length q4, .int .i64 s.s0, .int .i64 s.s1] 42)).alloc (.cells #[.int .i64 x, .int .i64 c.e, .int .i64 c.b, .int .i64 c.k, .slice b1 c.M.length p1, .slice b2 c.C.length p2] 26)).alloc (.cells #[.int .i64 0, .int .i64 0, .int .i64 0, .int .i64 0, .slice none 0 0, .slice none 0 0, .int .i64 0, .int .i64 0, .int .i64 0, .slice none 0 0, .slice none 0 0, .int .i64 0, .int .i64 0] 42) = w1 at *
  have k0 := cell_atD HB.out.cm 0 (v := .int .i64 x) rfl
  have k1 := cell_atD HB.out.cm 1 (v := .int .i64 c.e) rfl
  have k2 := cell_atD HB.out.cm 2 (v := .int .i64 c.b) rfl
  have k3 := cell_atD HB.out.cm 3 (v := .int .i64 c.k) rfl
  have k4 := cell_atD HB.out.cm 4 (v := .slice b1 c.M.length p1) rfl
  have k5 := cell_atD HB.out.cm 5 (v := .slice b2 c.C.length p2) rfl
  have ci := cm w1 (HS.out.2.2.2.below HB.out.bl)
  go_wp2_with fail
  refine Calls.mono ci ?_
  rintro ev w2 ⟨rfl, hb2⟩
  have HB2 := Lib.hid (HB.out.below hb2)
  clear k0 k1 k2 k3 k4 k5 ci cm hb2 HB
  rcases hmk : mayK x c with _ | _
  · clear hmk
    have x0 := cell_atD HB2.out.st 0 (v := .int .i64 s.ep) rfl
    have x1 := cell_atD HB2.out.st 1 (v := .int .i64 s.a.e) rfl
    have x2 := cell_atD HB2.out.st 2 (v := .int .i64 s.a.b) rfl
    have x3 := cell_atD HB2.out.st 3 (v := .int .i64 s.a.k) rfl
    have x4 := cell_atD HB2.out.st 4 (v := .slice a1 s.a.M.length q1) rfl
    have x5 := cell_atD HB2.out.st 5 (v := .slice a2 s.a.C.length q2) rfl
    have x6 := cell_atD HB2.out.st 6 (v := .int .i64 s.n.e) rfl
    have x7 := cell_atD HB2.out.st 7 (v := .int .i64 s.n.b) rfl
    have x8 := cell_atD HB2.out.st 8 (v := .int .i64 s.n.k) rfl
    have x9 := cell_atD HB2.out.st 9 (v := .slice a3 s.n.M.length q3) rfl
    have x10 := cell_atD HB2.out.st 10 (v := .slice a4 s.n.C.length q4) rfl
    have x11 := cell_atD HB2.out.st 11 (v := .int .i64 s.s0) rfl
    have x12 := cell_atD HB2.out.st 12 (v := .int .i64 s.s1) rfl
    have z0 := cell_atD HB2.out.rs 0 (v := .int .i64 0) rfl
    have z1 := cell_atD HB2.out.rs 1 (v := .int .i64 0) rfl
    have z2 := cell_atD HB2.out.rs 2 (v := .int .i64 0) rfl
    have z3 := cell_atD HB2.out.rs 3 (v := .int .i64 0) rfl
    have z4 := cell_atD HB2.out.rs 4 (v := .slice none 0 0) rfl
    have z5 := cell_atD HB2.out.rs 5 (v := .slice none 0 0) rfl
    have z6 := cell_atD HB2.out.rs 6 (v := .int .i64 0) rfl
    have z7 := cell_atD HB2.out.rs 7 (v := .int .i64 0) rfl
    have z8 := cell_atD HB2.out.rs 8 (v := .int .i64 0) rfl
    have z9 := cell_atD HB2.out.rs 9 (v := .slice none 0 0) rfl
    have z10 := cell_atD HB2.out.rs 10 (v := .slice none 0 0) rfl
    have z11 := cell_atD HB2.out.rs 11 (v := .int .i64 0) rfl
    have z12 := cell_atD HB2.out.rs 12 (v := .int .i64 0) rfl
    have fz : ∀ o, w2.frozen? ⟨w.heap.size + 2, o, none⟩ = false := fun o => by simp [World.frozen?, HB2.out.rs]
    have g1 : (w2.setCell ⟨w.heap.size + 2, 0, none⟩ (.int .i64 s.ep)).heap[w.heap.size + 2]? = some (.cells #[.int .i64 s.ep, .int .i64 0, .int .i64 0, .int .i64 0, .slice none 0 0, .slice none 0 0, .int .i64 0, .int .i64 0, .int .i64 0, .slice none 0 0, .slice none 0 0, .int .i64 0, .int .i64 0] 42) := heap_set_self HB2.out.rs 0 _
    have g2 : ((w2.setCell ⟨w.heap.size + 2, 0, none⟩ (.int .i64 s.ep)).setCell ⟨w.heap.size + 2, 1, none⟩ (.int .i64 s.a.e)).heap[w.heap.size + 2]? = some (.cells #[.int .i64 s.ep, .int .i64 s.a.e, .int .i64 0, .int .i64 0, .slice none 0 0, .slice none 0 0, .int .i64 0, .int .i64 0, .int .i64 0, .slice none 0 0, .slice none 0 0, .int .i64 0, .int .i64 0] 42) := heap_set_self g1 1 _
    have g3 : (((w2.setCell ⟨w.heap.size + 2, 0, none⟩ (.int .i64 s.ep)).setCell ⟨w.heap.size + 2, 1, none⟩ (.int .i64 s.a.e)).setCell ⟨w.heap.size + 2, 2, none⟩ (.int .i64 s.a.b)).heap[w.heap.size + 2]? = some (.cells #[.int .i64 s.ep, .int .i64 s.a.e, .int .i64 s.a.b, .int .i64 0, .slice none 0 0, .slice none 0 0, .int .i64 0, .int .i64 0, .int .i64 0, .slice none 0 0, .slice none 0 0, .int .i64 0, .int .i64 0] 42) := heap_set_self g2 2 _
    have g4 : ((((w2.setCell ⟨w.heap.size + 2, 0, none⟩ (.int .i64 s.ep)).setCell ⟨w.heap.size + 2, 1, none⟩ (.int .i64 s.a.e)).setCell ⟨w.heap.size + 2, 2, none⟩ (.int .i64 s.a.b)).setCell ⟨w.heap.size + 2, 3, none⟩ (.int .i64 s.a.k)).heap[w.heap.size + 2]? = some (.cells #[.int .i64 s.ep, .int .i64 s.a.e, .int .i64 s.a.b, .int .i64 s.a.k, .slice none 0 0, .slice none 0 0, .int .i64 0, .int .i64 0, .int .i64 0, .slice none 0 0, .slice none 0 0, .int .i64 0, .int .i64 0] 42) := heap_set_self g3 3 _
    have g5 : (((((w2.setCell ⟨w.heap.size + 2, 0, none⟩ (.int .i64 s.ep)).setCell ⟨w.heap.size + 2, 1, none⟩ (.int .i64 s.a.e)).setCell ⟨w.heap.size + 2, 2, none⟩ (.int .i64 s.a.b)).setCell ⟨w.heap.size + 2, 3, none⟩ (.int .i64 s.a.k)).setCell ⟨w.heap.size + 2, 4, none⟩ (.slice a1 s.a.M.length q1)).heap[w.heap.size + 2]? = some (.cells #[.int .i64 s.ep, .int .i64 s.a.e, .int .i64 s.a.b, .int .i64 s.a.k, .slice a1 s.a.M.length q1, .slice none 0 0, .int .i64 0, .int .i64 0, .int .i64 0, .slice none 0 0, .slice none 0 0, .int .i64 0, .int .i64 0] 42) := heap_set_self g4 4 _
    have g6 : ((((((w2.setCell ⟨w.heap.size + 2, 0, none⟩ (.int .i64 s.ep)).setCell ⟨w.heap.size + 2, 1, none⟩ (.int .i64 s.a.e)).setCell ⟨w.heap.size + 2, 2, none⟩ (.int .i64 s.a.b)).setCell ⟨w.heap.size + 2, 3, none⟩ (.int .i64 s.a.k)).setCell ⟨w.heap.size + 2, 4, none⟩ (.slice a1 s.a.M.length q1)).setCell ⟨w.heap.size + 2, 5, none⟩ (.slice a2 s.a.C.length q2)).heap[w.heap.size + 2]? = some (.cells #[.int .i64 s.ep, .int .i64 s.a.e, .int .i64 s.a.b, .int .i64 s.a.k, .slice a1 s.a.M.length q1, .slice a2 s.a.C.length q2, .int .i64 0, .int .i64 0, .int .i64 0, .slice none 0 0, .slice none 0 0, .int .i64 0, .int .i64 0] 42) := heap_set_self g5 5 _
    have g7 : (((((((w2.setCell ⟨w.heap.size + 2, 0, none⟩ (.int .i64 s.ep)).setCell ⟨w.heap.size + 2, 1, none⟩ (.int .i64 s.a.e)).setCell ⟨w.heap.size + 2, 2, none⟩ (.int .i64 s.a.b)).setCell ⟨w.heap.size + 2, 3, none⟩ (.int .i64 s.a.k)).setCell ⟨w.heap.size + 2, 4, none⟩ (.slice a1 s.a.M.length q1)).setCell ⟨w.heap.size + 2, 5, none⟩ (.slice a2 s.a.C.length q2)).setCell ⟨w.heap.size + 2, 6, none⟩ (.int .i64 s.n.e)).heap[w.heap.size + 2]? = some (.cells #[.int .i64 s.ep, .int .i64 s.a.e, .int .i64 s.a.b, .int .i64 s.a.k, .slice a1 s.a.M.length q1, .slice a2 s.a.C.length q2, .int .i64 s.n.e, .int .i64 0, .int .i64 0, .slice none 0 0, .slice none 0 0, .int .i64 0, .int .i64 0] 42) := heap_set_self g6 6 _
    have g8 : ((((((((w2.setCell ⟨w.heap.size + 2, 0, none⟩ (.int .i64 s.ep)).setCell ⟨w.heap.size + 2, 1, none⟩ (.int .i64 s.a.e)).setCell ⟨w.heap.size + 2, 2, none⟩ (.int .i64 s.a.b)).setCell ⟨w.heap.size + 2, 3, none⟩ (.int .i64 s.a.k)).setCell ⟨w.heap.size + 2, 4, none⟩ (.slice a1 s.a.M.length q1)).setCell ⟨w.heap.size + 2, 5, none⟩ (.slice a2 s.a.C.length q2)).setCell ⟨w.heap.size + 2, 6, none⟩ (.int .i64 s.n.e)).setCell ⟨w.heap.size + 2, 7, none⟩ (.int .i64 s.n.b)).heap[w.heap.size + 2]? = some (.cells #[.int .i64 s.ep, .int .i64 s.a.e, .int .i64 s.a.b, .int .i64 s.a.k, .slice a1 s.a.M.length q1, .slice a2 s.a.C.length q2, .int .i64 s.n.e, .int .i64 s.n.b, .int .i64 0, .slice none 0 0, .slice none 0 0, .int .i64 0, .int .i64 0] 42) := heap_set_self g7 7 _
    have g9 : (((((((((w2.setCell ⟨w.heap.size + 2, 0, none⟩ (.int .i64 s.ep)).setCell ⟨w.heap.size + 2, 1, none⟩ (.int .i64 s.a.e)).setCell ⟨w.heap.size + 2, 2, none⟩ (.int .i64 s.a.b)).setCell ⟨w.heap.size + 2, 3, none⟩ (.int .i64 s.a.k)).setCell ⟨w.heap.size + 2, 4, none⟩ (.slice a1 s.a.M.length q1)).setCell ⟨w.heap.size + 2, 5, none⟩ (.slice a2 s.a.C.length q2)).setCell ⟨w.heap.size + 2, 6, none⟩ (.int .i64 s.n.e)).setCell ⟨w.heap.size + 2, 7, none⟩ (.int .i64 s.n.b)).setCell ⟨w.heap.size + 2, 8, none⟩ (.int .i64 s.n.k)).heap[w.heap.size + 2]? = some (.cells #[.int .i64 s.ep, .int .i64 s.a.e, .int .i64 s.a.b, .int .i64 s.a.k, .slice a1 s.a.M.length q1, .slice a2 s.a.C.length q2, .int .i64 s.n.e, .int .i64 s.n.b, .int .i64 s.n.k, .slice none 0 0, .slice none 0 0, .int .i64 0, .int .i64 0] 42) := heap_set_self g8 8 _
    have g10 : ((((((((((w2.setCell ⟨w.heap.size + 2, 0, none⟩ (.int .i64 s.ep)).setCell ⟨w.heap.size + 2, 1, none⟩ (.int .i64 s.a.e)).setCell ⟨w.heap.size + 2, 2, none⟩ (.int .i64 s.a.b)).setCell ⟨w.heap.size + 2, 3, none⟩ (.int .i64 s.a.k)).setCell ⟨w.heap.size + 2, 4, none⟩ (.slice a1 s.a.M.length q1)).setCell ⟨w.heap.size + 2, 5, none⟩ (.slice a2 s.a.C.length q2)).setCell ⟨w.heap.size + 2, 6, none⟩ (.int .i64 s.n.e)).setCell ⟨w.heap.size + 2, 7, none⟩ (.int .i64 s.n.b)).setCell ⟨w.heap.size + 2, 8, none⟩ (.int .i64 s.n.k)).setCell ⟨w.heap.size + 2, 9, none⟩ (.slice a3 s.n.M.length q3)).heap[w.heap.size + 2]? = some (.cells #[.int .i64 s.ep, .int .i64 s.a.e, .int .i64 s.a.b, .int .i64 s.a.k, .slice a1 s.a.M.length q1, .slice a2 s.a.C.length q2, .int .i64 s.n.e, .int .i64 s.n.b, .int .i64 s.n.k, .slice a3 s.n.M.length q3, .slice none 0 0, .int .i64 0, .int .i64 0] 42) := heap_set_self g9 9 _
    have g11 : (((((((((((w2.setCell ⟨w.heap.size + 2, 0, none⟩ (.int .i64 s.ep)).setCell ⟨w.heap.size + 2, 1, none⟩ (.int .i64 s.a.e)).setCell ⟨w.heap.size + 2, 2, none⟩ (.int .i64 s.a.b)).setCell ⟨w.heap.size + 2, 3, none⟩ (.int .i64 s.a.k)).setCell ⟨w.heap.size + 2, 4, none⟩ (.slice a1 s.a.M.length q1)).setCell ⟨w.heap.size + 2, 5, none⟩ (.slice a2 s.a.C.length q2)).setCell ⟨w.heap.size + 2, 6, none⟩ (.int .i64 s.n.e)).setCell ⟨w.heap.size + 2, 7, none⟩ (.int .i64 s.n.b)).setCell ⟨w.heap.size + 2, 8, none⟩ (.int .i64 s.n.k)).setCell ⟨w.heap.size + 2, 9, none⟩ (.slice a3 s.n.M.length q3)).setCell ⟨w.heap.size + 2, 10, none⟩ (.slice a4 s.n.C.length q4)).heap[w.heap.size + 2]? = some (.cells #[.int .i64 s.ep, .int .i64 s.a.e, .int .i64 s.a.b, .int .i64 s.a.k, .slice a1 s.a.M.length q1, .slice a2 s.a.C.length q2, .int .i64 s.n.e, .int .i64 s.n.b, .int .i64 s.n.k, .slice a3 s.n.M.length q3, .slice a4 s.n.C.length q4, .int .i64 0, .int .i64 0] 42) := heap_set_self g10 10 _
    have g12 : ((((((((((((w2.setCell ⟨w.heap.size + 2, 0, none⟩ (.int .i64 s.ep)).setCell ⟨w.heap.size + 2, 1, none⟩ (.int .i64 s.a.e)).setCell ⟨w.heap.size + 2, 2, none⟩ (.int .i64 s.a.b)).setCell ⟨w.heap.size + 2, 3, none⟩ (.int .i64 s.a.k)).setCell ⟨w.heap.size + 2, 4, none⟩ (.slice a1 s.a.M.length q1)).setCell ⟨w.heap.size + 2, 5, none⟩ (.slice a2 s.a.C.length q2)).setCell ⟨w.heap.size + 2, 6, none⟩ (.int .i64 s.n.e)).setCell ⟨w.heap.size + 2, 7, none⟩ (.int .i64 s.n.b)).setCell ⟨w.heap.size + 2, 8, none⟩ (.int .i64 s.n.k)).setCell ⟨w.heap.size + 2, 9, none⟩ (.slice a3 s.n.M.length q3)).setCell ⟨w.heap.size + 2, 10, none⟩ (.slice a4 s.n.C.length q4)).setCell ⟨w.heap.size + 2, 11, none⟩ (.int .i64 s.s0)).heap[w.heap.size + 2]? = some (.cells #[.int .i64 s.ep, .int .i64 s.a.e, .int .i64 s.a.b, .int .i64 s.a.k, .slice a1 s.a.M.length q1, .slice a2 s.a.C.length q2, .int .i64 s.n.e, .int .i64 s.n.b, .int .i64 s.n.k, .slice a3 s.n.M.length q3, .slice a4 s.n.C.length q4, .int .i64 s.s0, .int .i64 0] 42) := heap_set_self g11 11 _
    have g13 : (((((((((((((w2.setCell ⟨w.heap.size + 2, 0, none⟩ (.int .i64 s.ep)).setCell ⟨w.heap.size + 2, 1, none⟩ (.int .i64 s.a.e)).setCell ⟨w.heap.size + 2, 2, none⟩ (.int .i64 s.a.b)).setCell ⟨w.heap.size + 2, 3, none⟩ (.int .i64 s.a.k)).setCell ⟨w.heap.size + 2, 4, none⟩ (.slice a1 s.a.M.length q1)).setCell ⟨w.heap.size + 2, 5, none⟩ (.slice a2 s.a.C.length q2)).setCell ⟨w.heap.size + 2, 6, none⟩ (.int .i64 s.n.e)).setCell ⟨w.heap.size + 2, 7, none⟩ (.int .i64 s.n.b)).setCell ⟨w.heap.size + 2, 8, none⟩ (.int .i64 s.n.k)).setCell ⟨w.heap.size + 2, 9, none⟩ (.slice a3 s.n.M.length q3)).setCell ⟨w.heap.size + 2, 10, none⟩ (.slice a4 s.n.C.length q4)).setCell ⟨w.heap.size + 2, 11, none⟩ (.int .i64 s.s0)).setCell ⟨w.heap.size + 2, 12, none⟩ (.int .i64 s.s1)).heap[w.heap.size + 2]? = some (.cells #[.int .i64 s.ep, .int .i64 s.a.e, .int .i64 s.a.b, .int .i64 s.a.k, .slice a1 s.a.M.length q1, .slice a2 s.a.C.length q2, .int .i64 s.n.e, .int .i64 s.n.b, .int .i64 s.n.k, .slice a3 s.n.M.length q3, .slice a4 s.n.C.length q4, .int .i64 s.s0, .int .i64 s.s1] 42) := heap_set_self g12 12 _
    have gO : Only (w.heap.size + 2) w2 (((((((((((((w2.setCell ⟨w.heap.size + 2, 0, none⟩ (.int .i64 s.ep)).setCell ⟨w.heap.size + 2, 1, none⟩ (.int .i64 s.a.e)).setCell ⟨w.heap.size + 2, 2, none⟩ (.int .i64 s.a.b)).setCell ⟨w.heap.size + 2, 3, none⟩ (.int .i64 s.a.k)).setCell ⟨w.heap.size + 2, 4, none⟩ (.slice a1 s.a.M.length q1)).setCell ⟨w.heap.size + 2, 5, none⟩ (.slice a2 s.a.C.length q2)).setCell ⟨w.heap.size + 2, 6, none⟩ (.int .i64 s.n.e)).setCell ⟨w.heap.size + 2, 7, none⟩ (.int .i64 s.n.b)).setCell ⟨w.heap.size + 2, 8, none⟩ (.int .i64 s.n.k)).setCell ⟨w.heap.size + 2, 9, none⟩ (.slice a3 s.n.M.length q3)).setCell ⟨w.heap.size + 2, 10, none⟩ (.slice a4 s.n.C.length q4)).setCell ⟨w.heap.size + 2, 11, none⟩ (.int .i64 s.s0)).setCell ⟨w.heap.size + 2, 12, none⟩ (.int .i64 s.s1)) := (((((((((((((Only.refl _ _).set 0 _).set 1 _).set 2 _).set 3 _).set 4 _).set 5 _).set 6 _).set 7 _).set 8 _).set 9 _).set 10 _).set 11 _).set 12 _
    have HF := Lib.hid (And.intro g13 (HB2.out.bl.trans (gO.below (B := w.heap.size) (by omega) HB2.out.bl.size)))
    clear g1 g2 g3 g4 g5 g6 g7 g8 g9 g10 g11 g12 g13 gO
    go_wp2_with fail
    generalize (((((((((((((w2.setCell ⟨w.heap.size + 2, 0, none⟩ (.int .i64 s.ep)).setCell ⟨w.heap.size + 2, 1, none⟩ (.int .i64 s.a.e)).setCell ⟨w.heap.size + 2, 2, none⟩ (.int .i64 s.a.b)).setCell ⟨w.heap.size + 2, 3, none⟩ (.int .i64 s.a.k)).setCell ⟨w.heap.size + 2, 4, none⟩ (.slice a1 s.a.M.length q1)).setCell ⟨w.heap.size + 2, 5, none⟩ (.slice a2 s.a.C.length q2)).setCell ⟨w.heap.size + 2, 6, none⟩ (.int .i64 s.n.e)).setCell ⟨w.heap.size + 2, 7, none⟩ (.int .i64 s.n.b)).setCell ⟨w.heap.size + 2, 8, none⟩ (.int .i64 s.n.k)).setCell ⟨w.heap.size + 2, 9, none⟩ (.slice a3 s.n.M.length q3)).setCell ⟨w.heap.size + 2, 10, none⟩ (.slice a4 s.n.C.length q4)).setCell ⟨w.heap.size + 2, 11, none⟩ (.int .i64 s.s0)).setCell ⟨w.heap.size + 2, 12, none⟩ (.int .i64 s.s1)) = wf at *
    have fi := HF.out.1
    have t0 := cell_atD fi 0 (v := .int .i64 s.ep) rfl
    have t1 := cell_atD fi 1 (v := .int .i64 s.a.e) rfl
    have t2 := cell_atD fi 2 (v := .int .i64 s.a.b) rfl
    have t3 := cell_atD fi 3 (v := .int .i64 s.a.k) rfl
    have t4 := cell_atD fi 4 (v := .slice a1 s.a.M.length q1) rfl
    have t5 := cell_atD fi 5 (v := .slice a2 s.a.C.length q2) rfl
    have t6 := cell_atD fi 6 (v := .int .i64 s.n.e) rfl
    have t7 := cell_atD fi 7 (v := .int .i64 s.n.b) rfl
    have t8 := cell_atD fi 8 (v := .int .i64 s.n.k) rfl
    have t9 := cell_atD fi 9 (v := .slice a3 s.n.M.length q3) rfl
    have t10 := cell_atD fi 10 (v := .slice a4 s.n.C.length q4) rfl
    have t11 := cell_atD fi 11 (v := .int .i64 s.s0) rfl
    have t12 := cell_atD fi 12 (v := .int .i64 s.s1) rfl
    clear fi
    refine bodyPost_ret (v := .agg #[.int .i64 s.ep, .int .i64 s.a.e, .int .i64 s.a.b, .int .i64 s.a.k, .slice a1 s.a.M.length q1, .slice a2 s.a.C.length q2, .int .i64 s.n.e, .int .i64 s.n.b, .int .i64 s.n.k, .slice a3 s.n.M.length q3, .slice a4 s.n.C.length q4, .int .i64 s.s0, .int .i64 s.s1]) (by simp [results, Try.results14, go_sem, t0, t1, t2, t3, t4, t5, t6, t7, t8, t9, t10, t11, t12]) rfl ?_
    exact ⟨s, a1, q1, a2, q2, a3, q3, a4, q4, rfl, ⟨HG.out.1, HG.out.2.1⟩, HS.out.2.2.1, HF.out.2⟩
  · have HM := Lib.hid hmk
    obtain ⟨hx0, hx1, -, -, -⟩ := mayK_in hmk
    have hxc : x = 0 ∨ x = 1 ∨ x = 2 := by omega
    clear hmk hx0 hx1
    have k0 := cell_atD HB2.out.cm 0 (v := .int .i64 x) rfl
    have k1 := cell_atD HB2.out.cm 1 (v := .int .i64 c.e) rfl
    have k2 := cell_atD HB2.out.cm 2 (v := .int .i64 c.b) rfl
    have k3 := cell_atD HB2.out.cm 3 (v := .int .i64 c.k) rfl
    have k4 := cell_atD HB2.out.cm 4 (v := .slice b1 c.M.length p1) rfl
    have k5 := cell_atD HB2.out.cm 5 (v := .slice b2 c.C.length p2) rfl
    rcases hxc with rfl | rfl | rfl
    · go_wp2_with fail
      go_quiet (fail)
      have HB3 := Lib.hid (HB2.out.below (below_drewN' (Below.refl _ _) nq))
      clear k0 k1 k2 k3 k4 k5
      generalize w2.drewN nq = w3 at *
      have k0 := cell_atD HB3.out.cm 0 (v := .int .i64 0) rfl
      have k1 := cell_atD HB3.out.cm 1 (v := .int .i64 c.e) rfl
      have k2 := cell_atD HB3.out.cm 2 (v := .int .i64 c.b) rfl
      have k3 := cell_atD HB3.out.cm 3 (v := .int .i64 c.k) rfl
      have k4 := cell_atD HB3.out.cm 4 (v := .slice b1 c.M.length p1) rfl
      have k5 := cell_atD HB3.out.cm 5 (v := .slice b2 c.C.length p2) rfl
      go_upto_region 10 with fail
      clear k0 k1 k2 k3 k4 k5
      have x0 := cell_atD HB3.out.st 0 (v := .int .i64 s.ep) rfl
      have x1 := cell_atD HB3.out.st 1 (v := .int .i64 s.a.e) rfl
      have x2 := cell_atD HB3.out.st 2 (v := .int .i64 s.a.b) rfl
      have x3 := cell_atD HB3.out.st 3 (v := .int .i64 s.a.k) rfl
      have x4 := cell_atD HB3.out.st 4 (v := .slice a1 s.a.M.length q1) rfl
      have x5 := cell_atD HB3.out.st 5 (v := .slice a2 s.a.C.length q2) rfl
      have x6 := cell_atD HB3.out.st 6 (v := .int .i64 s.n.e) rfl
      have x7 := cell_atD HB3.out.st 7 (v := .int .i64 s.n.b) rfl
      have x8 := cell_atD HB3.out.st 8 (v := .int .i64 s.n.k) rfl
      have x9 := cell_atD HB3.out.st 9 (v := .slice a3 s.n.M.length q3) rfl
      have x10 := cell_atD HB3.out.st 10 (v := .slice a4 s.n.C.length q4) rfl
      have x11 := cell_atD HB3.out.st 11 (v := .int .i64 s.s0) rfl
      have x12 := cell_atD HB3.out.st 12 (v := .int .i64 s.s1) rfl
      have z0 := cell_atD HB3.out.rs 0 (v := .int .i64 0) rfl
      have z1 := cell_atD HB3.out.rs 1 (v := .int .i64 0) rfl
      have z2 := cell_atD HB3.out.rs 2 (v := .int .i64 0) rfl
      have z3 := cell_atD HB3.out.rs 3 (v := .int .i64 0) rfl
      have z4 := cell_atD HB3.out.rs 4 (v := .slice none 0 0) rfl
      have z5 := cell_atD HB3.out.rs 5 (v := .slice none 0 0) rfl
      have z6 := cell_atD HB3.out.rs 6 (v := .int .i64 0) rfl
      have z7 := cell_atD HB3.out.rs 7 (v := .int .i64 0) rfl
      have z8 := cell_atD HB3.out.rs 8 (v := .int .i64 0) rfl
      have z9 := cell_atD HB3.out.rs 9 (v := .slice none 0 0) rfl
      have z10 := cell_atD HB3.out.rs 10 (v := .slice none 0 0) rfl
      have z11 := cell_atD HB3.out.rs 11 (v := .int .i64 0) rfl
      have z12 := cell_atD HB3.out.rs 12 (v := .int .i64 0) rfl
      have fz : ∀ o, w3.frozen? ⟨w.heap.size + 2, o, none⟩ = false := fun o => by simp [World.frozen?, HB3.out.rs]
      have g1 : (w3.setCell ⟨w.heap.size + 2, 0, none⟩ (.int .i64 s.ep)).heap[w.heap.size + 2]? = some (.cells #[.int .i64 s.ep, .int .i64 0, .int .i64 0, .int .i64 0, .slice none 0 0, .slice none 0 0, .int .i64 0, .int .i64 0, .int .i64 0, .slice none 0 0, .slice none 0 0, .int .i64 0, .int .i64 0] 42) := heap_set_self HB3.out.rs 0 _
      have g2 : ((w3.setCell ⟨w.heap.size + 2, 0, none⟩ (.int .i64 s.ep)).setCell ⟨w.heap.size + 2, 1, none⟩ (.int .i64 s.a.e)).heap[w.heap.size + 2]? = some (.cells #[.int .i64 s.ep, .int .i64 s.a.e, .int .i64 0, .int .i64 0, .slice none 0 0, .slice none 0 0, .int .i64 0, .int .i64 0, .int .i64 0, .slice none 0 0, .slice none 0 0, .int .i64 0, .int .i64 0] 42) := heap_set_self g1 1 _
      have g3 : (((w3.setCell ⟨w.heap.size + 2, 0, none⟩ (.int .i64 s.ep)).setCell ⟨w.heap.size + 2, 1, none⟩ (.int .i64 s.a.e)).setCell ⟨w.heap.size + 2, 2, none⟩ (.int .i64 s.a.b)).heap[w.heap.size + 2]? = some (.cells #[.int .i64 s.ep, .int .i64 s.a.e, .int .i64 s.a.b, .int .i64 0, .slice none 0 0, .slice none 0 0, .int .i64 0, .int .i64 0, .int .i64 0, .slice none 0 0, .slice none 0 0, .int .i64 0, .int .i64 0] 42) := heap_set_self g2 2 _
      have g4 : ((((w3.setCell ⟨w.heap.size + 2, 0, none⟩ (.int .i64 s.ep)).setCell ⟨w.heap.size + 2, 1, none⟩ (.int .i64 s.a.e)).setCell ⟨w.heap.size + 2, 2, none⟩ (.int .i64 s.a.b)).setCell ⟨w.heap.size + 2, 3, none⟩ (.int .i64 s.a.k)).heap[w.heap.size + 2]? = some (.cells #[.int .i64 s.ep, .int .i64 s.a.e, .int .i64 s.a.b, .int .i64 s.a.k, .slice none 0 0, .slice none 0 0, .int .i64 0, .int .i64 0, .int .i64 0, .slice none 0 0, .slice none 0 0, .int .i64 0, .int .i64 0] 42) := heap_set_self g3 3 _
      have g5 : (((((w3.setCell ⟨w.heap.size + 2, 0, none⟩ (.int .i64 s.ep)).setCell ⟨w.heap.size + 2, 1, none⟩ (.int .i64 s.a.e)).setCell ⟨w.heap.size + 2, 2, none⟩ (.int .i64 s.a.b)).setCell ⟨w.heap.size + 2, 3, none⟩ (.int .i64 s.a.k)).setCell ⟨w.heap.size + 2, 4, none⟩ (.slice a1 s.a.M.length q1)).heap[w.heap.size + 2]? = some (.cells #[.int .i64 s.ep, .int .i64 s.a.e, .int .i64 s.a.b, .int .i64 s.a.k, .slice a1 s.a.M.length q1, .slice none 0 0, .int .i64 0, .int .i64 0, .int .i64 0, .slice none 0 0, .slice none 0 0, .int .i64 0, .int .i64 0] 42) := heap_set_self g4 4 _
      have g6 : ((((((w3.setCell ⟨w.heap.size + 2, 0, none⟩ (.int .i64 s.ep)).setCell ⟨w.heap.size + 2, 1, none⟩ (.int .i64 s.a.e)).setCell ⟨w.heap.size + 2, 2, none⟩ (.int .i64 s.a.b)).setCell ⟨w.heap.size + 2, 3, none⟩ (.int .i64 s.a.k)).setCell ⟨w.heap.size + 2, 4, none⟩ (.slice a1 s.a.M.length q1)).setCell ⟨w.heap.size + 2, 5, none⟩ (.slice a2 s.a.C.length q2)).heap[w.heap.size + 2]? = some (.cells #[.int .i64 s.ep, .int .i64 s.a.e, .int .i64 s.a.b, .int .i64 s.a.k, .slice a1 s.a.M.length q1, .slice a2 s.a.C.length q2, .int .i64 0, .int .i64 0, .int .i64 0, .slice none 0 0, .slice none 0 0, .int .i64 0, .int .i64 0] 42) := heap_set_self g5 5 _
      have g7 : (((((((w3.setCell ⟨w.heap.size + 2, 0, none⟩ (.int .i64 s.ep)).setCell ⟨w.heap.size + 2, 1, none⟩ (.int .i64 s.a.e)).setCell ⟨w.heap.size + 2, 2, none⟩ (.int .i64 s.a.b)).setCell ⟨w.heap.size + 2, 3, none⟩ (.int .i64 s.a.k)).setCell ⟨w.heap.size + 2, 4, none⟩ (.slice a1 s.a.M.length q1)).setCell ⟨w.heap.size + 2, 5, none⟩ (.slice a2 s.a.C.length q2)).setCell ⟨w.heap.size + 2, 6, none⟩ (.int .i64 s.n.e)).heap[w.heap.size + 2]? = some (.cells #[.int .i64 s.ep, .int .i64 s.a.e, .int .i64 s.a.b, .int .i64 s.a.k, .slice a1 s.a.M.length q1, .slice a2 s.a.C.length q2, .int .i64 s.n.e, .int .i64 0, .int .i64 0, .slice none 0 0, .slice none 0 0, .int .i64 0, .int .i64 0] 42) := heap_set_self g6 6 _
      have g8 : ((((((((w3.setCell ⟨w.heap.size + 2, 0, none⟩ (.int .i64 s.ep)).setCell ⟨w.heap.size + 2, 1, none⟩ (.int .i64 s.a.e)).setCell ⟨w.heap.size + 2, 2, none⟩ (.int .i64 s.a.b)).setCell ⟨w.heap.size + 2, 3, none⟩ (.int .i64 s.a.k)).setCell ⟨w.heap.size + 2, 4, none⟩ (.slice a1 s.a.M.length q1)).setCell ⟨w.heap.size + 2, 5, none⟩ (.slice a2 s.a.C.length q2)).setCell ⟨w.heap.size + 2, 6, none⟩ (.int .i64 s.n.e)).setCell ⟨w.heap.size + 2, 7, none⟩ (.int .i64 s.n.b)).heap[w.heap.size + 2]? = some (.cells #[.int .i64 s.ep, .int .i64 s.a.e, .int .i64 s.a.b, .int .i64 s.a.k, .slice a1 s.a.M.length q1, .slice a2 s.a.C.length q2, .int .i64 s.n.e, .int .i64 s.n.b, .int .i64 0, .slice none 0 0, .slice none 0 0, .int .i64 0, .int .i64 0] 42) := heap_set_self g7 7 _
      have g9 : (((((((((w3.setCell ⟨w.heap.size + 2, 0, none⟩ (.int .i64 s.ep)).setCell ⟨w.heap.size + 2, 1, none⟩ (.int .i64 s.a.e)).setCell ⟨w.heap.size + 2, 2, none⟩ (.int .i64 s.a.b)).setCell ⟨w.heap.size + 2, 3, none⟩ (.int .i64 s.a.k)).setCell ⟨w.heap.size + 2, 4, none⟩ (.slice a1 s.a.M.length q1)).setCell ⟨w.heap.size + 2, 5, none⟩ (.slice a2 s.a.C.length q2)).setCell ⟨w.heap.size + 2, 6, none⟩ (.int .i64 s.n.e)).setCell ⟨w.heap.size + 2, 7, none⟩ (.int .i64 s.n.b)).setCell ⟨w.heap.size + 2, 8, none⟩ (.int .i64 s.n.k)).heap[w.heap.size + 2]? = some (.cells #[.int .i64 s.ep, .int .i64 s.a.e, .int .i64 s.a.b, .int .i64 s.a.k, .slice a1 s.a.M.length q1, .slice a2 s.a.C.length q2, .int .i64 s.n.e, .int .i64 s.n.b, .int .i64 s.n.k, .slice none 0 0, .slice none 0 0, .int .i64 0, .int .i64 0] 42) := heap_set_self g8 8 _
      have g10 : ((((((((((w3.setCell ⟨w.heap.size + 2, 0, none⟩ (.int .i64 s.ep)).setCell ⟨w.heap.size + 2, 1, none⟩ (.int .i64 s.a.e)).setCell ⟨w.heap.size + 2, 2, none⟩ (.int .i64 s.a.b)).setCell ⟨w.heap.size + 2, 3, none⟩ (.int .i64 s.a.k)).setCell ⟨w.heap.size + 2, 4, none⟩ (.slice a1 s.a.M.length q1)).setCell ⟨w.heap.size + 2, 5, none⟩ (.slice a2 s.a.C.length q2)).setCell ⟨w.heap.size + 2, 6, none⟩ (.int .i64 s.n.e)).setCell ⟨w.heap.size + 2, 7, none⟩ (.int .i64 s.n.b)).setCell ⟨w.heap.size + 2, 8, none⟩ (.int .i64 s.n.k)).setCell ⟨w.heap.size + 2, 9, none⟩ (.slice a3 s.n.M.length q3)).heap[w.heap.size + 2]? = some (.cells #[.int .i64 s.ep, .int .i64 s.a.e, .int .i64 s.a.b, .int .i64 s.a.k, .slice a1 s.a.M.length q1, .slice a2 s.a.C.length q2, .int .i64 s.n.e, .int .i64 s.n.b, .int .i64 s.n.k, .slice a3 s.n.M.length q3, .slice none 0 0, .int .i64 0, .int .i64 0] 42) := heap_set_self g9 9 _
      have g11 : (((((((((((w3.setCell ⟨w.heap.size + 2, 0, none⟩ (.int .i64 s.ep)).setCell ⟨w.heap.size + 2, 1, none⟩ (.int .i64 s.a.e)).setCell ⟨w.heap.size + 2, 2, none⟩ (.int .i64 s.a.b)).setCell ⟨w.heap.size + 2, 3, none⟩ (.int .i64 s.a.k)).setCell ⟨w.heap.size + 2, 4, none⟩ (.slice a1 s.a.M.length q1)).setCell ⟨w.heap.size + 2, 5, none⟩ (.slice a2 s.a.C.length q2)).setCell ⟨w.heap.size + 2, 6, none⟩ (.int .i64 s.n.e)).setCell ⟨w.heap.size + 2, 7, none⟩ (.int .i64 s.n.b)).setCell ⟨w.heap.size + 2, 8, none⟩ (.int .i64 s.n.k)).setCell ⟨w.heap.size + 2, 9, none⟩ (.slice a3 s.n.M.length q3)).setCell ⟨w.heap.size + 2, 10, none⟩ (.slice a4 s.n.C.length q4)).heap[w.heap.size + 2]? = some (.cells #[.int .i64 s.ep, .int .i64 s.a.e, .int .i64 s.a.b, .int .i64 s.a.k, .slice a1 s.a.M.length q1, .slice a2 s.a.C.length q2, .int .i64 s.n.e, .int .i64 s.n.b, .int .i64 s.n.k, .slice a3 s.n.M.length q3, .slice a4 s.n.C.length q4, .int .i64 0, .int .i64 0] 42) := heap_set_self g10 10 _
      have g12 : ((((((((((((w3.setCell ⟨w.heap.size + 2, 0, none⟩ (.int .i64 s.ep)).setCell ⟨w.heap.size + 2, 1, none⟩ (.int .i64 s.a.e)).setCell ⟨w.heap.size + 2, 2, none⟩ (.int .i64 s.a.b)).setCell ⟨w.heap.size + 2, 3, none⟩ (.int .i64 s.a.k)).setCell ⟨w.heap.size + 2, 4, none⟩ (.slice a1 s.a.M.length q1)).setCell ⟨w.heap.size + 2, 5, none⟩ (.slice a2 s.a.C.length q2)).setCell ⟨w.heap.size + 2, 6, none⟩ (.int .i64 s.n.e)).setCell ⟨w.heap.size + 2, 7, none⟩ (.int .i64 s.n.b)).setCell ⟨w.heap.size + 2, 8, none⟩ (.int .i64 s.n.k)).setCell ⟨w.heap.size + 2, 9, none⟩ (.slice a3 s.n.M.length q3)).setCell ⟨w.heap.size + 2, 10, none⟩ (.slice a4 s.n.C.length q4)).setCell ⟨w.heap.size + 2, 11, none⟩ (.int .i64 s.s0)).heap[w.heap.size + 2]? = some (.cells #[.int .i64 s.ep, .int .i64 s.a.e, .int .i64 s.a.b, .int .i64 s.a.k, .slice a1 s.a.M.length q1, .slice a2 s.a.C.length q2, .int .i64 s.n.e, .int .i64 s.n.b, .int .i64 s.n.k, .slice a3 s.n.M.length q3, .slice a4 s.n.C.length q4, .int .i64 s.s0, .int .i64 0] 42) := heap_set_self g11 11 _
      have g13 : (((((((((((((w3.setCell ⟨w.heap.size + 2, 0, none⟩ (.int .i64 s.ep)).setCell ⟨w.heap.size + 2, 1, none⟩ (.int .i64 s.a.e)).setCell ⟨w.heap.size + 2, 2, none⟩ (.int .i64 s.a.b)).setCell ⟨w.heap.size + 2, 3, none⟩ (.int .i64 s.a.k)).setCell ⟨w.heap.size + 2, 4, none⟩ (.slice a1 s.a.M.length q1)).setCell ⟨w.heap.size + 2, 5, none⟩ (.slice a2 s.a.C.length q2)).setCell ⟨w.heap.size + 2, 6, none⟩ (.int .i64 s.n.e)).setCell ⟨w.heap.size + 2, 7, none⟩ (.int .i64 s.n.b)).setCell ⟨w.heap.size + 2, 8, none⟩ (.int .i64 s.n.k)).setCell ⟨w.heap.size + 2, 9, none⟩ (.slice a3 s.n.M.length q3)).setCell ⟨w.heap.size + 2, 10, none⟩ (.slice a4 s.n.C.length q4)).setCell ⟨w.heap.size + 2, 11, none⟩ (.int .i64 s.s0)).setCell ⟨w.heap.size + 2, 12, none⟩ (.int .i64 s.s1)).heap[w.heap.size + 2]? = some (.cells #[.int .i64 s.ep, .int .i64 s.a.e, .int .i64 s.a.b, .int .i64 s.a.k, .slice a1 s.a.M.length q1, .slice a2 s.a.C.length q2, .int .i64 s.n.e, .int .i64 s.n.b, .int .i64 s.n.k, .slice a3 s.n.M.length q3, .slice a4 s.n.C.length q4, .int .i64 s.s0, .int .i64 s.s1] 42) := heap_set_self g12 12 _
      have gO : Only (w.heap.size + 2) w3 (((((((((((((w3.setCell ⟨w.heap.size + 2, 0, none⟩ (.int .i64 s.ep)).setCell ⟨w.heap.size + 2, 1, none⟩ (.int .i64 s.a.e)).setCell ⟨w.heap.size + 2, 2, none⟩ (.int .i64 s.a.b)).setCell ⟨w.heap.size + 2, 3, none⟩ (.int .i64 s.a.k)).setCell ⟨w.heap.size + 2, 4, none⟩ (.slice a1 s.a.M.length q1)).setCell ⟨w.heap.size + 2, 5, none⟩ (.slice a2 s.a.C.length q2)).setCell ⟨w.heap.size + 2, 6, none⟩ (.int .i64 s.n.e)).setCell ⟨w.heap.size + 2, 7, none⟩ (.int .i64 s.n.b)).setCell ⟨w.heap.size + 2, 8, none⟩ (.int .i64 s.n.k)).setCell ⟨w.heap.size + 2, 9, none⟩ (.slice a3 s.n.M.length q3)).setCell ⟨w.heap.size + 2, 10, none⟩ (.slice a4 s.n.C.length q4)).setCell ⟨w.heap.size + 2, 11, none⟩ (.int .i64 s.s0)).setCell ⟨w.heap.size + 2, 12, none⟩ (.int .i64 s.s1)) := (((((((((((((Only.refl _ _).set 0 _).set 1 _).set 2 _).set 3 _).set 4 _).set 5 _).set 6 _).set 7 _).set 8 _).set 9 _).set 10 _).set 11 _).set 12 _
      have HF := Lib.hid (And.intro g13 (HB3.out.bl.trans (gO.below (B := w.heap.size) (by omega) HB3.out.bl.size)))
      clear g1 g2 g3 g4 g5 g6 g7 g8 g9 g10 g11 g12 g13 gO
      go_wp2_with fail
      generalize (((((((((((((w3.setCell ⟨w.heap.size + 2, 0, none⟩ (.int .i64 s.ep)).setCell ⟨w.heap.size + 2, 1, none⟩ (.int .i64 s.a.e)).setCell ⟨w.heap.size + 2, 2, none⟩ (.int .i64 s.a.b)).setCell ⟨w.heap.size + 2, 3, none⟩ (.int .i64 s.a.k)).setCell ⟨w.heap.size + 2, 4, none⟩ (.slice a1 s.a.M.length q1)).setCell ⟨w.heap.size + 2, 5, none⟩ (.slice a2 s.a.C.length q2)).setCell ⟨w.heap.size + 2, 6, none⟩ (.int .i64 s.n.e)).setCell ⟨w.heap.size + 2, 7, none⟩ (.int .i64 s.n.b)).setCell ⟨w.heap.size + 2, 8, none⟩ (.int .i64 s.n.k)).setCell ⟨w.heap.size + 2, 9, none⟩ (.slice a3 s.n.M.length q3)).setCell ⟨w.heap.size + 2, 10, none⟩ (.slice a4 s.n.C.length q4)).setCell ⟨w.heap.size + 2, 11, none⟩ (.int .i64 s.s0)).setCell ⟨w.heap.size + 2, 12, none⟩ (.int .i64 s.s1)) = wf at *
      have fi := HF.out.1
      have t0 := cell_atD fi 0 (v := .int .i64 s.ep) rfl
      have t1 := cell_atD fi 1 (v := .int .i64 s.a.e) rfl
      have t2 := cell_atD fi 2 (v := .int .i64 s.a.b) rfl
      have t3 := cell_atD fi 3 (v := .int .i64 s.a.k) rfl
      have t4 := cell_atD fi 4 (v := .slice a1 s.a.M.length q1) rfl
      have t5 := cell_atD fi 5 (v := .slice a2 s.a.C.length q2) rfl
      have t6 := cell_atD fi 6 (v := .int .i64 s.n.e) rfl
      have t7 := cell_atD fi 7 (v := .int .i64 s.n.b) rfl
      have t8 := cell_atD fi 8 (v := .int .i64 s.n.k) rfl
      have t9 := cell_atD fi 9 (v := .slice a3 s.n.M.length q3) rfl
      have t10 := cell_atD fi 10 (v := .slice a4 s.n.C.length q4) rfl
      have t11 := cell_atD fi 11 (v := .int .i64 s.s0) rfl
      have t12 := cell_atD fi 12 (v := .int .i64 s.s1) rfl
      clear fi
      refine bodyPost_ret (v := .agg #[.int .i64 s.ep, .int .i64 s.a.e, .int .i64 s.a.b, .int .i64 s.a.k, .slice a1 s.a.M.length q1, .slice a2 s.a.C.length q2, .int .i64 s.n.e, .int .i64 s.n.b, .int .i64 s.n.k, .slice a3 s.n.M.length q3, .slice a4 s.n.C.length q4, .int .i64 s.s0, .int .i64 s.s1]) (by simp [results, Try.results14, go_sem, t0, t1, t2, t3, t4, t5, t6, t7, t8, t9, t10, t11, t12]) rfl ?_
      exact ⟨s, a1, q1, a2, q2, a3, q3, a4, q4, rfl, ⟨HG.out.1, HG.out.2.1⟩, HS.out.2.2.1, HF.out.2⟩
    · obtain ⟨hcb, -, hck, -⟩ := may_wish HM.out
      have hlc := (mayK_in HM.out).2.2.1
      have hckl := hlc.1.2 c.k (by simp)
      have x0 := cell_atD HB2.out.st 0 (v := .int .i64 s.ep) rfl
      have x1 := cell_atD HB2.out.st 1 (v := .int .i64 s.a.e) rfl
      have x2 := cell_atD HB2.out.st 2 (v := .int .i64 s.a.b) rfl
      have x3 := cell_atD HB2.out.st 3 (v := .int .i64 s.a.k) rfl
      have x4 := cell_atD HB2.out.st 4 (v := .slice a1 s.a.M.length q1) rfl
      have x5 := cell_atD HB2.out.st 5 (v := .slice a2 s.a.C.length q2) rfl
      have x6 := cell_atD HB2.out.st 6 (v := .int .i64 s.n.e) rfl
      have x7 := cell_atD HB2.out.st 7 (v := .int .i64 s.n.b) rfl
      have x8 := cell_atD HB2.out.st 8 (v := .int .i64 s.n.k) rfl
      have x9 := cell_atD HB2.out.st 9 (v := .slice a3 s.n.M.length q3) rfl
      have x10 := cell_atD HB2.out.st 10 (v := .slice a4 s.n.C.length q4) rfl
      have x11 := cell_atD HB2.out.st 11 (v := .int .i64 s.s0) rfl
      have x12 := cell_atD HB2.out.st 12 (v := .int .i64 s.s1) rfl
      have hep0 := HS.out.2.2.1.1.1
      have hep1 := HS.out.2.2.1.1.2
      rcases hcb with hcb | hcb
      · rw [hcb] at k2
        have HCB := Lib.hid hcb
        clear hcb
        rcases ht : decide (s.s0 < c.k) with _ | _
        · have htp : ¬ s.s0 < c.k := by simpa using ht
          go_wp2_with fail
          go_quiet (fail)
          have HB3 := Lib.hid (HB2.out.below (below_drewN' (Below.refl _ _) nq))
          clear k0 k1 k2 k3 k4 k5 x0 x1 x2 x3 x4 x5 x6 x7 x8 x9 x10 x11 x12
          generalize w2.drewN nq = w3 at *
          have k0 := cell_atD HB3.out.cm 0 (v := .int .i64 1) rfl
          have k1 := cell_atD HB3.out.cm 1 (v := .int .i64 c.e) rfl
          have k2 := cell_atD HB3.out.cm 2 (v := .int .i64 c.b) rfl
          have k3 := cell_atD HB3.out.cm 3 (v := .int .i64 c.k) rfl
          have k4 := cell_atD HB3.out.cm 4 (v := .slice b1 c.M.length p1) rfl
          have k5 := cell_atD HB3.out.cm 5 (v := .slice b2 c.C.length p2) rfl
          go_upto_region 10 with fail
          clear k0 k1 k2 k3 k4 k5
          have x0 := cell_atD HB3.out.st 0 (v := .int .i64 s.ep) rfl
          have x1 := cell_atD HB3.out.st 1 (v := .int .i64 s.a.e) rfl
          have x2 := cell_atD HB3.out.st 2 (v := .int .i64 s.a.b) rfl
          have x3 := cell_atD HB3.out.st 3 (v := .int .i64 s.a.k) rfl
          have x4 := cell_atD HB3.out.st 4 (v := .slice a1 s.a.M.length q1) rfl
          have x5 := cell_atD HB3.out.st 5 (v := .slice a2 s.a.C.length q2) rfl
          have x6 := cell_atD HB3.out.st 6 (v := .int .i64 s.n.e) rfl
          have x7 := cell_atD HB3.out.st 7 (v := .int .i64 s.n.b) rfl
          have x8 := cell_atD HB3.out.st 8 (v := .int .i64 s.n.k) rfl
          have x9 := cell_atD HB3.out.st 9 (v := .slice a3 s.n.M.length q3) rfl
          have x10 := cell_atD HB3.out.st 10 (v := .slice a4 s.n.C.length q4) rfl
          have x11 := cell_atD HB3.out.st 11 (v := .int .i64 s.s0) rfl
          have x12 := cell_atD HB3.out.st 12 (v := .int .i64 s.s1) rfl
          have z0 := cell_atD HB3.out.rs 0 (v := .int .i64 0) rfl
          have z1 := cell_atD HB3.out.rs 1 (v := .int .i64 0) rfl
          have z2 := cell_atD HB3.out.rs 2 (v := .int .i64 0) rfl
          have z3 := cell_atD HB3.out.rs 3 (v := .int .i64 0) rfl
          have z4 := cell_atD HB3.out.rs 4 (v := .slice none 0 0) rfl
          have z5 := cell_atD HB3.out.rs 5 (v := .slice none 0 0) rfl
          have z6 := cell_atD HB3.out.rs 6 (v := .int .i64 0) rfl
          have z7 := cell_atD HB3.out.rs 7 (v := .int .i64 0) rfl
          have z8 := cell_atD HB3.out.rs 8 (v := .int .i64 0) rfl
          have z9 := cell_atD HB3.out.rs 9 (v := .slice none 0 0) rfl
          have z10 := cell_atD HB3.out.rs 10 (v := .slice none 0 0) rfl
          have z11 := cell_atD HB3.out.rs 11 (v := .int .i64 0) rfl
          have z12 := cell_atD HB3.out.rs 12 (v := .int .i64 0) rfl
          have fz : ∀ o, w3.frozen? ⟨w.heap.size + 2, o, none⟩ = false := fun o => by simp [World.frozen?, HB3.out.rs]
          have g1 : (w3.setCell ⟨w.heap.size + 2, 0, none⟩ (.int .i64 s.ep)).heap[w.heap.size + 2]? = some (.cells #[.int .i64 s.ep, .int .i64 0, .int .i64 0, .int .i64 0, .slice none 0 0, .slice none 0 0, .int .i64 0, .int .i64 0, .int .i64 0, .slice none 0 0, .slice none 0 0, .int .i64 0, .int .i64 0] 42) := heap_set_self HB3.out.rs 0 _
          have g2 : ((w3.setCell ⟨w.heap.size + 2, 0, none⟩ (.int .i64 s.ep)).setCell ⟨w.heap.size + 2, 1, none⟩ (.int .i64 s.a.e)).heap[w.heap.size + 2]? = some (.cells #[.int .i64 s.ep, .int .i64 s.a.e, .int .i64 0, .int .i64 0, .slice none 0 0, .slice none 0 0, .int .i64 0, .int .i64 0, .int .i64 0, .slice none 0 0, .slice none 0 0, .int .i64 0, .int .i64 0] 42) := heap_set_self g1 1 _
          have g3 : (((w3.setCell ⟨w.heap.size + 2, 0, none⟩ (.int .i64 s.ep)).setCell ⟨w.heap.size + 2, 1, none⟩ (.int .i64 s.a.e)).setCell ⟨w.heap.size + 2, 2, none⟩ (.int .i64 s.a.b)).heap[w.heap.size + 2]? = some (.cells #[.int .i64 s.ep, .int .i64 s.a.e, .int .i64 s.a.b, .int .i64 0, .slice none 0 0, .slice none 0 0, .int .i64 0, .int .i64 0, .int .i64 0, .slice none 0 0, .slice none 0 0, .int .i64 0, .int .i64 0] 42) := heap_set_self g2 2 _
          have g4 : ((((w3.setCell ⟨w.heap.size + 2, 0, none⟩ (.int .i64 s.ep)).setCell ⟨w.heap.size + 2, 1, none⟩ (.int .i64 s.a.e)).setCell ⟨w.heap.size + 2, 2, none⟩ (.int .i64 s.a.b)).setCell ⟨w.heap.size + 2, 3, none⟩ (.int .i64 s.a.k)).heap[w.heap.size + 2]? = some (.cells #[.int .i64 s.ep, .int .i64 s.a.e, .int .i64 s.a.b, .int .i64 s.a.k, .slice none 0 0, .slice none 0 0, .int .i64 0, .int .i64 0, .int .i64 0, .slice none 0 0, .slice none 0 0, .int .i64 0, .int .i64 0] 42) := heap_set_self g3 3 _
          have g5 : (((((w3.setCell ⟨w.heap.size + 2, 0, none⟩ (.int .i64 s.ep)).setCell ⟨w.heap.size + 2, 1, none⟩ (.int .i64 s.a.e)).setCell ⟨w.heap.size + 2, 2, none⟩ (.int .i64 s.a.b)).setCell ⟨w.heap.size + 2, 3, none⟩ (.int .i64 s.a.k)).setCell ⟨w.heap.size + 2, 4, none⟩ (.slice a1 s.a.M.length q1)).heap[w.heap.size + 2]? = some (.cells #[.int .i64 s.ep, .int .i64 s.a.e, .int .i64 s.a.b, .int .i64 s.a.k, .slice a1 s.a.M.length q1, .slice none 0 0, .int .i64 0, .int .i64 0, .int .i64 0, .slice none 0 0, .slice none 0 0, .int .i64 0, .int .i64 0] 42) := heap_set_self g4 4 _
          have g6 : ((((((w3.setCell ⟨w.heap.size + 2, 0, none⟩ (.int .i64 s.ep)).setCell ⟨w.heap.size + 2, 1, none⟩ (.int .i64 s.a.e)).setCell ⟨w.heap.size + 2, 2, none⟩ (.int .i64 s.a.b)).setCell ⟨w.heap.size + 2, 3, none⟩ (.int .i64 s.a.k)).setCell ⟨w.heap.size + 2, 4, none⟩ (.slice a1 s.a.M.length q1)).setCell ⟨w.heap.size + 2, 5, none⟩ (.slice a2 s.a.C.length q2)).heap[w.heap.size + 2]? = some (.cells #[.int .i64 s.ep, .int .i64 s.a.e, .int .i64 s.a.b, .int .i64 s.a.k, .slice a1 s.a.M.length q1, .slice a2 s.a.C.length q2, .int .i64 0, .int .i64 0, .int .i64 0, .slice none 0 0, .slice none 0 0, .int .i64 0, .int .i64 0] 42) := heap_set_self g5 5 _
          have g7 : (((((((w3.setCell ⟨w.heap.size + 2, 0, none⟩ (.int .i64 s.ep)).setCell ⟨w.heap.size + 2, 1, none⟩ (.int .i64 s.a.e)).setCell ⟨w.heap.size + 2, 2, none⟩ (.int .i64 s.a.b)).setCell ⟨w.heap.size + 2, 3, none⟩ (.int .i64 s.a.k)).setCell ⟨w.heap.size + 2, 4, none⟩ (.slice a1 s.a.M.length q1)).setCell ⟨w.heap.size + 2, 5, none⟩ (.slice a2 s.a.C.length q2)).setCell ⟨w.heap.size + 2, 6, none⟩ (.int .i64 s.n.e)).heap[w.heap.size + 2]? = some (.cells #[.int .i64 s.ep, .int .i64 s.a.e, .int .i64 s.a.b, .int .i64 s.a.k, .slice a1 s.a.M.length q1, .slice a2 s.a.C.length q2, .int .i64 s.n.e, .int .i64 0, .int .i64 0, .slice none 0 0, .slice none 0 0, .int .i64 0, .int .i64 0] 42) := heap_set_self g6 6 _
          have g8 : ((((((((w3.setCell ⟨w.heap.size + 2, 0, none⟩ (.int .i64 s.ep)).setCell ⟨w.heap.size + 2, 1, none⟩ (.int .i64 s.a.e)).setCell ⟨w.heap.size + 2, 2, none⟩ (.int .i64 s.a.b)).setCell ⟨w.heap.size + 2, 3, none⟩ (.int .i64 s.a.k)).setCell ⟨w.heap.size + 2, 4, none⟩ (.slice a1 s.a.M.length q1)).setCell ⟨w.heap.size + 2, 5, none⟩ (.slice a2 s.a.C.length q2)).setCell ⟨w.heap.size + 2, 6, none⟩ (.int .i64 s.n.e)).setCell ⟨w.heap.size + 2, 7, none⟩ (.int .i64 s.n.b)).heap[w.heap.size + 2]? = some (.cells #[.int .i64 s.ep, .int .i64 s.a.e, .int .i64 s.a.b, .int .i64 s.a.k, .slice a1 s.a.M.length q1, .slice a2 s.a.C.length q2, .int .i64 s.n.e, .int .i64 s.n.b, .int .i64 0, .slice none 0 0, .slice none 0 0, .int .i64 0, .int .i64 0] 42) := heap_set_self g7 7 _
          have g9 : (((((((((w3.setCell ⟨w.heap.size + 2, 0, none⟩ (.int .i64 s.ep)).setCell ⟨w.heap.size + 2, 1, none⟩ (.int .i64 s.a.e)).setCell ⟨w.heap.size + 2, 2, none⟩ (.int .i64 s.a.b)).setCell ⟨w.heap.size + 2, 3, none⟩ (.int .i64 s.a.k)).setCell ⟨w.heap.size + 2, 4, none⟩ (.slice a1 s.a.M.length q1)).setCell ⟨w.heap.size + 2, 5, none⟩ (.slice a2 s.a.C.length q2)).setCell ⟨w.heap.size + 2, 6, none⟩ (.int .i64 s.n.e)).setCell ⟨w.heap.size + 2, 7, none⟩ (.int .i64 s.n.b)).setCell ⟨w.heap.size + 2, 8, none⟩ (.int .i64 s.n.k)).heap[w.heap.size + 2]? = some (.cells #[.int .i64 s.ep, .int .i64 s.a.e, .int .i64 s.a.b, .int .i64 s.a.k, .slice a1 s.a.M.length q1, .slice a2 s.a.C.length q2, .int .i64 s.n.e, .int .i64 s.n.b, .int .i64 s.n.k, .slice none 0 0, .slice none 0 0, .int .i64 0, .int .i64 0] 42) := heap_set_self g8 8 _
          have g10 : ((((((((((w3.setCell ⟨w.heap.size + 2, 0, none⟩ (.int .i64 s.ep)).setCell ⟨w.heap.size + 2, 1, none⟩ (.int .i64 s.a.e)).setCell ⟨w.heap.size + 2, 2, none⟩ (.int .i64 s.a.b)).setCell ⟨w.heap.size + 2, 3, none⟩ (.int .i64 s.a.k)).setCell ⟨w.heap.size + 2, 4, none⟩ (.slice a1 s.a.M.length q1)).setCell ⟨w.heap.size + 2, 5, none⟩ (.slice a2 s.a.C.length q2)).setCell ⟨w.heap.size + 2, 6, none⟩ (.int .i64 s.n.e)).setCell ⟨w.heap.size + 2, 7, none⟩ (.int .i64 s.n.b)).setCell ⟨w.heap.size + 2, 8, none⟩ (.int .i64 s.n.k)).setCell ⟨w.heap.size + 2, 9, none⟩ (.slice a3 s.n.M.length q3)).heap[w.heap.size + 2]? = some (.cells #[.int .i64 s.ep, .int .i64 s.a.e, .int .i64 s.a.b, .int .i64 s.a.k, .slice a1 s.a.M.length q1, .slice a2 s.a.C.length q2, .int .i64 s.n.e, .int .i64 s.n.b, .int .i64 s.n.k, .slice a3 s.n.M.length q3, .slice none 0 0, .int .i64 0, .int .i64 0] 42) := heap_set_self g9 9 _
          have g11 : (((((((((((w3.setCell ⟨w.heap.size + 2, 0, none⟩ (.int .i64 s.ep)).setCell ⟨w.heap.size + 2, 1, none⟩ (.int .i64 s.a.e)).setCell ⟨w.heap.size + 2, 2, none⟩ (.int .i64 s.a.b)).setCell ⟨w.heap.size + 2, 3, none⟩ (.int .i64 s.a.k)).setCell ⟨w.heap.size + 2, 4, none⟩ (.slice a1 s.a.M.length q1)).setCell ⟨w.heap.size + 2, 5, none⟩ (.slice a2 s.a.C.length q2)).setCell ⟨w.heap.size + 2, 6, none⟩ (.int .i64 s.n.e)).setCell ⟨w.heap.size + 2, 7, none⟩ (.int .i64 s.n.b)).setCell ⟨w.heap.size + 2, 8, none⟩ (.int .i64 s.n.k)).setCell ⟨w.heap.size + 2, 9, none⟩ (.slice a3 s.n.M.length q3)).setCell ⟨w.heap.size + 2, 10, none⟩ (.slice a4 s.n.C.length q4)).heap[w.heap.size + 2]? = some (.cells #[.int .i64 s.ep, .int .i64 s.a.e, .int .i64 s.a.b, .int .i64 s.a.k, .slice a1 s.a.M.length q1, .slice a2 s.a.C.length q2, .int .i64 s.n.e, .int .i64 s.n.b, .int .i64 s.n.k, .slice a3 s.n.M.length q3, .slice a4 s.n.C.length q4, .int .i64 0, .int .i64 0] 42) := heap_set_self g10 10 _
          have g12 : ((((((((((((w3.setCell ⟨w.heap.size + 2, 0, none⟩ (.int .i64 s.ep)).setCell ⟨w.heap.size + 2, 1, none⟩ (.int .i64 s.a.e)).setCell ⟨w.heap.size + 2, 2, none⟩ (.int .i64 s.a.b)).setCell ⟨w.heap.size + 2, 3, none⟩ (.int .i64 s.a.k)).setCell ⟨w.heap.size + 2, 4, none⟩ (.slice a1 s.a.M.length q1)).setCell ⟨w.heap.size + 2, 5, none⟩ (.slice a2 s.a.C.length q2)).setCell ⟨w.heap.size + 2, 6, none⟩ (.int .i64 s.n.e)).setCell ⟨w.heap.size + 2, 7, none⟩ (.int .i64 s.n.b)).setCell ⟨w.heap.size + 2, 8, none⟩ (.int .i64 s.n.k)).setCell ⟨w.heap.size + 2, 9, none⟩ (.slice a3 s.n.M.length q3)).setCell ⟨w.heap.size + 2, 10, none⟩ (.slice a4 s.n.C.length q4)).setCell ⟨w.heap.size + 2, 11, none⟩ (.int .i64 s.s0)).heap[w.heap.size + 2]? = some (.cells #[.int .i64 s.ep, .int .i64 s.a.e, .int .i64 s.a.b, .int .i64 s.a.k, .slice a1 s.a.M.length q1, .slice a2 s.a.C.length q2, .int .i64 s.n.e, .int .i64 s.n.b, .int .i64 s.n.k, .slice a3 s.n.M.length q3, .slice a4 s.n.C.length q4, .int .i64 s.s0, .int .i64 0] 42) := heap_set_self g11 11 _
          have g13 : (((((((((((((w3.setCell ⟨w.heap.size + 2, 0, none⟩ (.int .i64 s.ep)).setCell ⟨w.heap.size + 2, 1, none⟩ (.int .i64 s.a.e)).setCell ⟨w.heap.size + 2, 2, none⟩ (.int .i64 s.a.b)).setCell ⟨w.heap.size + 2, 3, none⟩ (.int .i64 s.a.k)).setCell ⟨w.heap.size + 2, 4, none⟩ (.slice a1 s.a.M.length q1)).setCell ⟨w.heap.size + 2, 5, none⟩ (.slice a2 s.a.C.length q2)).setCell ⟨w.heap.size + 2, 6, none⟩ (.int .i64 s.n.e)).setCell ⟨w.heap.size + 2, 7, none⟩ (.int .i64 s.n.b)).setCell ⟨w.heap.size + 2, 8, none⟩ (.int .i64 s.n.k)).setCell ⟨w.heap.size + 2, 9, none⟩ (.slice a3 s.n.M.length q3)).setCell ⟨w.heap.size + 2, 10, none⟩ (.slice a4 s.n.C.length q4)).setCell ⟨w.heap.size + 2, 11, none⟩ (.int .i64 s.s0)).setCell ⟨w.heap.size + 2, 12, none⟩ (.int .i64 s.s1)).heap[w.heap.size + 2]? = some (.cells #[.int .i64 s.ep, .int .i64 s.a.e, .int .i64 s.a.b, .int .i64 s.a.k, .slice a1 s.a.M.length q1, .slice a2 s.a.C.length q2, .int .i64 s.n.e, .int .i64 s.n.b, .int .i64 s.n.k, .slice a3 s.n.M.length q3, .slice a4 s.n.C.length q4, .int .i64 s.s0, .int .i64 s.s1] 42) := heap_set_self g12 12 _
          have gO : Only (w.heap.size + 2) w3 (((((((((((((w3.setCell ⟨w.heap.size + 2, 0, none⟩ (.int .i64 s.ep)).setCell ⟨w.heap.size + 2, 1, none⟩ (.int .i64 s.a.e)).setCell ⟨w.heap.size + 2, 2, none⟩ (.int .i64 s.a.b)).setCell ⟨w.heap.size + 2, 3, none⟩ (.int .i64 s.a.k)).setCell ⟨w.heap.size + 2, 4, none⟩ (.slice a1 s.a.M.length q1)).setCell ⟨w.heap.size + 2, 5, none⟩ (.slice a2 s.a.C.length q2)).setCell ⟨w.heap.size + 2, 6, none⟩ (.int .i64 s.n.e)).setCell ⟨w.heap.size + 2, 7, none⟩ (.int .i64 s.n.b)).setCell ⟨w.heap.size + 2, 8, none⟩ (.int .i64 s.n.k)).setCell ⟨w.heap.size + 2, 9, none⟩ (.slice a3 s.n.M.length q3)).setCell ⟨w.heap.size + 2, 10, none⟩ (.slice a4 s.n.C.length q4)).setCell ⟨w.heap.size + 2, 11, none⟩ (.int .i64 s.s0)).setCell ⟨w.heap.size + 2, 12, none⟩ (.int .i64 s.s1)) := (((((((((((((Only.refl _ _).set 0 _).set 1 _).set 2 _).set 3 _).set 4 _).set 5 _).set 6 _).set 7 _).set 8 _).set 9 _).set 10 _).set 11 _).set 12 _
          have HF := Lib.hid (And.intro g13 (HB3.out.bl.trans (gO.below (B := w.heap.size) (by omega) HB3.out.bl.size)))
          clear g1 g2 g3 g4 g5 g6 g7 g8 g9 g10 g11 g12 g13 gO
          go_wp2_with fail
          generalize (((((((((((((w3.setCell ⟨w.heap.size + 2, 0, none⟩ (.int .i64 s.ep)).setCell ⟨w.heap.size + 2, 1, none⟩ (.int .i64 s.a.e)).setCell ⟨w.heap.size + 2, 2, none⟩ (.int .i64 s.a.b)).setCell ⟨w.heap.size + 2, 3, none⟩ (.int .i64 s.a.k)).setCell ⟨w.heap.size + 2, 4, none⟩ (.slice a1 s.a.M.length q1)).setCell ⟨w.heap.size + 2, 5, none⟩ (.slice a2 s.a.C.length q2)).setCell ⟨w.heap.size + 2, 6, none⟩ (.int .i64 s.n.e)).setCell ⟨w.heap.size + 2, 7, none⟩ (.int .i64 s.n.b)).setCell ⟨w.heap.size + 2, 8, none⟩ (.int .i64 s.n.k)).setCell ⟨w.heap.size + 2, 9, none⟩ (.slice a3 s.n.M.length q3)).setCell ⟨w.heap.size + 2, 10, none⟩ (.slice a4 s.n.C.length q4)).setCell ⟨w.heap.size + 2, 11, none⟩ (.int .i64 s.s0)).setCell ⟨w.heap.size + 2, 12, none⟩ (.int .i64 s.s1)) = wf at *
          have fi := HF.out.1
          have t0 := cell_atD fi 0 (v := .int .i64 s.ep) rfl
          have t1 := cell_atD fi 1 (v := .int .i64 s.a.e) rfl
          have t2 := cell_atD fi 2 (v := .int .i64 s.a.b) rfl
          have t3 := cell_atD fi 3 (v := .int .i64 s.a.k) rfl
          have t4 := cell_atD fi 4 (v := .slice a1 s.a.M.length q1) rfl
          have t5 := cell_atD fi 5 (v := .slice a2 s.a.C.length q2) rfl
          have t6 := cell_atD fi 6 (v := .int .i64 s.n.e) rfl
          have t7 := cell_atD fi 7 (v := .int .i64 s.n.b) rfl
          have t8 := cell_atD fi 8 (v := .int .i64 s.n.k) rfl
          have t9 := cell_atD fi 9 (v := .slice a3 s.n.M.length q3) rfl
          have t10 := cell_atD fi 10 (v := .slice a4 s.n.C.length q4) rfl
          have t11 := cell_atD fi 11 (v := .int .i64 s.s0) rfl
          have t12 := cell_atD fi 12 (v := .int .i64 s.s1) rfl
          clear fi
          refine bodyPost_ret (v := .agg #[.int .i64 s.ep, .int .i64 s.a.e, .int .i64 s.a.b, .int .i64 s.a.k, .slice a1 s.a.M.length q1, .slice a2 s.a.C.length q2, .int .i64 s.n.e, .int .i64 s.n.b, .int .i64 s.n.k, .slice a3 s.n.M.length q3, .slice a4 s.n.C.length q4, .int .i64 s.s0, .int .i64 s.s1]) (by simp [results, Try.results14, go_sem, t0, t1, t2, t3, t4, t5, t6, t7, t8, t9, t10, t11, t12]) rfl ?_
          exact ⟨s, a1, q1, a2, q2, a3, q3, a4, q4, rfl, ⟨HG.out.1, HG.out.2.1⟩, HS.out.2.2.1, HF.out.2⟩
        · rcases ht2 : decide (s.ep < 1048576) with _ | _
          · have htq : s.s0 < c.k := by simpa using ht
            have htp : ¬ s.ep < 1048576 := by simpa using ht2
            go_wp2_with fail
            go_quiet (fail)
            have HB3 := Lib.hid (HB2.out.below (below_drewN' (Below.refl _ _) nq))
            clear k0 k1 k2 k3 k4 k5 x0 x1 x2 x3 x4 x5 x6 x7 x8 x9 x10 x11 x12
            generalize w2.drewN nq = w3 at *
            have k0 := cell_atD HB3.out.cm 0 (v := .int .i64 1) rfl
            have k1 := cell_atD HB3.out.cm 1 (v := .int .i64 c.e) rfl
            have k2 := cell_atD HB3.out.cm 2 (v := .int .i64 c.b) rfl
            have k3 := cell_atD HB3.out.cm 3 (v := .int .i64 c.k) rfl
            have k4 := cell_atD HB3.out.cm 4 (v := .slice b1 c.M.length p1) rfl
            have k5 := cell_atD HB3.out.cm 5 (v := .slice b2 c.C.length p2) rfl
            go_upto_region 10 with fail
            clear k0 k1 k2 k3 k4 k5
            have x0 := cell_atD HB3.out.st 0 (v := .int .i64 s.ep) rfl
            have x1 := cell_atD HB3.out.st 1 (v := .int .i64 s.a.e) rfl
            have x2 := cell_atD HB3.out.st 2 (v := .int .i64 s.a.b) rfl
            have x3 := cell_atD HB3.out.st 3 (v := .int .i64 s.a.k) rfl
            have x4 := cell_atD HB3.out.st 4 (v := .slice a1 s.a.M.length q1) rfl
            have x5 := cell_atD HB3.out.st 5 (v := .slice a2 s.a.C.length q2) rfl
            have x6 := cell_atD HB3.out.st 6 (v := .int .i64 s.n.e) rfl
            have x7 := cell_atD HB3.out.st 7 (v := .int .i64 s.n.b) rfl
            have x8 := cell_atD HB3.out.st 8 (v := .int .i64 s.n.k) rfl
            have x9 := cell_atD HB3.out.st 9 (v := .slice a3 s.n.M.length q3) rfl
            have x10 := cell_atD HB3.out.st 10 (v := .slice a4 s.n.C.length q4) rfl
            have x11 := cell_atD HB3.out.st 11 (v := .int .i64 s.s0) rfl
            have x12 := cell_atD HB3.out.st 12 (v := .int .i64 s.s1) rfl
            have z0 := cell_atD HB3.out.rs 0 (v := .int .i64 0) rfl
            have z1 := cell_atD HB3.out.rs 1 (v := .int .i64 0) rfl
            have z2 := cell_atD HB3.out.rs 2 (v := .int .i64 0) rfl
            have z3 := cell_atD HB3.out.rs 3 (v := .int .i64 0) rfl
            have z4 := cell_atD HB3.out.rs 4 (v := .slice none 0 0) rfl
            have z5 := cell_atD HB3.out.rs 5 (v := .slice none 0 0) rfl
            have z6 := cell_atD HB3.out.rs 6 (v := .int .i64 0) rfl
            have z7 := cell_atD HB3.out.rs 7 (v := .int .i64 0) rfl
            have z8 := cell_atD HB3.out.rs 8 (v := .int .i64 0) rfl
            have z9 := cell_atD HB3.out.rs 9 (v := .slice none 0 0) rfl
            have z10 := cell_atD HB3.out.rs 10 (v := .slice none 0 0) rfl
            have z11 := cell_atD HB3.out.rs 11 (v := .int .i64 0) rfl
            have z12 := cell_atD HB3.out.rs 12 (v := .int .i64 0) rfl
            have fz : ∀ o, w3.frozen? ⟨w.heap.size + 2, o, none⟩ = false := fun o => by simp [World.frozen?, HB3.out.rs]
            have g1 : (w3.setCell ⟨w.heap.size + 2, 0, none⟩ (.int .i64 s.ep)).heap[w.heap.size + 2]? = some (.cells #[.int .i64 s.ep, .int .i64 0, .int .i64 0, .int .i64 0, .slice none 0 0, .slice none 0 0, .int .i64 0, .int .i64 0, .int .i64 0, .slice none 0 0, .slice none 0 0, .int .i64 0, .int .i64 0] 42) := heap_set_self HB3.out.rs 0 _
            have g2 : ((w3.setCell ⟨w.heap.size + 2, 0, none⟩ (.int .i64 s.ep)).setCell ⟨w.heap.size + 2, 1, none⟩ (.int .i64 s.a.e)).heap[w.heap.size + 2]? = some (.cells #[.int .i64 s.ep, .int .i64 s.a.e, .int .i64 0, .int .i64 0, .slice none 0 0, .slice none 0 0, .int .i64 0, .int .i64 0, .int .i64 0, .slice none 0 0, .slice none 0 0, .int .i64 0, .int .i64 0] 42) := heap_set_self g1 1 _
            have g3 : (((w3.setCell ⟨w.heap.size + 2, 0, none⟩ (.int .i64 s.ep)).setCell ⟨w.heap.size + 2, 1, none⟩ (.int .i64 s.a.e)).setCell ⟨w.heap.size + 2, 2, none⟩ (.int .i64 s.a.b)).heap[w.heap.size + 2]? = some (.cells #[.int .i64 s.ep, .int .i64 s.a.e, .int .i64 s.a.b, .int .i64 0, .slice none 0 0, .slice none 0 0, .int .i64 0, .int .i64 0, .int .i64 0, .slice none 0 0, .slice none 0 0, .int .i64 0, .int .i64 0] 42) := heap_set_self g2 2 _
            have g4 : ((((w3.setCell ⟨w.heap.size + 2, 0, none⟩ (.int .i64 s.ep)).setCell ⟨w.heap.size + 2, 1, none⟩ (.int .i64 s.a.e)).setCell ⟨w.heap.size + 2, 2, none⟩ (.int .i64 s.a.b)).setCell ⟨w.heap.size + 2, 3, none⟩ (.int .i64 s.a.k)).heap[w.heap.size + 2]? = some (.cells #[.int .i64 s.ep, .int .i64 s.a.e, .int .i64 s.a.b, .int .i64 s.a.k, .slice none 0 0, .slice none 0 0, .int .i64 0, .int .i64 0, .int .i64 0, .slice none 0 0, .slice none 0 0, .int .i64 0, .int .i64 0] 42) := heap_set_self g3 3 _
            have g5 : (((((w3.setCell ⟨w.heap.size + 2, 0, none⟩ (.int .i64 s.ep)).setCell ⟨w.heap.size + 2, 1, none⟩ (.int .i64 s.a.e)).setCell ⟨w.heap.size + 2, 2, none⟩ (.int .i64 s.a.b)).setCell ⟨w.heap.size + 2, 3, none⟩ (.int .i64 s.a.k)).setCell ⟨w.heap.size + 2, 4, none⟩ (.slice a1 s.a.M.length q1)).heap[w.heap.size + 2]? = some (.cells #[.int .i64 s.ep, .int .i64 s.a.e, .int .i64 s.a.b, .int .i64 s.a.k, .slice a1 s.a.M.length q1, .slice none 0 0, .int .i64 0, .int .i64 0, .int .i64 0, .slice none 0 0, .slice none 0 0, .int .i64 0, .int .i64 0] 42) := heap_set_self g4 4 _
            have g6 : ((((((w3.setCell ⟨w.heap.size + 2, 0, none⟩ (.int .i64 s.ep)).setCell ⟨w.heap.size + 2, 1, none⟩ (.int .i64 s.a.e)).setCell ⟨w.heap.size + 2, 2, none⟩ (.int .i64 s.a.b)).setCell ⟨w.heap.size + 2, 3, none⟩ (.int .i64 s.a.k)).setCell ⟨w.heap.size + 2, 4, none⟩ (.slice a1 s.a.M.length q1)).setCell ⟨w.heap.size + 2, 5, none⟩ (.slice a2 s.a.C.length q2)).heap[w.heap.size + 2]? = some (.cells #[.int .i64 s.ep, .int .i64 s.a.e, .int .i64 s.a.b, .int .i64 s.a.k, .slice a1 s.a.M.length q1, .slice a2 s.a.C.length q2, .int .i64 0, .int .i64 0, .int .i64 0, .slice none 0 0, .slice none 0 0, .int .i64 0, .int .i64 0] 42) := heap_set_self g5 5 _
            have g7 : (((((((w3.setCell ⟨w.heap.size + 2, 0, none⟩ (.int .i64 s.ep)).setCell ⟨w.heap.size + 2, 1, none⟩ (.int .i64 s.a.e)).setCell ⟨w.heap.size + 2, 2, none⟩ (.int .i64 s.a.b)).setCell ⟨w.heap.size + 2, 3, none⟩ (.int .i64 s.a.k)).setCell ⟨w.heap.size + 2, 4, none⟩ (.slice a1 s.a.M.length q1)).setCell ⟨w.heap.size + 2, 5, none⟩ (.slice a2 s.a.C.length q2)).setCell ⟨w.heap.size + 2, 6, none⟩ (.int .i64 s.n.e)).heap[w.heap.size + 2]? = some (.cells #[.int .i64 s.ep, .int .i64 s.a.e, .int .i64 s.a.b, .int .i64 s.a.k, .slice a1 s.a.M.length q1, .slice a2 s.a.C.length q2, .int .i64 s.n.e, .int .i64 0, .int .i64 0, .slice none 0 0, .slice none 0 0, .int .i64 0, .int .i64 0] 42) := heap_set_self g6 6 _
            have g8 : ((((((((w3.setCell ⟨w.heap.size + 2, 0, none⟩ (.int .i64 s.ep)).setCell ⟨w.heap.size + 2, 1, none⟩ (.int .i64 s.a.e)).setCell ⟨w.heap.size + 2, 2, none⟩ (.int .i64 s.a.b)).setCell ⟨w.heap.size + 2, 3, none⟩ (.int .i64 s.a.k)).setCell ⟨w.heap.size + 2, 4, none⟩ (.slice a1 s.a.M.length q1)).setCell ⟨w.heap.size + 2, 5, none⟩ (.slice a2 s.a.C.length q2)).setCell ⟨w.heap.size + 2, 6, none⟩ (.int .i64 s.n.e)).setCell ⟨w.heap.size + 2, 7, none⟩ (.int .i64 s.n.b)).heap[w.heap.size + 2]? = some (.cells #[.int .i64 s.ep, .int .i64 s.a.e, .int .i64 s.a.b, .int .i64 s.a.k, .slice a1 s.a.M.length q1, .slice a2 s.a.C.length q2, .int .i64 s.n.e, .int .i64 s.n.b, .int .i64 0, .slice none 0 0, .slice none 0 0, .int .i64 0, .int .i64 0] 42) := heap_set_self g7 7 _
            have g9 : (((((((((w3.setCell ⟨w.heap.size + 2, 0, none⟩ (.int .i64 s.ep)).setCell ⟨w.heap.size + 2, 1, none⟩ (.int .i64 s.a.e)).setCell ⟨w.heap.size + 2, 2, none⟩ (.int .i64 s.a.b)).setCell ⟨w.heap.size + 2, 3, none⟩ (.int .i64 s.a.k)).setCell ⟨w.heap.size + 2, 4, none⟩ (.slice a1 s.a.M.length q1)).setCell ⟨w.heap.size + 2, 5, none⟩ (.slice a2 s.a.C.length q2)).setCell ⟨w.heap.size + 2, 6, none⟩ (.int .i64 s.n.e)).setCell ⟨w.heap.size + 2, 7, none⟩ (.int .i64 s.n.b)).setCell ⟨w.heap.size + 2, 8, none⟩ (.int .i64 s.n.k)).heap[w.heap.size + 2]? = some (.cells #[.int .i64 s.ep, .int .i64 s.a.e, .int .i64 s.a.b, .int .i64 s.a.k, .slice a1 s.a.M.length q1, .slice a2 s.a.C.length q2, .int .i64 s.n.e, .int .i64 s.n.b, .int .i64 s.n.k, .slice none 0 0, .slice none 0 0, .int .i64 0, .int .i64 0] 42) := heap_set_self g8 8 _
            have g10 : ((((((((((w3.setCell ⟨w.heap.size + 2, 0, none⟩ (.int .i64 s.ep)).setCell ⟨w.heap.size + 2, 1, none⟩ (.int .i64 s.a.e)).setCell ⟨w.heap.size + 2, 2, none⟩ (.int .i64 s.a.b)).setCell ⟨w.heap.size + 2, 3, none⟩ (.int .i64 s.a.k)).setCell ⟨w.heap.size + 2, 4, none⟩ (.slice a1 s.a.M.length q1)).setCell ⟨w.heap.size + 2, 5, none⟩ (.slice a2 s.a.C.length q2)).setCell ⟨w.heap.size + 2, 6, none⟩ (.int .i64 s.n.e)).setCell ⟨w.heap.size + 2, 7, none⟩ (.int .i64 s.n.b)).setCell ⟨w.heap.size + 2, 8, none⟩ (.int .i64 s.n.k)).setCell ⟨w.heap.size + 2, 9, none⟩ (.slice a3 s.n.M.length q3)).heap[w.heap.size + 2]? = some (.cells #[.int .i64 s.ep, .int .i64 s.a.e, .int .i64 s.a.b, .int .i64 s.a.k, .slice a1 s.a.M.length q1, .slice a2 s.a.C.length q2, .int .i64 s.n.e, .int .i64 s.n.b, .int .i64 s.n.k, .slice a3 s.n.M.length q3, .slice none 0 0, .int .i64 0, .int .i64 0] 42) := heap_set_self g9 9 _
            have g11 : (((((((((((w3.setCell ⟨w.heap.size + 2, 0, none⟩ (.int .i64 s.ep)).setCell ⟨w.heap.size + 2, 1, none⟩ (.int .i64 s.a.e)).setCell ⟨w.heap.size + 2, 2, none⟩ (.int .i64 s.a.b)).setCell ⟨w.heap.size + 2, 3, none⟩ (.int .i64 s.a.k)).setCell ⟨w.heap.size + 2, 4, none⟩ (.slice a1 s.a.M.length q1)).setCell ⟨w.heap.size + 2, 5, none⟩ (.slice a2 s.a.C.length q2)).setCell ⟨w.heap.size + 2, 6, none⟩ (.int .i64 s.n.e)).setCell ⟨w.heap.size + 2, 7, none⟩ (.int .i64 s.n.b)).setCell ⟨w.heap.size + 2, 8, none⟩ (.int .i64 s.n.k)).setCell ⟨w.heap.size + 2, 9, none⟩ (.slice a3 s.n.M.length q3)).setCell ⟨w.heap.size + 2, 10, none⟩ (.slice a4 s.n.C.length q4)).heap[w.heap.size + 2]? = some (.cells #[.int .i64 s.ep, .int .i64 s.a.e, .int .i64 s.a.b, .int .i64 s.a.k, .slice a1 s.a.M.length q1, .slice a2 s.a.C.length q2, .int .i64 s.n.e, .int .i64 s.n.b, .int .i64 s.n.k, .slice a3 s.n.M.length q3, .slice a4 s.n.C.length q4, .int .i64 0, .int .i64 0] 42) := heap_set_self g10 10 _
            have g12 : ((((((((((((w3.setCell ⟨w.heap.size + 2, 0, none⟩ (.int .i64 s.ep)).setCell ⟨w.heap.size + 2, 1, none⟩ (.int .i64 s.a.e)).setCell ⟨w.heap.size + 2, 2, none⟩ (.int .i64 s.a.b)).setCell ⟨w.heap.size + 2, 3, none⟩ (.int .i64 s.a.k)).setCell ⟨w.heap.size + 2, 4, none⟩ (.slice a1 s.a.M.length q1)).setCell ⟨w.heap.size + 2, 5, none⟩ (.slice a2 s.a.C.length q2)).setCell ⟨w.heap.size + 2, 6, none⟩ (.int .i64 s.n.e)).setCell ⟨w.heap.size + 2, 7, none⟩ (.int .i64 s.n.b)).setCell ⟨w.heap.size + 2, 8, none⟩ (.int .i64 s.n.k)).setCell ⟨w.heap.size + 2, 9, none⟩ (.slice a3 s.n.M.length q3)).setCell ⟨w.heap.size + 2, 10, none⟩ (.slice a4 s.n.C.length q4)).setCell ⟨w.heap.size + 2, 11, none⟩ (.int .i64 s.s0)).heap[w.heap.size + 2]? = some (.cells #[.int .i64 s.ep, .int .i64 s.a.e, .int .i64 s.a.b, .int .i64 s.a.k, .slice a1 s.a.M.length q1, .slice a2 s.a.C.length q2, .int .i64 s.n.e, .int .i64 s.n.b, .int .i64 s.n.k, .slice a3 s.n.M.length q3, .slice a4 s.n.C.length q4, .int .i64 s.s0, .int .i64 0] 42) := heap_set_self g11 11 _
            have g13 : (((((((((((((w3.setCell ⟨w.heap.size + 2, 0, none⟩ (.int .i64 s.ep)).setCell ⟨w.heap.size + 2, 1, none⟩ (.int .i64 s.a.e)).setCell ⟨w.heap.size + 2, 2, none⟩ (.int .i64 s.a.b)).setCell ⟨w.heap.size + 2, 3, none⟩ (.int .i64 s.a.k)).setCell ⟨w.heap.size + 2, 4, none⟩ (.slice a1 s.a.M.length q1)).setCell ⟨w.heap.size + 2, 5, none⟩ (.slice a2 s.a.C.length q2)).setCell ⟨w.heap.size + 2, 6, none⟩ (.int .i64 s.n.e)).setCell ⟨w.heap.size + 2, 7, none⟩ (.int .i64 s.n.b)).setCell ⟨w.heap.size + 2, 8, none⟩ (.int .i64 s.n.k)).setCell ⟨w.heap.size + 2, 9, none⟩ (.slice a3 s.n.M.length q3)).setCell ⟨w.heap.size + 2, 10, none⟩ (.slice a4 s.n.C.length q4)).setCell ⟨w.heap.size + 2, 11, none⟩ (.int .i64 s.s0)).setCell ⟨w.heap.size + 2, 12, none⟩ (.int .i64 s.s1)).heap[w.heap.size + 2]? = some (.cells #[.int .i64 s.ep, .int .i64 s.a.e, .int .i64 s.a.b, .int .i64 s.a.k, .slice a1 s.a.M.length q1, .slice a2 s.a.C.length q2, .int .i64 s.n.e, .int .i64 s.n.b, .int .i64 s.n.k, .slice a3 s.n.M.length q3, .slice a4 s.n.C.length q4, .int .i64 s.s0, .int .i64 s.s1] 42) := heap_set_self g12 12 _
            have gO : Only (w.heap.size + 2) w3 (((((((((((((w3.setCell ⟨w.heap.size + 2, 0, none⟩ (.int .i64 s.ep)).setCell ⟨w.heap.size + 2, 1, none⟩ (.int .i64 s.a.e)).setCell ⟨w.heap.size + 2, 2, none⟩ (.int .i64 s.a.b)).setCell ⟨w.heap.size + 2, 3, none⟩ (.int .i64 s.a.k)).setCell ⟨w.heap.size + 2, 4, none⟩ (.slice a1 s.a.M.length q1)).setCell ⟨w.heap.size + 2, 5, none⟩ (.slice a2 s.a.C.length q2)).setCell ⟨w.heap.size + 2, 6, none⟩ (.int .i64 s.n.e)).setCell ⟨w.heap.size + 2, 7, none⟩ (.int .i64 s.n.b)).setCell ⟨w.heap.size + 2, 8, none⟩ (.int .i64 s.n.k)).setCell ⟨w.heap.size + 2, 9, none⟩ (.slice a3 s.n.M.length q3)).setCell ⟨w.heap.size + 2, 10, none⟩ (.slice a4 s.n.C.length q4)).setCell ⟨w.heap.size + 2, 11, none⟩ (.int .i64 s.s0)).setCell ⟨w.heap.size + 2, 12, none⟩ (.int .i64 s.s1)) := (((((((((((((Only.refl _ _).set 0 _).set 1 _).set 2 _).set 3 _).set 4 _).set 5 _).set 6 _).set 7 _).set 8 _).set 9 _).set 10 _).set 11 _).set 12 _
            have HF := Lib.hid (And.intro g13 (HB3.out.bl.trans (gO.below (B := w.heap.size) (by omega) HB3.out.bl.size)))
            clear g1 g2 g3 g4 g5 g6 g7 g8 g9 g10 g11 g12 g13 gO
            go_wp2_with fail
            generalize (((((((((((((w3.setCell ⟨w.heap.size + 2, 0, none⟩ (.int .i64 s.ep)).setCell ⟨w.heap.size + 2, 1, none⟩ (.int .i64 s.a.e)).setCell ⟨w.heap.size + 2, 2, none⟩ (.int .i64 s.a.b)).setCell ⟨w.heap.size + 2, 3, none⟩ (.int .i64 s.a.k)).setCell ⟨w.heap.size + 2, 4, none⟩ (.slice a1 s.a.M.length q1)).setCell ⟨w.heap.size + 2, 5, none⟩ (.slice a2 s.a.C.length q2)).setCell ⟨w.heap.size + 2, 6, none⟩ (.int .i64 s.n.e)).setCell ⟨w.heap.size + 2, 7, none⟩ (.int .i64 s.n.b)).setCell ⟨w.heap.size + 2, 8, none⟩ (.int .i64 s.n.k)).setCell ⟨w.heap.size + 2, 9, none⟩ (.slice a3 s.n.M.length q3)).setCell ⟨w.heap.size + 2, 10, none⟩ (.slice a4 s.n.C.length q4)).setCell ⟨w.heap.size + 2, 11, none⟩ (.int .i64 s.s0)).setCell ⟨w.heap.size + 2, 12, none⟩ (.int .i64 s.s1)) = wf at *
            have fi := HF.out.1
            have t0 := cell_atD fi 0 (v := .int .i64 s.ep) rfl
            have t1 := cell_atD fi 1 (v := .int .i64 s.a.e) rfl
            have t2 := cell_atD fi 2 (v := .int .i64 s.a.b) rfl
            have t3 := cell_atD fi 3 (v := .int .i64 s.a.k) rfl
            have t4 := cell_atD fi 4 (v := .slice a1 s.a.M.length q1) rfl
            have t5 := cell_atD fi 5 (v := .slice a2 s.a.C.length q2) rfl
            have t6 := cell_atD fi 6 (v := .int .i64 s.n.e) rfl
            have t7 := cell_atD fi 7 (v := .int .i64 s.n.b) rfl
            have t8 := cell_atD fi 8 (v := .int .i64 s.n.k) rfl
            have t9 := cell_atD fi 9 (v := .slice a3 s.n.M.length q3) rfl
            have t10 := cell_atD fi 10 (v := .slice a4 s.n.C.length q4) rfl
            have t11 := cell_atD fi 11 (v := .int .i64 s.s0) rfl
            have t12 := cell_atD fi 12 (v := .int .i64 s.s1) rfl
            clear fi
            refine bodyPost_ret (v := .agg #[.int .i64 s.ep, .int .i64 s.a.e, .int .i64 s.a.b, .int .i64 s.a.k, .slice a1 s.a.M.length q1, .slice a2 s.a.C.length q2, .int .i64 s.n.e, .int .i64 s.n.b, .int .i64 s.n.k, .slice a3 s.n.M.length q3, .slice a4 s.n.C.length q4, .int .i64 s.s0, .int .i64 s.s1]) (by simp [results, Try.results14, go_sem, t0, t1, t2, t3, t4, t5, t6, t7, t8, t9, t10, t11, t12]) rfl ?_
            exact ⟨s, a1, q1, a2, q2, a3, q3, a4, q4, rfl, ⟨HG.out.1, HG.out.2.1⟩, HS.out.2.2.1, HF.out.2⟩
          · have htq : s.s0 < c.k := by simpa using ht
            have htp : s.ep < 1048576 := by simpa using ht2
            go_wp2_with fail
            go_quiet (fail)
            have HB3 := Lib.hid (HB2.out.below (below_drewN' (Below.refl _ _) nq))
            clear k0 k1 k2 k3 k4 k5 x0 x1 x2 x3 x4 x5 x6 x7 x8 x9 x10 x11 x12
            generalize w2.drewN nq = w3 at *
            have x0 := cell_atD HB3.out.st 0 (v := .int .i64 s.ep) rfl
            have x1 := cell_atD HB3.out.st 1 (v := .int .i64 s.a.e) rfl
            have x2 := cell_atD HB3.out.st 2 (v := .int .i64 s.a.b) rfl
            have x3 := cell_atD HB3.out.st 3 (v := .int .i64 s.a.k) rfl
            have x4 := cell_atD HB3.out.st 4 (v := .slice a1 s.a.M.length q1) rfl
            have x5 := cell_atD HB3.out.st 5 (v := .slice a2 s.a.C.length q2) rfl
            have x6 := cell_atD HB3.out.st 6 (v := .int .i64 s.n.e) rfl
            have x7 := cell_atD HB3.out.st 7 (v := .int .i64 s.n.b) rfl
            have x8 := cell_atD HB3.out.st 8 (v := .int .i64 s.n.k) rfl
            have x9 := cell_atD HB3.out.st 9 (v := .slice a3 s.n.M.length q3) rfl
            have x10 := cell_atD HB3.out.st 10 (v := .slice a4 s.n.C.length q4) rfl
            have x11 := cell_atD HB3.out.st 11 (v := .int .i64 s.s0) rfl
            have x12 := cell_atD HB3.out.st 12 (v := .int .i64 s.s1) rfl
            have k0 := cell_atD HB3.out.cm 0 (v := .int .i64 1) rfl
            have k1 := cell_atD HB3.out.cm 1 (v := .int .i64 c.e) rfl
            have k2 := cell_atD HB3.out.cm 2 (v := .int .i64 c.b) rfl
            have k3 := cell_atD HB3.out.cm 3 (v := .int .i64 c.k) rfl
            have k4 := cell_atD HB3.out.cm 4 (v := .slice b1 c.M.length p1) rfl
            have k5 := cell_atD HB3.out.cm 5 (v := .slice b2 c.C.length p2) rfl
            rw [HCB.out] at k2
            have xf : ∀ o, w3.frozen? ⟨w.heap.size, o, none⟩ = false := fun o => by simp [World.frozen?, HB3.out.st]
            go_upto_region 5 with fail
            have g1 : (w3.setCell ⟨w.heap.size, 0, none⟩ (.int .i64 (s.ep + 1))).heap[w.heap.size]? = some (.cells #[.int .i64 (s.ep + 1), .int .i64 s.a.e, .int .i64 s.a.b, .int .i64 s.a.k, .slice a1 s.a.M.length q1, .slice a2 s.a.C.length q2, .int .i64 s.n.e, .int .i64 s.n.b, .int .i64 s.n.k, .slice a3 s.n.M.length q3, .slice a4 s.n.C.length q4, .int .i64 s.s0, .int .i64 s.s1] 42) := heap_set_self HB3.out.st 0 _
            have gO : Only (w.heap.size) w3 (w3.setCell ⟨w.heap.size, 0, none⟩ (.int .i64 (s.ep + 1))) := (Only.refl _ _).set 0 _
            have HB4 := Lib.hid (HB3.out.only gO g1)
            clear g1 gO k0 k1 k2 k3 k4 k5 x0 x1 x2 x3 x4 x5 x6 x7 x8 x9 x10 x11 x12 xf HB3
            generalize (w3.setCell ⟨w.heap.size, 0, none⟩ (.int .i64 (s.ep + 1))) = w4 at *
            have x0 := cell_atD HB4.out.st 0 (v := .int .i64 (s.ep + 1)) rfl
            have x1 := cell_atD HB4.out.st 1 (v := .int .i64 s.a.e) rfl
            have x2 := cell_atD HB4.out.st 2 (v := .int .i64 s.a.b) rfl
            have x3 := cell_atD HB4.out.st 3 (v := .int .i64 s.a.k) rfl
            have x4 := cell_atD HB4.out.st 4 (v := .slice a1 s.a.M.length q1) rfl
            have x5 := cell_atD HB4.out.st 5 (v := .slice a2 s.a.C.length q2) rfl
            have x6 := cell_atD HB4.out.st 6 (v := .int .i64 s.n.e) rfl
            have x7 := cell_atD HB4.out.st 7 (v := .int .i64 s.n.b) rfl
            have x8 := cell_atD HB4.out.st 8 (v := .int .i64 s.n.k) rfl
            have x9 := cell_atD HB4.out.st 9 (v := .slice a3 s.n.M.length q3) rfl
            have x10 := cell_atD HB4.out.st 10 (v := .slice a4 s.n.C.length q4) rfl
            have x11 := cell_atD HB4.out.st 11 (v := .int .i64 s.s0) rfl
            have x12 := cell_atD HB4.out.st 12 (v := .int .i64 s.s1) rfl
            have k0 := cell_atD HB4.out.cm 0 (v := .int .i64 1) rfl
            have k1 := cell_atD HB4.out.cm 1 (v := .int .i64 c.e) rfl
            have k2 := cell_atD HB4.out.cm 2 (v := .int .i64 c.b) rfl
            have k3 := cell_atD HB4.out.cm 3 (v := .int .i64 c.k) rfl
            have k4 := cell_atD HB4.out.cm 4 (v := .slice b1 c.M.length p1) rfl
            have k5 := cell_atD HB4.out.cm 5 (v := .slice b2 c.C.length p2) rfl
            rw [HCB.out] at k2
            have xf : ∀ o, w4.frozen? ⟨w.heap.size, o, none⟩ = false := fun o => by simp [World.frozen?, HB4.out.st]
            go_upto_region 6 with fail
            have g1 : (w4.setCell ⟨w.heap.size, 11, none⟩ (.int .i64 c.k)).heap[w.heap.size]? = some (.cells #[.int .i64 (s.ep + 1), .int .i64 s.a.e, .int .i64 s.a.b, .int .i64 s.a.k, .slice a1 s.a.M.length q1, .slice a2 s.a.C.length q2, .int .i64 s.n.e, .int .i64 s.n.b, .int .i64 s.n.k, .slice a3 s.n.M.length q3, .slice a4 s.n.C.length q4, .int .i64 c.k, .int .i64 s.s1] 42) := heap_set_self HB4.out.st 11 _
            have gO : Only (w.heap.size) w4 (w4.setCell ⟨w.heap.size, 11, none⟩ (.int .i64 c.k)) := (Only.refl _ _).set 11 _
            have HB5 := Lib.hid (HB4.out.only gO g1)
            clear g1 gO k0 k1 k2 k3 k4 k5 x0 x1 x2 x3 x4 x5 x6 x7 x8 x9 x10 x11 x12 xf HB4
            generalize (w4.setCell ⟨w.heap.size, 11, none⟩ (.int .i64 c.k)) = w5 at *
            have x0 := cell_atD HB5.out.st 0 (v := .int .i64 (s.ep + 1)) rfl
            have x1 := cell_atD HB5.out.st 1 (v := .int .i64 s.a.e) rfl
            have x2 := cell_atD HB5.out.st 2 (v := .int .i64 s.a.b) rfl
            have x3 := cell_atD HB5.out.st 3 (v := .int .i64 s.a.k) rfl
            have x4 := cell_atD HB5.out.st 4 (v := .slice a1 s.a.M.length q1) rfl
            have x5 := cell_atD HB5.out.st 5 (v := .slice a2 s.a.C.length q2) rfl
            have x6 := cell_atD HB5.out.st 6 (v := .int .i64 s.n.e) rfl
            have x7 := cell_atD HB5.out.st 7 (v := .int .i64 s.n.b) rfl
            have x8 := cell_atD HB5.out.st 8 (v := .int .i64 s.n.k) rfl
            have x9 := cell_atD HB5.out.st 9 (v := .slice a3 s.n.M.length q3) rfl
            have x10 := cell_atD HB5.out.st 10 (v := .slice a4 s.n.C.length q4) rfl
            have x11 := cell_atD HB5.out.st 11 (v := .int .i64 c.k) rfl
            have x12 := cell_atD HB5.out.st 12 (v := .int .i64 s.s1) rfl
            have k0 := cell_atD HB5.out.cm 0 (v := .int .i64 1) rfl
            have k1 := cell_atD HB5.out.cm 1 (v := .int .i64 c.e) rfl
            have k2 := cell_atD HB5.out.cm 2 (v := .int .i64 c.b) rfl
            have k3 := cell_atD HB5.out.cm 3 (v := .int .i64 c.k) rfl
            have k4 := cell_atD HB5.out.cm 4 (v := .slice b1 c.M.length p1) rfl
            have k5 := cell_atD HB5.out.cm 5 (v := .slice b2 c.C.length p2) rfl
            have xf : ∀ o, w5.frozen? ⟨w.heap.size, o, none⟩ = false := fun o => by simp [World.frozen?, HB5.out.st]
            go_upto_region 7 with fail
            have g1 : (w5.setCell ⟨w.heap.size, 6, none⟩ (.int .i64 c.e)).heap[w.heap.size]? = some (.cells #[.int .i64 (s.ep + 1), .int .i64 s.a.e, .int .i64 s.a.b, .int .i64 s.a.k, .slice a1 s.a.M.length q1, .slice a2 s.a.C.length q2, .int .i64 c.e, .int .i64 s.n.b, .int .i64 s.n.k, .slice a3 s.n.M.length q3, .slice a4 s.n.C.length q4, .int .i64 c.k, .int .i64 s.s1] 42) := heap_set_self HB5.out.st 6 _
            have g2 : ((w5.setCell ⟨w.heap.size, 6, none⟩ (.int .i64 c.e)).setCell ⟨w.heap.size, 7, none⟩ (.int .i64 c.b)).heap[w.heap.size]? = some (.cells #[.int .i64 (s.ep + 1), .int .i64 s.a.e, .int .i64 s.a.b, .int .i64 s.a.k, .slice a1 s.a.M.length q1, .slice a2 s.a.C.length q2, .int .i64 c.e, .int .i64 c.b, .int .i64 s.n.k, .slice a3 s.n.M.length q3, .slice a4 s.n.C.length q4, .int .i64 c.k, .int .i64 s.s1] 42) := heap_set_self g1 7 _
            have g3 : (((w5.setCell ⟨w.heap.size, 6, none⟩ (.int .i64 c.e)).setCell ⟨w.heap.size, 7, none⟩ (.int .i64 c.b)).setCell ⟨w.heap.size, 8, none⟩ (.int .i64 c.k)).heap[w.heap.size]? = some (.cells #[.int .i64 (s.ep + 1), .int .i64 s.a.e, .int .i64 s.a.b, .int .i64 s.a.k, .slice a1 s.a.M.length q1, .slice a2 s.a.C.length q2, .int .i64 c.e, .int .i64 c.b, .int .i64 c.k, .slice a3 s.n.M.length q3, .slice a4 s.n.C.length q4, .int .i64 c.k, .int .i64 s.s1] 42) := heap_set_self g2 8 _
            have g4 : ((((w5.setCell ⟨w.heap.size, 6, none⟩ (.int .i64 c.e)).setCell ⟨w.heap.size, 7, none⟩ (.int .i64 c.b)).setCell ⟨w.heap.size, 8, none⟩ (.int .i64 c.k)).setCell ⟨w.heap.size, 9, none⟩ (.slice b1 c.M.length p1)).heap[w.heap.size]? = some (.cells #[.int .i64 (s.ep + 1), .int .i64 s.a.e, .int .i64 s.a.b, .int .i64 s.a.k, .slice a1 s.a.M.length q1, .slice a2 s.a.C.length q2, .int .i64 c.e, .int .i64 c.b, .int .i64 c.k, .slice b1 c.M.length p1, .slice a4 s.n.C.length q4, .int .i64 c.k, .int .i64 s.s1] 42) := heap_set_self g3 9 _
            have g5 : (((((w5.setCell ⟨w.heap.size, 6, none⟩ (.int .i64 c.e)).setCell ⟨w.heap.size, 7, none⟩ (.int .i64 c.b)).setCell ⟨w.heap.size, 8, none⟩ (.int .i64 c.k)).setCell ⟨w.heap.size, 9, none⟩ (.slice b1 c.M.length p1)).setCell ⟨w.heap.size, 10, none⟩ (.slice b2 c.C.length p2)).heap[w.heap.size]? = some (.cells #[.int .i64 (s.ep + 1), .int .i64 s.a.e, .int .i64 s.a.b, .int .i64 s.a.k, .slice a1 s.a.M.length q1, .slice a2 s.a.C.length q2, .int .i64 c.e, .int .i64 c.b, .int .i64 c.k, .slice b1 c.M.length p1, .slice b2 c.C.length p2, .int .i64 c.k, .int .i64 s.s1] 42) := heap_set_self g4 10 _
            have gO : Only (w.heap.size) w5 (((((w5.setCell ⟨w.heap.size, 6, none⟩ (.int .i64 c.e)).setCell ⟨w.heap.size, 7, none⟩ (.int .i64 c.b)).setCell ⟨w.heap.size, 8, none⟩ (.int .i64 c.k)).setCell ⟨w.heap.size, 9, none⟩ (.slice b1 c.M.length p1)).setCell ⟨w.heap.size, 10, none⟩ (.slice b2 c.C.length p2)) := (((((Only.refl _ _).set 6 _).set 7 _).set 8 _).set 9 _).set 10 _
            have HB6 := Lib.hid (HB5.out.only gO g5)
            clear g1 g2 g3 g4 g5 gO k0 k1 k2 k3 k4 k5 x0 x1 x2 x3 x4 x5 x6 x7 x8 x9 x10 x11 x12 xf HB5
            generalize (((((w5.setCell ⟨w.heap.size, 6, none⟩ (.int .i64 c.e)).setCell ⟨w.heap.size, 7, none⟩ (.int .i64 c.b)).setCell ⟨w.heap.size, 8, none⟩ (.int .i64 c.k)).setCell ⟨w.heap.size, 9, none⟩ (.slice b1 c.M.length p1)).setCell ⟨w.heap.size, 10, none⟩ (.slice b2 c.C.length p2)) = w6 at *
            have x0 := cell_atD HB6.out.st 0 (v := .int .i64 (s.ep + 1)) rfl
            have x1 := cell_atD HB6.out.st 1 (v := .int .i64 s.a.e) rfl
            have x2 := cell_atD HB6.out.st 2 (v := .int .i64 s.a.b) rfl
            have x3 := cell_atD HB6.out.st 3 (v := .int .i64 s.a.k) rfl
            have x4 := cell_atD HB6.out.st 4 (v := .slice a1 s.a.M.length q1) rfl
            have x5 := cell_atD HB6.out.st 5 (v := .slice a2 s.a.C.length q2) rfl
            have x6 := cell_atD HB6.out.st 6 (v := .int .i64 c.e) rfl
            have x7 := cell_atD HB6.out.st 7 (v := .int .i64 c.b) rfl
            have x8 := cell_atD HB6.out.st 8 (v := .int .i64 c.k) rfl
            have x9 := cell_atD HB6.out.st 9 (v := .slice b1 c.M.length p1) rfl
            have x10 := cell_atD HB6.out.st 10 (v := .slice b2 c.C.length p2) rfl
            have x11 := cell_atD HB6.out.st 11 (v := .int .i64 c.k) rfl
            have x12 := cell_atD HB6.out.st 12 (v := .int .i64 s.s1) rfl
            have k0 := cell_atD HB6.out.cm 0 (v := .int .i64 1) rfl
            have k1 := cell_atD HB6.out.cm 1 (v := .int .i64 c.e) rfl
            have k2 := cell_atD HB6.out.cm 2 (v := .int .i64 c.b) rfl
            have k3 := cell_atD HB6.out.cm 3 (v := .int .i64 c.k) rfl
            have k4 := cell_atD HB6.out.cm 4 (v := .slice b1 c.M.length p1) rfl
            have k5 := cell_atD HB6.out.cm 5 (v := .slice b2 c.C.length p2) rfl
            rw [HCB.out] at k2
            have xf : ∀ o, w6.frozen? ⟨w.heap.size, o, none⟩ = false := fun o => by simp [World.frozen?, HB6.out.st]
            go_upto_region 8 with fail
            have g1 : (w6.setCell ⟨w.heap.size, 6, none⟩ (.int .i64 (s.ep + 1))).heap[w.heap.size]? = some (.cells #[.int .i64 (s.ep + 1), .int .i64 s.a.e, .int .i64 s.a.b, .int .i64 s.a.k, .slice a1 s.a.M.length q1, .slice a2 s.a.C.length q2, .int .i64 (s.ep + 1), .int .i64 c.b, .int .i64 c.k, .slice b1 c.M.length p1, .slice b2 c.C.length p2, .int .i64 c.k, .int .i64 s.s1] 42) := heap_set_self HB6.out.st 6 _
            have gO : Only (w.heap.size) w6 (w6.setCell ⟨w.heap.size, 6, none⟩ (.int .i64 (s.ep + 1))) := (Only.refl _ _).set 6 _
            have HB7 := Lib.hid (HB6.out.only gO g1)
            clear g1 gO k0 k1 k2 k3 k4 k5 x0 x1 x2 x3 x4 x5 x6 x7 x8 x9 x10 x11 x12 xf HB6
            generalize (w6.setCell ⟨w.heap.size, 6, none⟩ (.int .i64 (s.ep + 1))) = w7 at *
            have k0 := cell_atD HB7.out.cm 0 (v := .int .i64 1) rfl
            have k1 := cell_atD HB7.out.cm 1 (v := .int .i64 c.e) rfl
            have k2 := cell_atD HB7.out.cm 2 (v := .int .i64 c.b) rfl
            have k3 := cell_atD HB7.out.cm 3 (v := .int .i64 c.k) rfl
            have k4 := cell_atD HB7.out.cm 4 (v := .slice b1 c.M.length p1) rfl
            have k5 := cell_atD HB7.out.cm 5 (v := .slice b2 c.C.length p2) rfl
            go_upto_region 10 with fail
            clear k0 k1 k2 k3 k4 k5
            have x0 := cell_atD HB7.out.st 0 (v := .int .i64 (s.ep + 1)) rfl
            have x1 := cell_atD HB7.out.st 1 (v := .int .i64 s.a.e) rfl
            have x2 := cell_atD HB7.out.st 2 (v := .int .i64 s.a.b) rfl
            have x3 := cell_atD HB7.out.st 3 (v := .int .i64 s.a.k) rfl
            have x4 := cell_atD HB7.out.st 4 (v := .slice a1 s.a.M.length q1) rfl
            have x5 := cell_atD HB7.out.st 5 (v := .slice a2 s.a.C.length q2) rfl
            have x6 := cell_atD HB7.out.st 6 (v := .int .i64 (s.ep + 1)) rfl
            have x7 := cell_atD HB7.out.st 7 (v := .int .i64 c.b) rfl
            have x8 := cell_atD HB7.out.st 8 (v := .int .i64 c.k) rfl
            have x9 := cell_atD HB7.out.st 9 (v := .slice b1 c.M.length p1) rfl
            have x10 := cell_atD HB7.out.st 10 (v := .slice b2 c.C.length p2) rfl
            have x11 := cell_atD HB7.out.st 11 (v := .int .i64 c.k) rfl
            have x12 := cell_atD HB7.out.st 12 (v := .int .i64 s.s1) rfl
            have z0 := cell_atD HB7.out.rs 0 (v := .int .i64 0) rfl
            have z1 := cell_atD HB7.out.rs 1 (v := .int .i64 0) rfl
            have z2 := cell_atD HB7.out.rs 2 (v := .int .i64 0) rfl
            have z3 := cell_atD HB7.out.rs 3 (v := .int .i64 0) rfl
            have z4 := cell_atD HB7.out.rs 4 (v := .slice none 0 0) rfl
            have z5 := cell_atD HB7.out.rs 5 (v := .slice none 0 0) rfl
            have z6 := cell_atD HB7.out.rs 6 (v := .int .i64 0) rfl
            have z7 := cell_atD HB7.out.rs 7 (v := .int .i64 0) rfl
            have z8 := cell_atD HB7.out.rs 8 (v := .int .i64 0) rfl
            have z9 := cell_atD HB7.out.rs 9 (v := .slice none 0 0) rfl
            have z10 := cell_atD HB7.out.rs 10 (v := .slice none 0 0) rfl
            have z11 := cell_atD HB7.out.rs 11 (v := .int .i64 0) rfl
            have z12 := cell_atD HB7.out.rs 12 (v := .int .i64 0) rfl
            have fz : ∀ o, w7.frozen? ⟨w.heap.size + 2, o, none⟩ = false := fun o => by simp [World.frozen?, HB7.out.rs]
            have g1 : (w7.setCell ⟨w.heap.size + 2, 0, none⟩ (.int .i64 (s.ep + 1))).heap[w.heap.size + 2]? = some (.cells #[.int .i64 (s.ep + 1), .int .i64 0, .int .i64 0, .int .i64 0, .slice none 0 0, .slice none 0 0, .int .i64 0, .int .i64 0, .int .i64 0, .slice none 0 0, .slice none 0 0, .int .i64 0, .int .i64 0] 42) := heap_set_self HB7.out.rs 0 _
            have g2 : ((w7.setCell ⟨w.heap.size + 2, 0, none⟩ (.int .i64 (s.ep + 1))).setCell ⟨w.heap.size + 2, 1, none⟩ (.int .i64 s.a.e)).heap[w.heap.size + 2]? = some (.cells #[.int .i64 (s.ep + 1), .int .i64 s.a.e, .int .i64 0, .int .i64 0, .slice none 0 0, .slice none 0 0, .int .i64 0, .int .i64 0, .int .i64 0, .slice none 0 0, .slice none 0 0, .int .i64 0, .int .i64 0] 42) := heap_set_self g1 1 _
            have g3 : (((w7.setCell ⟨w.heap.size + 2, 0, none⟩ (.int .i64 (s.ep + 1))).setCell ⟨w.heap.size + 2, 1, none⟩ (.int .i64 s.a.e)).setCell ⟨w.heap.size + 2, 2, none⟩ (.int .i64 s.a.b)).heap[w.heap.size + 2]? = some (.cells #[.int .i64 (s.ep + 1), .int .i64 s.a.e, .int .i64 s.a.b, .int .i64 0, .slice none 0 0, .slice none 0 0, .int .i64 0, .int .i64 0, .int .i64 0, .slice none 0 0, .slice none 0 0, .int .i64 0, .int .i64 0] 42) := heap_set_self g2 2 _
            have g4 : ((((w7.setCell ⟨w.heap.size + 2, 0, none⟩ (.int .i64 (s.ep + 1))).setCell ⟨w.heap.size + 2, 1, none⟩ (.int .i64 s.a.e)).setCell ⟨w.heap.size + 2, 2, none⟩ (.int .i64 s.a.b)).setCell ⟨w.heap.size + 2, 3, none⟩ (.int .i64 s.a.k)).heap[w.heap.size + 2]? = some (.cells #[.int .i64 (s.ep + 1), .int .i64 s.a.e, .int .i64 s.a.b, .int .i64 s.a.k, .slice none 0 0, .slice none 0 0, .int .i64 0, .int .i64 0, .int .i64 0, .slice none 0 0, .slice none 0 0, .int .i64 0, .int .i64 0] 42) := heap_set_self g3 3 _
            have g5 : (((((w7.setCell ⟨w.heap.size + 2, 0, none⟩ (.int .i64 (s.ep + 1))).setCell ⟨w.heap.size + 2, 1, none⟩ (.int .i64 s.a.e)).setCell ⟨w.heap.size + 2, 2, none⟩ (.int .i64 s.a.b)).setCell ⟨w.heap.size + 2, 3, none⟩ (.int .i64 s.a.k)).setCell ⟨w.heap.size + 2, 4, none⟩ (.slice a1 s.a.M.length q1)).heap[w.heap.size + 2]? = some (.cells #[.int .i64 (s.ep + 1), .int .i64 s.a.e, .int .i64 s.a.b, .int .i64 s.a.k, .slice a1 s.a.M.length q1, .slice none 0 0, .int .i64 0, .int .i64 0, .int .i64 0, .slice none 0 0, .slice none 0 0, .int .i64 0, .int .i64 0] 42) := heap_set_self g4 4 _
            have g6 : ((((((w7.setCell ⟨w.heap.size + 2, 0, none⟩ (.int .i64 (s.ep + 1))).setCell ⟨w.heap.size + 2, 1, none⟩ (.int .i64 s.a.e)).setCell ⟨w.heap.size + 2, 2, none⟩ (.int .i64 s.a.b)).setCell ⟨w.heap.size + 2, 3, none⟩ (.int .i64 s.a.k)).setCell ⟨w.heap.size + 2, 4, none⟩ (.slice a1 s.a.M.length q1)).setCell ⟨w.heap.size + 2, 5, none⟩ (.slice a2 s.a.C.length q2)).heap[w.heap.size + 2]? = some (.cells #[.int .i64 (s.ep + 1), .int .i64 s.a.e, .int .i64 s.a.b, .int .i64 s.a.k, .slice a1 s.a.M.length q1, .slice a2 s.a.C.length q2, .int .i64 0, .int .i64 0, .int .i64 0, .slice none 0 0, .slice none 0 0, .int .i64 0, .int .i64 0] 42) := heap_set_self g5 5 _
            have g7 : (((((((w7.setCell ⟨w.heap.size + 2, 0, none⟩ (.int .i64 (s.ep + 1))).setCell ⟨w.heap.size + 2, 1, none⟩ (.int .i64 s.a.e)).setCell ⟨w.heap.size + 2, 2, none⟩ (.int .i64 s.a.b)).setCell ⟨w.heap.size + 2, 3, none⟩ (.int .i64 s.a.k)).setCell ⟨w.heap.size + 2, 4, none⟩ (.slice a1 s.a.M.length q1)).setCell ⟨w.heap.size + 2, 5, none⟩ (.slice a2 s.a.C.length q2)).setCell ⟨w.heap.size + 2, 6, none⟩ (.int .i64 (s.ep + 1))).heap[w.heap.size + 2]? = some (.cells #[.int .i64 (s.ep + 1), .int .i64 s.a.e, .int .i64 s.a.b, .int .i64 s.a.k, .slice a1 s.a.M.length q1, .slice a2 s.a.C.length q2, .int .i64 (s.ep + 1), .int .i64 0, .int .i64 0, .slice none 0 0, .slice none 0 0, .int .i64 0, .int .i64 0] 42) := heap_set_self g6 6 _
            have g8 : ((((((((w7.setCell ⟨w.heap.size + 2, 0, none⟩ (.int .i64 (s.ep + 1))).setCell ⟨w.heap.size + 2, 1, none⟩ (.int .i64 s.a.e)).setCell ⟨w.heap.size + 2, 2, none⟩ (.int .i64 s.a.b)).setCell ⟨w.heap.size + 2, 3, none⟩ (.int .i64 s.a.k)).setCell ⟨w.heap.size + 2, 4, none⟩ (.slice a1 s.a.M.length q1)).setCell ⟨w.heap.size + 2, 5, none⟩ (.slice a2 s.a.C.length q2)).setCell ⟨w.heap.size + 2, 6, none⟩ (.int .i64 (s.ep + 1))).setCell ⟨w.heap.size + 2, 7, none⟩ (.int .i64 c.b)).heap[w.heap.size + 2]? = some (.cells #[.int .i64 (s.ep + 1), .int .i64 s.a.e, .int .i64 s.a.b, .int .i64 s.a.k, .slice a1 s.a.M.length q1, .slice a2 s.a.C.length q2, .int .i64 (s.ep + 1), .int .i64 c.b, .int .i64 0, .slice none 0 0, .slice none 0 0, .int .i64 0, .int .i64 0] 42) := heap_set_self g7 7 _
            have g9 : (((((((((w7.setCell ⟨w.heap.size + 2, 0, none⟩ (.int .i64 (s.ep + 1))).setCell ⟨w.heap.size + 2, 1, none⟩ (.int .i64 s.a.e)).setCell ⟨w.heap.size + 2, 2, none⟩ (.int .i64 s.a.b)).setCell ⟨w.heap.size + 2, 3, none⟩ (.int .i64 s.a.k)).setCell ⟨w.heap.size + 2, 4, none⟩ (.slice a1 s.a.M.length q1)).setCell ⟨w.heap.size + 2, 5, none⟩ (.slice a2 s.a.C.length q2)).setCell ⟨w.heap.size + 2, 6, none⟩ (.int .i64 (s.ep + 1))).setCell ⟨w.heap.size + 2, 7, none⟩ (.int .i64 c.b)).setCell ⟨w.heap.size + 2, 8, none⟩ (.int .i64 c.k)).heap[w.heap.size + 2]? = some (.cells #[.int .i64 (s.ep + 1), .int .i64 s.a.e, .int .i64 s.a.b, .int .i64 s.a.k, .slice a1 s.a.M.length q1, .slice a2 s.a.C.length q2, .int .i64 (s.ep + 1), .int .i64 c.b, .int .i64 c.k, .slice none 0 0, .slice none 0 0, .int .i64 0, .int .i64 0] 42) := heap_set_self g8 8 _
            have g10 : ((((((((((w7.setCell ⟨w.heap.size + 2, 0, none⟩ (.int .i64 (s.ep + 1))).setCell ⟨w.heap.size + 2, 1, none⟩ (.int .i64 s.a.e)).setCell ⟨w.heap.size + 2, 2, none⟩ (.int .i64 s.a.b)).setCell ⟨w.heap.size + 2, 3, none⟩ (.int .i64 s.a.k)).setCell ⟨w.heap.size + 2, 4, none⟩ (.slice a1 s.a.M.length q1)).setCell ⟨w.heap.size + 2, 5, none⟩ (.slice a2 s.a.C.length q2)).setCell ⟨w.heap.size + 2, 6, none⟩ (.int .i64 (s.ep + 1))).setCell ⟨w.heap.size + 2, 7, none⟩ (.int .i64 c.b)).setCell ⟨w.heap.size + 2, 8, none⟩ (.int .i64 c.k)).setCell ⟨w.heap.size + 2, 9, none⟩ (.slice b1 c.M.length p1)).heap[w.heap.size + 2]? = some (.cells #[.int .i64 (s.ep + 1), .int .i64 s.a.e, .int .i64 s.a.b, .int .i64 s.a.k, .slice a1 s.a.M.length q1, .slice a2 s.a.C.length q2, .int .i64 (s.ep + 1), .int .i64 c.b, .int .i64 c.k, .slice b1 c.M.length p1, .slice none 0 0, .int .i64 0, .int .i64 0] 42) := heap_set_self g9 9 _
            have g11 : (((((((((((w7.setCell ⟨w.heap.size + 2, 0, none⟩ (.int .i64 (s.ep + 1))).setCell ⟨w.heap.size + 2, 1, none⟩ (.int .i64 s.a.e)).setCell ⟨w.heap.size + 2, 2, none⟩ (.int .i64 s.a.b)).setCell ⟨w.heap.size + 2, 3, none⟩ (.int .i64 s.a.k)).setCell ⟨w.heap.size + 2, 4, none⟩ (.slice a1 s.a.M.length q1)).setCell ⟨w.heap.size + 2, 5, none⟩ (.slice a2 s.a.C.length q2)).setCell ⟨w.heap.size + 2, 6, none⟩ (.int .i64 (s.ep + 1))).setCell ⟨w.heap.size + 2, 7, none⟩ (.int .i64 c.b)).setCell ⟨w.heap.size + 2, 8, none⟩ (.int .i64 c.k)).setCell ⟨w.heap.size + 2, 9, none⟩ (.slice b1 c.M.length p1)).setCell ⟨w.heap.size + 2, 10, none⟩ (.slice b2 c.C.length p2)).heap[w.heap.size + 2]? = some (.cells #[.int .i64 (s.ep + 1), .int .i64 s.a.e, .int .i64 s.a.b, .int .i64 s.a.k, .slice a1 s.a.M.length q1, .slice a2 s.a.C.length q2, .int .i64 (s.ep + 1), .int .i64 c.b, .int .i64 c.k, .slice b1 c.M.length p1, .slice b2 c.C.length p2, .int .i64 0, .int .i64 0] 42) := heap_set_self g10 10 _
            have g12 : ((((((((((((w7.setCell ⟨w.heap.size + 2, 0, none⟩ (.int .i64 (s.ep + 1))).setCell ⟨w.heap.size + 2, 1, none⟩ (.int .i64 s.a.e)).setCell ⟨w.heap.size + 2, 2, none⟩ (.int .i64 s.a.b)).setCell ⟨w.heap.size + 2, 3, none⟩ (.int .i64 s.a.k)).setCell ⟨w.heap.size + 2, 4, none⟩ (.slice a1 s.a.M.length q1)).setCell ⟨w.heap.size + 2, 5, none⟩ (.slice a2 s.a.C.length q2)).setCell ⟨w.heap.size + 2, 6, none⟩ (.int .i64 (s.ep + 1))).setCell ⟨w.heap.size + 2, 7, none⟩ (.int .i64 c.b)).setCell ⟨w.heap.size + 2, 8, none⟩ (.int .i64 c.k)).setCell ⟨w.heap.size + 2, 9, none⟩ (.slice b1 c.M.length p1)).setCell ⟨w.heap.size + 2, 10, none⟩ (.slice b2 c.C.length p2)).setCell ⟨w.heap.size + 2, 11, none⟩ (.int .i64 c.k)).heap[w.heap.size + 2]? = some (.cells #[.int .i64 (s.ep + 1), .int .i64 s.a.e, .int .i64 s.a.b, .int .i64 s.a.k, .slice a1 s.a.M.length q1, .slice a2 s.a.C.length q2, .int .i64 (s.ep + 1), .int .i64 c.b, .int .i64 c.k, .slice b1 c.M.length p1, .slice b2 c.C.length p2, .int .i64 c.k, .int .i64 0] 42) := heap_set_self g11 11 _
            have g13 : (((((((((((((w7.setCell ⟨w.heap.size + 2, 0, none⟩ (.int .i64 (s.ep + 1))).setCell ⟨w.heap.size + 2, 1, none⟩ (.int .i64 s.a.e)).setCell ⟨w.heap.size + 2, 2, none⟩ (.int .i64 s.a.b)).setCell ⟨w.heap.size + 2, 3, none⟩ (.int .i64 s.a.k)).setCell ⟨w.heap.size + 2, 4, none⟩ (.slice a1 s.a.M.length q1)).setCell ⟨w.heap.size + 2, 5, none⟩ (.slice a2 s.a.C.length q2)).setCell ⟨w.heap.size + 2, 6, none⟩ (.int .i64 (s.ep + 1))).setCell ⟨w.heap.size + 2, 7, none⟩ (.int .i64 c.b)).setCell ⟨w.heap.size + 2, 8, none⟩ (.int .i64 c.k)).setCell ⟨w.heap.size + 2, 9, none⟩ (.slice b1 c.M.length p1)).setCell ⟨w.heap.size + 2, 10, none⟩ (.slice b2 c.C.length p2)).setCell ⟨w.heap.size + 2, 11, none⟩ (.int .i64 c.k)).setCell ⟨w.heap.size + 2, 12, none⟩ (.int .i64 s.s1)).heap[w.heap.size + 2]? = some (.cells #[.int .i64 (s.ep + 1), .int .i64 s.a.e, .int .i64 s.a.b, .int .i64 s.a.k, .slice a1 s.a.M.length q1, .slice a2 s.a.C.length q2, .int .i64 (s.ep + 1), .int .i64 c.b, .int .i64 c.k, .slice b1 c.M.length p1, .slice b2 c.C.length p2, .int .i64 c.k, .int .i64 s.s1] 42) := heap_set_self g12 12 _
            have gO : Only (w.heap.size + 2) w7 (((((((((((((w7.setCell ⟨w.heap.size + 2, 0, none⟩ (.int .i64 (s.ep + 1))).setCell ⟨w.heap.size + 2, 1, none⟩ (.int .i64 s.a.e)).setCell ⟨w.heap.size + 2, 2, none⟩ (.int .i64 s.a.b)).setCell ⟨w.heap.size + 2, 3, none⟩ (.int .i64 s.a.k)).setCell ⟨w.heap.size + 2, 4, none⟩ (.slice a1 s.a.M.length q1)).setCell ⟨w.heap.size + 2, 5, none⟩ (.slice a2 s.a.C.length q2)).setCell ⟨w.heap.size + 2, 6, none⟩ (.int .i64 (s.ep + 1))).setCell ⟨w.heap.size + 2, 7, none⟩ (.int .i64 c.b)).setCell ⟨w.heap.size + 2, 8, none⟩ (.int .i64 c.k)).setCell ⟨w.heap.size + 2, 9, none⟩ (.slice b1 c.M.length p1)).setCell ⟨w.heap.size + 2, 10, none⟩ (.slice b2 c.C.length p2)).setCell ⟨w.heap.size + 2, 11, none⟩ (.int .i64 c.k)).setCell ⟨w.heap.size + 2, 12, none⟩ (.int .i64 s.s1)) := (((((((((((((Only.refl _ _).set 0 _).set 1 _).set 2 _).set 3 _).set 4 _).set 5 _).set 6 _).set 7 _).set 8 _).set 9 _).set 10 _).set 11 _).set 12 _
            have HF := Lib.hid (And.intro g13 (HB7.out.bl.trans (gO.below (B := w.heap.size) (by omega) HB7.out.bl.size)))
            clear g1 g2 g3 g4 g5 g6 g7 g8 g9 g10 g11 g12 g13 gO
            go_wp2_with fail
            generalize (((((((((((((w7.setCell ⟨w.heap.size + 2, 0, none⟩ (.int .i64 (s.ep + 1))).setCell ⟨w.heap.size + 2, 1, none⟩ (.int .i64 s.a.e)).setCell ⟨w.heap.size + 2, 2, none⟩ (.int .i64 s.a.b)).setCell ⟨w.heap.size + 2, 3, none⟩ (.int .i64 s.a.k)).setCell ⟨w.heap.size + 2, 4, none⟩ (.slice a1 s.a.M.length q1)).setCell ⟨w.heap.size + 2, 5, none⟩ (.slice a2 s.a.C.length q2)).setCell ⟨w.heap.size + 2, 6, none⟩ (.int .i64 (s.ep + 1))).setCell ⟨w.heap.size + 2, 7, none⟩ (.int .i64 c.b)).setCell ⟨w.heap.size + 2, 8, none⟩ (.int .i64 c.k)).setCell ⟨w.heap.size + 2, 9, none⟩ (.slice b1 c.M.length p1)).setCell ⟨w.heap.size + 2, 10, none⟩ (.slice b2 c.C.length p2)).setCell ⟨w.heap.size + 2, 11, none⟩ (.int .i64 c.k)).setCell ⟨w.heap.size + 2, 12, none⟩ (.int .i64 s.s1)) = wf at *
            have fi := HF.out.1
            have t0 := cell_atD fi 0 (v := .int .i64 (s.ep + 1)) rfl
            have t1 := cell_atD fi 1 (v := .int .i64 s.a.e) rfl
            have t2 := cell_atD fi 2 (v := .int .i64 s.a.b) rfl
            have t3 := cell_atD fi 3 (v := .int .i64 s.a.k) rfl
            have t4 := cell_atD fi 4 (v := .slice a1 s.a.M.length q1) rfl
            have t5 := cell_atD fi 5 (v := .slice a2 s.a.C.length q2) rfl
            have t6 := cell_atD fi 6 (v := .int .i64 (s.ep + 1)) rfl
            have t7 := cell_atD fi 7 (v := .int .i64 c.b) rfl
            have t8 := cell_atD fi 8 (v := .int .i64 c.k) rfl
            have t9 := cell_atD fi 9 (v := .slice b1 c.M.length p1) rfl
            have t10 := cell_atD fi 10 (v := .slice b2 c.C.length p2) rfl
            have t11 := cell_atD fi 11 (v := .int .i64 c.k) rfl
            have t12 := cell_atD fi 12 (v := .int .i64 s.s1) rfl
            clear fi
            refine bodyPost_ret (v := .agg #[.int .i64 (s.ep + 1), .int .i64 s.a.e, .int .i64 s.a.b, .int .i64 s.a.k, .slice a1 s.a.M.length q1, .slice a2 s.a.C.length q2, .int .i64 (s.ep + 1), .int .i64 c.b, .int .i64 c.k, .slice b1 c.M.length p1, .slice b2 c.C.length p2, .int .i64 c.k, .int .i64 s.s1]) (by simp [results, Try.results14, go_sem, t0, t1, t2, t3, t4, t5, t6, t7, t8, t9, t10, t11, t12]) rfl ?_
            exact ⟨⟨s.ep + 1, c.k, s.s1, s.a, ⟨s.ep + 1, c.b, c.k, c.M, c.C⟩⟩, a1, q1, a2, q2, b1, p1, b2, p2, rfl, ⟨HG.out.1, HG.out.2.2⟩, ⟨by show 0 ≤ s.ep + 1 ∧ s.ep + 1 ≤ 1048576; omega, HS.out.2.2.1.2.1, lowC_e hlc (by omega) (by omega), by have := HS.out.2.2.1.2.2.2.1; show c.k ≤ _; omega, by have := HS.out.2.2.1.2.2.2.2; show s.s1 ≤ _; exact this⟩, HF.out.2⟩
      · rw [hcb] at k2
        have HCB := Lib.hid hcb
        clear hcb
        rcases ht : decide (s.s1 < c.k) with _ | _
        · have htp : ¬ s.s1 < c.k := by simpa using ht
          go_wp2_with fail
          go_quiet (fail)
          have HB3 := Lib.hid (HB2.out.below (below_drewN' (Below.refl _ _) nq))
          clear k0 k1 k2 k3 k4 k5 x0 x1 x2 x3 x4 x5 x6 x7 x8 x9 x10 x11 x12
          generalize w2.drewN nq = w3 at *
          have k0 := cell_atD HB3.out.cm 0 (v := .int .i64 1) rfl
          have k1 := cell_atD HB3.out.cm 1 (v := .int .i64 c.e) rfl
          have k2 := cell_atD HB3.out.cm 2 (v := .int .i64 c.b) rfl
          have k3 := cell_atD HB3.out.cm 3 (v := .int .i64 c.k) rfl
          have k4 := cell_atD HB3.out.cm 4 (v := .slice b1 c.M.length p1) rfl
          have k5 := cell_atD HB3.out.cm 5 (v := .slice b2 c.C.length p2) rfl
          go_upto_region 10 with fail
          clear k0 k1 k2 k3 k4 k5
          have x0 := cell_atD HB3.out.st 0 (v := .int .i64 s.ep) rfl
          have x1 := cell_atD HB3.out.st 1 (v := .int .i64 s.a.e) rfl
          have x2 := cell_atD HB3.out.st 2 (v := .int .i64 s.a.b) rfl
          have x3 := cell_atD HB3.out.st 3 (v := .int .i64 s.a.k) rfl
          have x4 := cell_atD HB3.out.st 4 (v := .slice a1 s.a.M.length q1) rfl
          have x5 := cell_atD HB3.out.st 5 (v := .slice a2 s.a.C.length q2) rfl
          have x6 := cell_atD HB3.out.st 6 (v := .int .i64 s.n.e) rfl
          have x7 := cell_atD HB3.out.st 7 (v := .int .i64 s.n.b) rfl
          have x8 := cell_atD HB3.out.st 8 (v := .int .i64 s.n.k) rfl
          have x9 := cell_atD HB3.out.st 9 (v := .slice a3 s.n.M.length q3) rfl
          have x10 := cell_atD HB3.out.st 10 (v := .slice a4 s.n.C.length q4) rfl
          have x11 := cell_atD HB3.out.st 11 (v := .int .i64 s.s0) rfl
          have x12 := cell_atD HB3.out.st 12 (v := .int .i64 s.s1) rfl
          have z0 := cell_atD HB3.out.rs 0 (v := .int .i64 0) rfl
          have z1 := cell_atD HB3.out.rs 1 (v := .int .i64 0) rfl
          have z2 := cell_atD HB3.out.rs 2 (v := .int .i64 0) rfl
          have z3 := cell_atD HB3.out.rs 3 (v := .int .i64 0) rfl
          have z4 := cell_atD HB3.out.rs 4 (v := .slice none 0 0) rfl
          have z5 := cell_atD HB3.out.rs 5 (v := .slice none 0 0) rfl
          have z6 := cell_atD HB3.out.rs 6 (v := .int .i64 0) rfl
          have z7 := cell_atD HB3.out.rs 7 (v := .int .i64 0) rfl
          have z8 := cell_atD HB3.out.rs 8 (v := .int .i64 0) rfl
          have z9 := cell_atD HB3.out.rs 9 (v := .slice none 0 0) rfl
          have z10 := cell_atD HB3.out.rs 10 (v := .slice none 0 0) rfl
          have z11 := cell_atD HB3.out.rs 11 (v := .int .i64 0) rfl
          have z12 := cell_atD HB3.out.rs 12 (v := .int .i64 0) rfl
          have fz : ∀ o, w3.frozen? ⟨w.heap.size + 2, o, none⟩ = false := fun o => by simp [World.frozen?, HB3.out.rs]
          have g1 : (w3.setCell ⟨w.heap.size + 2, 0, none⟩ (.int .i64 s.ep)).heap[w.heap.size + 2]? = some (.cells #[.int .i64 s.ep, .int .i64 0, .int .i64 0, .int .i64 0, .slice none 0 0, .slice none 0 0, .int .i64 0, .int .i64 0, .int .i64 0, .slice none 0 0, .slice none 0 0, .int .i64 0, .int .i64 0] 42) := heap_set_self HB3.out.rs 0 _
          have g2 : ((w3.setCell ⟨w.heap.size + 2, 0, none⟩ (.int .i64 s.ep)).setCell ⟨w.heap.size + 2, 1, none⟩ (.int .i64 s.a.e)).heap[w.heap.size + 2]? = some (.cells #[.int .i64 s.ep, .int .i64 s.a.e, .int .i64 0, .int .i64 0, .slice none 0 0, .slice none 0 0, .int .i64 0, .int .i64 0, .int .i64 0, .slice none 0 0, .slice none 0 0, .int .i64 0, .int .i64 0] 42) := heap_set_self g1 1 _
          have g3 : (((w3.setCell ⟨w.heap.size + 2, 0, none⟩ (.int .i64 s.ep)).setCell ⟨w.heap.size + 2, 1, none⟩ (.int .i64 s.a.e)).setCell ⟨w.heap.size + 2, 2, none⟩ (.int .i64 s.a.b)).heap[w.heap.size + 2]? = some (.cells #[.int .i64 s.ep, .int .i64 s.a.e, .int .i64 s.a.b, .int .i64 0, .slice none 0 0, .slice none 0 0, .int .i64 0, .int .i64 0, .int .i64 0, .slice none 0 0, .slice none 0 0, .int .i64 0, .int .i64 0] 42) := heap_set_self g2 2 _
          have g4 : ((((w3.setCell ⟨w.heap.size + 2, 0, none⟩ (.int .i64 s.ep)).setCell ⟨w.heap.size + 2, 1, none⟩ (.int .i64 s.a.e)).setCell ⟨w.heap.size + 2, 2, none⟩ (.int .i64 s.a.b)).setCell ⟨w.heap.size + 2, 3, none⟩ (.int .i64 s.a.k)).heap[w.heap.size + 2]? = some (.cells #[.int .i64 s.ep, .int .i64 s.a.e, .int .i64 s.a.b, .int .i64 s.a.k, .slice none 0 0, .slice none 0 0, .int .i64 0, .int .i64 0, .int .i64 0, .slice none 0 0, .slice none 0 0, .int .i64 0, .int .i64 0] 42) := heap_set_self g3 3 _
          have g5 : (((((w3.setCell ⟨w.heap.size + 2, 0, none⟩ (.int .i64 s.ep)).setCell ⟨w.heap.size + 2, 1, none⟩ (.int .i64 s.a.e)).setCell ⟨w.heap.size + 2, 2, none⟩ (.int .i64 s.a.b)).setCell ⟨w.heap.size + 2, 3, none⟩ (.int .i64 s.a.k)).setCell ⟨w.heap.size + 2, 4, none⟩ (.slice a1 s.a.M.length q1)).heap[w.heap.size + 2]? = some (.cells #[.int .i64 s.ep, .int .i64 s.a.e, .int .i64 s.a.b, .int .i64 s.a.k, .slice a1 s.a.M.length q1, .slice none 0 0, .int .i64 0, .int .i64 0, .int .i64 0, .slice none 0 0, .slice none 0 0, .int .i64 0, .int .i64 0] 42) := heap_set_self g4 4 _
          have g6 : ((((((w3.setCell ⟨w.heap.size + 2, 0, none⟩ (.int .i64 s.ep)).setCell ⟨w.heap.size + 2, 1, none⟩ (.int .i64 s.a.e)).setCell ⟨w.heap.size + 2, 2, none⟩ (.int .i64 s.a.b)).setCell ⟨w.heap.size + 2, 3, none⟩ (.int .i64 s.a.k)).setCell ⟨w.heap.size + 2, 4, none⟩ (.slice a1 s.a.M.length q1)).setCell ⟨w.heap.size + 2, 5, none⟩ (.slice a2 s.a.C.length q2)).heap[w.heap.size + 2]? = some (.cells #[.int .i64 s.ep, .int .i64 s.a.e, .int .i64 s.a.b, .int .i64 s.a.k, .slice a1 s.a.M.length q1, .slice a2 s.a.C.length q2, .int .i64 0, .int .i64 0, .int .i64 0, .slice none 0 0, .slice none 0 0, .int .i64 0, .int .i64 0] 42) := heap_set_self g5 5 _
          have g7 : (((((((w3.setCell ⟨w.heap.size + 2, 0, none⟩ (.int .i64 s.ep)).setCell ⟨w.heap.size + 2, 1, none⟩ (.int .i64 s.a.e)).setCell ⟨w.heap.size + 2, 2, none⟩ (.int .i64 s.a.b)).setCell ⟨w.heap.size + 2, 3, none⟩ (.int .i64 s.a.k)).setCell ⟨w.heap.size + 2, 4, none⟩ (.slice a1 s.a.M.length q1)).setCell ⟨w.heap.size + 2, 5, none⟩ (.slice a2 s.a.C.length q2)).setCell ⟨w.heap.size + 2, 6, none⟩ (.int .i64 s.n.e)).heap[w.heap.size + 2]? = some (.cells #[.int .i64 s.ep, .int .i64 s.a.e, .int .i64 s.a.b, .int .i64 s.a.k, .slice a1 s.a.M.length q1, .slice a2 s.a.C.length q2, .int .i64 s.n.e, .int .i64 0, .int .i64 0, .slice none 0 0, .slice none 0 0, .int .i64 0, .int .i64 0] 42) := heap_set_self g6 6 _
          have g8 : ((((((((w3.setCell ⟨w.heap.size + 2, 0, none⟩ (.int .i64 s.ep)).setCell ⟨w.heap.size + 2, 1, none⟩ (.int .i64 s.a.e)).setCell ⟨w.heap.size + 2, 2, none⟩ (.int .i64 s.a.b)).setCell ⟨w.heap.size + 2, 3, none⟩ (.int .i64 s.a.k)).setCell ⟨w.heap.size + 2, 4, none⟩ (.slice a1 s.a.M.length q1)).setCell ⟨w.heap.size + 2, 5, none⟩ (.slice a2 s.a.C.length q2)).setCell ⟨w.heap.size + 2, 6, none⟩ (.int .i64 s.n.e)).setCell ⟨w.heap.size + 2, 7, none⟩ (.int .i64 s.n.b)).heap[w.heap.size + 2]? = some (.cells #[.int .i64 s.ep, .int .i64 s.a.e, .int .i64 s.a.b, .int .i64 s.a.k, .slice a1 s.a.M.length q1, .slice a2 s.a.C.length q2, .int .i64 s.n.e, .int .i64 s.n.b, .int .i64 0, .slice none 0 0, .slice none 0 0, .int .i64 0, .int .i64 0] 42) := heap_set_self g7 7 _
          have g9 : (((((((((w3.setCell ⟨w.heap.size + 2, 0, none⟩ (.int .i64 s.ep)).setCell ⟨w.heap.size + 2, 1, none⟩ (.int .i64 s.a.e)).setCell ⟨w.heap.size + 2, 2, none⟩ (.int .i64 s.a.b)).setCell ⟨w.heap.size + 2, 3, none⟩ (.int .i64 s.a.k)).setCell ⟨w.heap.size + 2, 4, none⟩ (.slice a1 s.a.M.length q1)).setCell ⟨w.heap.size + 2, 5, none⟩ (.slice a2 s.a.C.length q2)).setCell ⟨w.heap.size + 2, 6, none⟩ (.int .i64 s.n.e)).setCell ⟨w.heap.size + 2, 7, none⟩ (.int .i64 s.n.b)).setCell ⟨w.heap.size + 2, 8, none⟩ (.int .i64 s.n.k)).heap[w.heap.size + 2]? = some (.cells #[.int .i64 s.ep, .int .i64 s.a.e, .int .i64 s.a.b, .int .i64 s.a.k, .slice a1 s.a.M.length q1, .slice a2 s.a.C.length q2, .int .i64 s.n.e, .int .i64 s.n.b, .int .i64 s.n.k, .slice none 0 0, .slice none 0 0, .int .i64 0, .int .i64 0] 42) := heap_set_self g8 8 _
          have g10 : ((((((((((w3.setCell ⟨w.heap.size + 2, 0, none⟩ (.int .i64 s.ep)).setCell ⟨w.heap.size + 2, 1, none⟩ (.int .i64 s.a.e)).setCell ⟨w.heap.size + 2, 2, none⟩ (.int .i64 s.a.b)).setCell ⟨w.heap.size + 2, 3, none⟩ (.int .i64 s.a.k)).setCell ⟨w.heap.size + 2, 4, none⟩ (.slice a1 s.a.M.length q1)).setCell ⟨w.heap.size + 2, 5, none⟩ (.slice a2 s.a.C.length q2)).setCell ⟨w.heap.size + 2, 6, none⟩ (.int .i64 s.n.e)).setCell ⟨w.heap.size + 2, 7, none⟩ (.int .i64 s.n.b)).setCell ⟨w.heap.size + 2, 8, none⟩ (.int .i64 s.n.k)).setCell ⟨w.heap.size + 2, 9, none⟩ (.slice a3 s.n.M.length q3)).heap[w.heap.size + 2]? = some (.cells #[.int .i64 s.ep, .int .i64 s.a.e, .int .i64 s.a.b, .int .i64 s.a.k, .slice a1 s.a.M.length q1, .slice a2 s.a.C.length q2, .int .i64 s.n.e, .int .i64 s.n.b, .int .i64 s.n.k, .slice a3 s.n.M.length q3, .slice none 0 0, .int .i64 0, .int .i64 0] 42) := heap_set_self g9 9 _
          have g11 : (((((((((((w3.setCell ⟨w.heap.size + 2, 0, none⟩ (.int .i64 s.ep)).setCell ⟨w.heap.size + 2, 1, none⟩ (.int .i64 s.a.e)).setCell ⟨w.heap.size + 2, 2, none⟩ (.int .i64 s.a.b)).setCell ⟨w.heap.size + 2, 3, none⟩ (.int .i64 s.a.k)).setCell ⟨w.heap.size + 2, 4, none⟩ (.slice a1 s.a.M.length q1)).setCell ⟨w.heap.size + 2, 5, none⟩ (.slice a2 s.a.C.length q2)).setCell ⟨w.heap.size + 2, 6, none⟩ (.int .i64 s.n.e)).setCell ⟨w.heap.size + 2, 7, none⟩ (.int .i64 s.n.b)).setCell ⟨w.heap.size + 2, 8, none⟩ (.int .i64 s.n.k)).setCell ⟨w.heap.size + 2, 9, none⟩ (.slice a3 s.n.M.length q3)).setCell ⟨w.heap.size + 2, 10, none⟩ (.slice a4 s.n.C.length q4)).heap[w.heap.size + 2]? = some (.cells #[.int .i64 s.ep, .int .i64 s.a.e, .int .i64 s.a.b, .int .i64 s.a.k, .slice a1 s.a.M.length q1, .slice a2 s.a.C.length q2, .int .i64 s.n.e, .int .i64 s.n.b, .int .i64 s.n.k, .slice a3 s.n.M.length q3, .slice a4 s.n.C.length q4, .int .i64 0, .int .i64 0] 42) := heap_set_self g10 10 _
          have g12 : ((((((((((((w3.setCell ⟨w.heap.size + 2, 0, none⟩ (.int .i64 s.ep)).setCell ⟨w.heap.size + 2, 1, none⟩ (.int .i64 s.a.e)).setCell ⟨w.heap.size + 2, 2, none⟩ (.int .i64 s.a.b)).setCell ⟨w.heap.size + 2, 3, none⟩ (.int .i64 s.a.k)).setCell ⟨w.heap.size + 2, 4, none⟩ (.slice a1 s.a.M.length q1)).setCell ⟨w.heap.size + 2, 5, none⟩ (.slice a2 s.a.C.length q2)).setCell ⟨w.heap.size + 2, 6, none⟩ (.int .i64 s.n.e)).setCell ⟨w.heap.size + 2, 7, none⟩ (.int .i64 s.n.b)).setCell ⟨w.heap.size + 2, 8, none⟩ (.int .i64 s.n.k)).setCell ⟨w.heap.size + 2, 9, none⟩ (.slice a3 s.n.M.length q3)).setCell ⟨w.heap.size + 2, 10, none⟩ (.slice a4 s.n.C.length q4)).setCell ⟨w.heap.size + 2, 11, none⟩ (.int .i64 s.s0)).heap[w.heap.size + 2]? = some (.cells #[.int .i64 s.ep, .int .i64 s.a.e, .int .i64 s.a.b, .int .i64 s.a.k, .slice a1 s.a.M.length q1, .slice a2 s.a.C.length q2, .int .i64 s.n.e, .int .i64 s.n.b, .int .i64 s.n.k, .slice a3 s.n.M.length q3, .slice a4 s.n.C.length q4, .int .i64 s.s0, .int .i64 0] 42) := heap_set_self g11 11 _
          have g13 : (((((((((((((w3.setCell ⟨w.heap.size + 2, 0, none⟩ (.int .i64 s.ep)).setCell ⟨w.heap.size + 2, 1, none⟩ (.int .i64 s.a.e)).setCell ⟨w.heap.size + 2, 2, none⟩ (.int .i64 s.a.b)).setCell ⟨w.heap.size + 2, 3, none⟩ (.int .i64 s.a.k)).setCell ⟨w.heap.size + 2, 4, none⟩ (.slice a1 s.a.M.length q1)).setCell ⟨w.heap.size + 2, 5, none⟩ (.slice a2 s.a.C.length q2)).setCell ⟨w.heap.size + 2, 6, none⟩ (.int .i64 s.n.e)).setCell ⟨w.heap.size + 2, 7, none⟩ (.int .i64 s.n.b)).setCell ⟨w.heap.size + 2, 8, none⟩ (.int .i64 s.n.k)).setCell ⟨w.heap.size + 2, 9, none⟩ (.slice a3 s.n.M.length q3)).setCell ⟨w.heap.size + 2, 10, none⟩ (.slice a4 s.n.C.length q4)).setCell ⟨w.heap.size + 2, 11, none⟩ (.int .i64 s.s0)).setCell ⟨w.heap.size + 2, 12, none⟩ (.int .i64 s.s1)).heap[w.heap.size + 2]? = some (.cells #[.int .i64 s.ep, .int .i64 s.a.e, .int .i64 s.a.b, .int .i64 s.a.k, .slice a1 s.a.M.length q1, .slice a2 s.a.C.length q2, .int .i64 s.n.e, .int .i64 s.n.b, .int .i64 s.n.k, .slice a3 s.n.M.length q3, .slice a4 s.n.C.length q4, .int .i64 s.s0, .int .i64 s.s1] 42) := heap_set_self g12 12 _
          have gO : Only (w.heap.size + 2) w3 (((((((((((((w3.setCell ⟨w.heap.size + 2, 0, none⟩ (.int .i64 s.ep)).setCell ⟨w.heap.size + 2, 1, none⟩ (.int .i64 s.a.e)).setCell ⟨w.heap.size + 2, 2, none⟩ (.int .i64 s.a.b)).setCell ⟨w.heap.size + 2, 3, none⟩ (.int .i64 s.a.k)).setCell ⟨w.heap.size + 2, 4, none⟩ (.slice a1 s.a.M.length q1)).setCell ⟨w.heap.size + 2, 5, none⟩ (.slice a2 s.a.C.length q2)).setCell ⟨w.heap.size + 2, 6, none⟩ (.int .i64 s.n.e)).setCell ⟨w.heap.size + 2, 7, none⟩ (.int .i64 s.n.b)).setCell ⟨w.heap.size + 2, 8, none⟩ (.int .i64 s.n.k)).setCell ⟨w.heap.size + 2, 9, none⟩ (.slice a3 s.n.M.length q3)).setCell ⟨w.heap.size + 2, 10, none⟩ (.slice a4 s.n.C.length q4)).setCell ⟨w.heap.size + 2, 11, none⟩ (.int .i64 s.s0)).setCell ⟨w.heap.size + 2, 12, none⟩ (.int .i64 s.s1)) := (((((((((((((Only.refl _ _).set 0 _).set 1 _).set 2 _).set 3 _).set 4 _).set 5 _).set 6 _).set 7 _).set 8 _).set 9 _).set 10 _).set 11 _).set 12 _
          have HF := Lib.hid (And.intro g13 (HB3.out.bl.trans (gO.below (B := w.heap.size) (by omega) HB3.out.bl.size)))
          clear g1 g2 g3 g4 g5 g6 g7 g8 g9 g10 g11 g12 g13 gO
          go_wp2_with fail
          generalize (((((((((((((w3.setCell ⟨w.heap.size + 2, 0, none⟩ (.int .i64 s.ep)).setCell ⟨w.heap.size + 2, 1, none⟩ (.int .i64 s.a.e)).setCell ⟨w.heap.size + 2, 2, none⟩ (.int .i64 s.a.b)).setCell ⟨w.heap.size + 2, 3, none⟩ (.int .i64 s.a.k)).setCell ⟨w.heap.size + 2, 4, none⟩ (.slice a1 s.a.M.length q1)).setCell ⟨w.heap.size + 2, 5, none⟩ (.slice a2 s.a.C.length q2)).setCell ⟨w.heap.size + 2, 6, none⟩ (.int .i64 s.n.e)).setCell ⟨w.heap.size + 2, 7, none⟩ (.int .i64 s.n.b)).setCell ⟨w.heap.size + 2, 8, none⟩ (.int .i64 s.n.k)).setCell ⟨w.heap.size + 2, 9, none⟩ (.slice a3 s.n.M.length q3)).setCell ⟨w.heap.size + 2, 10, none⟩ (.slice a4 s.n.C.length q4)).setCell ⟨w.heap.size + 2, 11, none⟩ (.int .i64 s.s0)).setCell ⟨w.heap.size + 2, 12, none⟩ (.int .i64 s.s1)) = wf at *
          have fi := HF.out.1
          have t0 := cell_atD fi 0 (v := .int .i64 s.ep) rfl
          have t1 := cell_atD fi 1 (v := .int .i64 s.a.e) rfl
          have t2 := cell_atD fi 2 (v := .int .i64 s.a.b) rfl
          have t3 := cell_atD fi 3 (v := .int .i64 s.a.k) rfl
          have t4 := cell_atD fi 4 (v := .slice a1 s.a.M.length q1) rfl
          have t5 := cell_atD fi 5 (v := .slice a2 s.a.C.length q2) rfl
          have t6 := cell_atD fi 6 (v := .int .i64 s.n.e) rfl
          have t7 := cell_atD fi 7 (v := .int .i64 s.n.b) rfl
          have t8 := cell_atD fi 8 (v := .int .i64 s.n.k) rfl
          have t9 := cell_atD fi 9 (v := .slice a3 s.n.M.length q3) rfl
          have t10 := cell_atD fi 10 (v := .slice a4 s.n.C.length q4) rfl
          have t11 := cell_atD fi 11 (v := .int .i64 s.s0) rfl
          have t12 := cell_atD fi 12 (v := .int .i64 s.s1) rfl
          clear fi
          refine bodyPost_ret (v := .agg #[.int .i64 s.ep, .int .i64 s.a.e, .int .i64 s.a.b, .int .i64 s.a.k, .slice a1 s.a.M.length q1, .slice a2 s.a.C.length q2, .int .i64 s.n.e, .int .i64 s.n.b, .int .i64 s.n.k, .slice a3 s.n.M.length q3, .slice a4 s.n.C.length q4, .int .i64 s.s0, .int .i64 s.s1]) (by simp [results, Try.results14, go_sem, t0, t1, t2, t3, t4, t5, t6, t7, t8, t9, t10, t11, t12]) rfl ?_
          exact ⟨s, a1, q1, a2, q2, a3, q3, a4, q4, rfl, ⟨HG.out.1, HG.out.2.1⟩, HS.out.2.2.1, HF.out.2⟩
        · rcases ht2 : decide (s.ep < 1048576) with _ | _
          · have htq : s.s1 < c.k := by simpa using ht
            have htp : ¬ s.ep < 1048576 := by simpa using ht2
            go_wp2_with fail
            go_quiet (fail)
            have HB3 := Lib.hid (HB2.out.below (below_drewN' (Below.refl _ _) nq))
            clear k0 k1 k2 k3 k4 k5 x0 x1 x2 x3 x4 x5 x6 x7 x8 x9 x10 x11 x12
            generalize w2.drewN nq = w3 at *
            have k0 := cell_atD HB3.out.cm 0 (v := .int .i64 1) rfl
            have k1 := cell_atD HB3.out.cm 1 (v := .int .i64 c.e) rfl
            have k2 := cell_atD HB3.out.cm 2 (v := .int .i64 c.b) rfl
            have k3 := cell_atD HB3.out.cm 3 (v := .int .i64 c.k) rfl
            have k4 := cell_atD HB3.out.cm 4 (v := .slice b1 c.M.length p1) rfl
            have k5 := cell_atD HB3.out.cm 5 (v := .slice b2 c.C.length p2) rfl
            go_upto_region 10 with fail
            clear k0 k1 k2 k3 k4 k5
            have x0 := cell_atD HB3.out.st 0 (v := .int .i64 s.ep) rfl
            have x1 := cell_atD HB3.out.st 1 (v := .int .i64 s.a.e) rfl
            have x2 := cell_atD HB3.out.st 2 (v := .int .i64 s.a.b) rfl
            have x3 := cell_atD HB3.out.st 3 (v := .int .i64 s.a.k) rfl
            have x4 := cell_atD HB3.out.st 4 (v := .slice a1 s.a.M.length q1) rfl
            have x5 := cell_atD HB3.out.st 5 (v := .slice a2 s.a.C.length q2) rfl
            have x6 := cell_atD HB3.out.st 6 (v := .int .i64 s.n.e) rfl
            have x7 := cell_atD HB3.out.st 7 (v := .int .i64 s.n.b) rfl
            have x8 := cell_atD HB3.out.st 8 (v := .int .i64 s.n.k) rfl
            have x9 := cell_atD HB3.out.st 9 (v := .slice a3 s.n.M.length q3) rfl
            have x10 := cell_atD HB3.out.st 10 (v := .slice a4 s.n.C.length q4) rfl
            have x11 := cell_atD HB3.out.st 11 (v := .int .i64 s.s0) rfl
            have x12 := cell_atD HB3.out.st 12 (v := .int .i64 s.s1) rfl
            have z0 := cell_atD HB3.out.rs 0 (v := .int .i64 0) rfl
            have z1 := cell_atD HB3.out.rs 1 (v := .int .i64 0) rfl
            have z2 := cell_atD HB3.out.rs 2 (v := .int .i64 0) rfl
            have z3 := cell_atD HB3.out.rs 3 (v := .int .i64 0) rfl
            have z4 := cell_atD HB3.out.rs 4 (v := .slice none 0 0) rfl
            have z5 := cell_atD HB3.out.rs 5 (v := .slice none 0 0) rfl
            have z6 := cell_atD HB3.out.rs 6 (v := .int .i64 0) rfl
            have z7 := cell_atD HB3.out.rs 7 (v := .int .i64 0) rfl
            have z8 := cell_atD HB3.out.rs 8 (v := .int .i64 0) rfl
            have z9 := cell_atD HB3.out.rs 9 (v := .slice none 0 0) rfl
            have z10 := cell_atD HB3.out.rs 10 (v := .slice none 0 0) rfl
            have z11 := cell_atD HB3.out.rs 11 (v := .int .i64 0) rfl
            have z12 := cell_atD HB3.out.rs 12 (v := .int .i64 0) rfl
            have fz : ∀ o, w3.frozen? ⟨w.heap.size + 2, o, none⟩ = false := fun o => by simp [World.frozen?, HB3.out.rs]
            have g1 : (w3.setCell ⟨w.heap.size + 2, 0, none⟩ (.int .i64 s.ep)).heap[w.heap.size + 2]? = some (.cells #[.int .i64 s.ep, .int .i64 0, .int .i64 0, .int .i64 0, .slice none 0 0, .slice none 0 0, .int .i64 0, .int .i64 0, .int .i64 0, .slice none 0 0, .slice none 0 0, .int .i64 0, .int .i64 0] 42) := heap_set_self HB3.out.rs 0 _
            have g2 : ((w3.setCell ⟨w.heap.size + 2, 0, none⟩ (.int .i64 s.ep)).setCell ⟨w.heap.size + 2, 1, none⟩ (.int .i64 s.a.e)).heap[w.heap.size + 2]? = some (.cells #[.int .i64 s.ep, .int .i64 s.a.e, .int .i64 0, .int .i64 0, .slice none 0 0, .slice none 0 0, .int .i64 0, .int .i64 0, .int .i64 0, .slice none 0 0, .slice none 0 0, .int .i64 0, .int .i64 0] 42) := heap_set_self g1 1 _
            have g3 : (((w3.setCell ⟨w.heap.size + 2, 0, none⟩ (.int .i64 s.ep)).setCell ⟨w.heap.size + 2, 1, none⟩ (.int .i64 s.a.e)).setCell ⟨w.heap.size + 2, 2, none⟩ (.int .i64 s.a.b)).heap[w.heap.size + 2]? = some (.cells #[.int .i64 s.ep, .int .i64 s.a.e, .int .i64 s.a.b, .int .i64 0, .slice none 0 0, .slice none 0 0, .int .i64 0, .int .i64 0, .int .i64 0, .slice none 0 0, .slice none 0 0, .int .i64 0, .int .i64 0] 42) := heap_set_self g2 2 _
            have g4 : ((((w3.setCell ⟨w.heap.size + 2, 0, none⟩ (.int .i64 s.ep)).setCell ⟨w.heap.size + 2, 1, none⟩ (.int .i64 s.a.e)).setCell ⟨w.heap.size + 2, 2, none⟩ (.int .i64 s.a.b)).setCell ⟨w.heap.size + 2, 3, none⟩ (.int .i64 s.a.k)).heap[w.heap.size + 2]? = some (.cells #[.int .i64 s.ep, .int .i64 s.a.e, .int .i64 s.a.b, .int .i64 s.a.k, .slice none 0 0, .slice none 0 0, .int .i64 0, .int .i64 0, .int .i64 0, .slice none 0 0, .slice none 0 0, .int .i64 0, .int .i64 0] 42) := heap_set_self g3 3 _
            have g5 : (((((w3.setCell ⟨w.heap.size + 2, 0, none⟩ (.int .i64 s.ep)).setCell ⟨w.heap.size + 2, 1, none⟩ (.int .i64 s.a.e)).setCell ⟨w.heap.size + 2, 2, none⟩ (.int .i64 s.a.b)).setCell ⟨w.heap.size + 2, 3, none⟩ (.int .i64 s.a.k)).setCell ⟨w.heap.size + 2, 4, none⟩ (.slice a1 s.a.M.length q1)).heap[w.heap.size + 2]? = some (.cells #[.int .i64 s.ep, .int .i64 s.a.e, .int .i64 s.a.b, .int .i64 s.a.k, .slice a1 s.a.M.length q1, .slice none 0 0, .int .i64 0, .int .i64 0, .int .i64 0, .slice none 0 0, .slice none 0 0, .int .i64 0, .int .i64 0] 42) := heap_set_self g4 4 _
            have g6 : ((((((w3.setCell ⟨w.heap.size + 2, 0, none⟩ (.int .i64 s.ep)).setCell ⟨w.heap.size + 2, 1, none⟩ (.int .i64 s.a.e)).setCell ⟨w.heap.size + 2, 2, none⟩ (.int .i64 s.a.b)).setCell ⟨w.heap.size + 2, 3, none⟩ (.int .i64 s.a.k)).setCell ⟨w.heap.size + 2, 4, none⟩ (.slice a1 s.a.M.length q1)).setCell ⟨w.heap.size + 2, 5, none⟩ (.slice a2 s.a.C.length q2)).heap[w.heap.size + 2]? = some (.cells #[.int .i64 s.ep, .int .i64 s.a.e, .int .i64 s.a.b, .int .i64 s.a.k, .slice a1 s.a.M.length q1, .slice a2 s.a.C.length q2, .int .i64 0, .int .i64 0, .int .i64 0, .slice none 0 0, .slice none 0 0, .int .i64 0, .int .i64 0] 42) := heap_set_self g5 5 _
            have g7 : (((((((w3.setCell ⟨w.heap.size + 2, 0, none⟩ (.int .i64 s.ep)).setCell ⟨w.heap.size + 2, 1, none⟩ (.int .i64 s.a.e)).setCell ⟨w.heap.size + 2, 2, none⟩ (.int .i64 s.a.b)).setCell ⟨w.heap.size + 2, 3, none⟩ (.int .i64 s.a.k)).setCell ⟨w.heap.size + 2, 4, none⟩ (.slice a1 s.a.M.length q1)).setCell ⟨w.heap.size + 2, 5, none⟩ (.slice a2 s.a.C.length q2)).setCell ⟨w.heap.size + 2, 6, none⟩ (.int .i64 s.n.e)).heap[w.heap.size + 2]? = some (.cells #[.int .i64 s.ep, .int .i64 s.a.e, .int .i64 s.a.b, .int .i64 s.a.k, .slice a1 s.a.M.length q1, .slice a2 s.a.C.length q2, .int .i64 s.n.e, .int .i64 0, .int .i64 0, .slice none 0 0, .slice none 0 0, .int .i64 0, .int .i64 0] 42) := heap_set_self g6 6 _
            have g8 : ((((((((w3.setCell ⟨w.heap.size + 2, 0, none⟩ (.int .i64 s.ep)).setCell ⟨w.heap.size + 2, 1, none⟩ (.int .i64 s.a.e)).setCell ⟨w.heap.size + 2, 2, none⟩ (.int .i64 s.a.b)).setCell ⟨w.heap.size + 2, 3, none⟩ (.int .i64 s.a.k)).setCell ⟨w.heap.size + 2, 4, none⟩ (.slice a1 s.a.M.length q1)).setCell ⟨w.heap.size + 2, 5, none⟩ (.slice a2 s.a.C.length q2)).setCell ⟨w.heap.size + 2, 6, none⟩ (.int .i64 s.n.e)).setCell ⟨w.heap.size + 2, 7, none⟩ (.int .i64 s.n.b)).heap[w.heap.size + 2]? = some (.cells #[.int .i64 s.ep, .int .i64 s.a.e, .int .i64 s.a.b, .int .i64 s.a.k, .slice a1 s.a.M.length q1, .slice a2 s.a.C.length q2, .int .i64 s.n.e, .int .i64 s.n.b, .int .i64 0, .slice none 0 0, .slice none 0 0, .int .i64 0, .int .i64 0] 42) := heap_set_self g7 7 _
            have g9 : (((((((((w3.setCell ⟨w.heap.size + 2, 0, none⟩ (.int .i64 s.ep)).setCell ⟨w.heap.size + 2, 1, none⟩ (.int .i64 s.a.e)).setCell ⟨w.heap.size + 2, 2, none⟩ (.int .i64 s.a.b)).setCell ⟨w.heap.size + 2, 3, none⟩ (.int .i64 s.a.k)).setCell ⟨w.heap.size + 2, 4, none⟩ (.slice a1 s.a.M.length q1)).setCell ⟨w.heap.size + 2, 5, none⟩ (.slice a2 s.a.C.length q2)).setCell ⟨w.heap.size + 2, 6, none⟩ (.int .i64 s.n.e)).setCell ⟨w.heap.size + 2, 7, none⟩ (.int .i64 s.n.b)).setCell ⟨w.heap.size + 2, 8, none⟩ (.int .i64 s.n.k)).heap[w.heap.size + 2]? = some (.cells #[.int .i64 s.ep, .int .i64 s.a.e, .int .i64 s.a.b, .int .i64 s.a.k, .slice a1 s.a.M.length q1, .slice a2 s.a.C.length q2, .int .i64 s.n.e, .int .i64 s.n.b, .int .i64 s.n.k, .slice none 0 0, .slice none 0 0, .int .i64 0, .int .i64 0] 42) := heap_set_self g8 8 _
            have g10 : ((((((((((w3.setCell ⟨w.heap.size + 2, 0, none⟩ (.int .i64 s.ep)).setCell ⟨w.heap.size + 2, 1, none⟩ (.int .i64 s.a.e)).setCell ⟨w.heap.size + 2, 2, none⟩ (.int .i64 s.a.b)).setCell ⟨w.heap.size + 2, 3, none⟩ (.int .i64 s.a.k)).setCell ⟨w.heap.size + 2, 4, none⟩ (.slice a1 s.a.M.length q1)).setCell ⟨w.heap.size + 2, 5, none⟩ (.slice a2 s.a.C.length q2)).setCell ⟨w.heap.size + 2, 6, none⟩ (.int .i64 s.n.e)).setCell ⟨w.heap.size + 2, 7, none⟩ (.int .i64 s.n.b)).setCell ⟨w.heap.size + 2, 8, none⟩ (.int .i64 s.n.k)).setCell ⟨w.heap.size + 2, 9, none⟩ (.slice a3 s.n.M.length q3)).heap[w.heap.size + 2]? = some (.cells #[.int .i64 s.ep, .int .i64 s.a.e, .int .i64 s.a.b, .int .i64 s.a.k, .slice a1 s.a.M.length q1, .slice a2 s.a.C.length q2, .int .i64 s.n.e, .int .i64 s.n.b, .int .i64 s.n.k, .slice a3 s.n.M.length q3, .slice none 0 0, .int .i64 0, .int .i64 0] 42) := heap_set_self g9 9 _
            have g11 : (((((((((((w3.setCell ⟨w.heap.size + 2, 0, none⟩ (.int .i64 s.ep)).setCell ⟨w.heap.size + 2, 1, none⟩ (.int .i64 s.a.e)).setCell ⟨w.heap.size + 2, 2, none⟩ (.int .i64 s.a.b)).setCell ⟨w.heap.size + 2, 3, none⟩ (.int .i64 s.a.k)).setCell ⟨w.heap.size + 2, 4, none⟩ (.slice a1 s.a.M.length q1)).setCell ⟨w.heap.size + 2, 5, none⟩ (.slice a2 s.a.C.length q2)).setCell ⟨w.heap.size + 2, 6, none⟩ (.int .i64 s.n.e)).setCell ⟨w.heap.size + 2, 7, none⟩ (.int .i64 s.n.b)).setCell ⟨w.heap.size + 2, 8, none⟩ (.int .i64 s.n.k)).setCell ⟨w.heap.size + 2, 9, none⟩ (.slice a3 s.n.M.length q3)).setCell ⟨w.heap.size + 2, 10, none⟩ (.slice a4 s.n.C.length q4)).heap[w.heap.size + 2]? = some (.cells #[.int .i64 s.ep, .int .i64 s.a.e, .int .i64 s.a.b, .int .i64 s.a.k, .slice a1 s.a.M.length q1, .slice a2 s.a.C.length q2, .int .i64 s.n.e, .int .i64 s.n.b, .int .i64 s.n.k, .slice a3 s.n.M.length q3, .slice a4 s.n.C.length q4, .int .i64 0, .int .i64 0] 42) := heap_set_self g10 10 _
            have g12 : ((((((((((((w3.setCell ⟨w.heap.size + 2, 0, none⟩ (.int .i64 s.ep)).setCell ⟨w.heap.size + 2, 1, none⟩ (.int .i64 s.a.e)).setCell ⟨w.heap.size + 2, 2, none⟩ (.int .i64 s.a.b)).setCell ⟨w.heap.size + 2, 3, none⟩ (.int .i64 s.a.k)).setCell ⟨w.heap.size + 2, 4, none⟩ (.slice a1 s.a.M.length q1)).setCell ⟨w.heap.size + 2, 5, none⟩ (.slice a2 s.a.C.length q2)).setCell ⟨w.heap.size + 2, 6, none⟩ (.int .i64 s.n.e)).setCell ⟨w.heap.size + 2, 7, none⟩ (.int .i64 s.n.b)).setCell ⟨w.heap.size + 2, 8, none⟩ (.int .i64 s.n.k)).setCell ⟨w.heap.size + 2, 9, none⟩ (.slice a3 s.n.M.length q3)).setCell ⟨w.heap.size + 2, 10, none⟩ (.slice a4 s.n.C.length q4)).setCell ⟨w.heap.size + 2, 11, none⟩ (.int .i64 s.s0)).heap[w.heap.size + 2]? = some (.cells #[.int .i64 s.ep, .int .i64 s.a.e, .int .i64 s.a.b, .int .i64 s.a.k, .slice a1 s.a.M.length q1, .slice a2 s.a.C.length q2, .int .i64 s.n.e, .int .i64 s.n.b, .int .i64 s.n.k, .slice a3 s.n.M.length q3, .slice a4 s.n.C.length q4, .int .i64 s.s0, .int .i64 0] 42) := heap_set_self g11 11 _
            have g13 : (((((((((((((w3.setCell ⟨w.heap.size + 2, 0, none⟩ (.int .i64 s.ep)).setCell ⟨w.heap.size + 2, 1, none⟩ (.int .i64 s.a.e)).setCell ⟨w.heap.size + 2, 2, none⟩ (.int .i64 s.a.b)).setCell ⟨w.heap.size + 2, 3, none⟩ (.int .i64 s.a.k)).setCell ⟨w.heap.size + 2, 4, none⟩ (.slice a1 s.a.M.length q1)).setCell ⟨w.heap.size + 2, 5, none⟩ (.slice a2 s.a.C.length q2)).setCell ⟨w.heap.size + 2, 6, none⟩ (.int .i64 s.n.e)).setCell ⟨w.heap.size + 2, 7, none⟩ (.int .i64 s.n.b)).setCell ⟨w.heap.size + 2, 8, none⟩ (.int .i64 s.n.k)).setCell ⟨w.heap.size + 2, 9, none⟩ (.slice a3 s.n.M.length q3)).setCell ⟨w.heap.size + 2, 10, none⟩ (.slice a4 s.n.C.length q4)).setCell ⟨w.heap.size + 2, 11, none⟩ (.int .i64 s.s0)).setCell ⟨w.heap.size + 2, 12, none⟩ (.int .i64 s.s1)).heap[w.heap.size + 2]? = some (.cells #[.int .i64 s.ep, .int .i64 s.a.e, .int .i64 s.a.b, .int .i64 s.a.k, .slice a1 s.a.M.length q1, .slice a2 s.a.C.length q2, .int .i64 s.n.e, .int .i64 s.n.b, .int .i64 s.n.k, .slice a3 s.n.M.length q3, .slice a4 s.n.C.length q4, .int .i64 s.s0, .int .i64 s.s1] 42) := heap_set_self g12 12 _
            have gO : Only (w.heap.size + 2) w3 (((((((((((((w3.setCell ⟨w.heap.size + 2, 0, none⟩ (.int .i64 s.ep)).setCell ⟨w.heap.size + 2, 1, none⟩ (.int .i64 s.a.e)).setCell ⟨w.heap.size + 2, 2, none⟩ (.int .i64 s.a.b)).setCell ⟨w.heap.size + 2, 3, none⟩ (.int .i64 s.a.k)).setCell ⟨w.heap.size + 2, 4, none⟩ (.slice a1 s.a.M.length q1)).setCell ⟨w.heap.size + 2, 5, none⟩ (.slice a2 s.a.C.length q2)).setCell ⟨w.heap.size + 2, 6, none⟩ (.int .i64 s.n.e)).setCell ⟨w.heap.size + 2, 7, none⟩ (.int .i64 s.n.b)).setCell ⟨w.heap.size + 2, 8, none⟩ (.int .i64 s.n.k)).setCell ⟨w.heap.size + 2, 9, none⟩ (.slice a3 s.n.M.length q3)).setCell ⟨w.heap.size + 2, 10, none⟩ (.slice a4 s.n.C.length q4)).setCell ⟨w.heap.size + 2, 11, none⟩ (.int .i64 s.s0)).setCell ⟨w.heap.size + 2, 12, none⟩ (.int .i64 s.s1)) := (((((((((((((Only.refl _ _).set 0 _).set 1 _).set 2 _).set 3 _).set 4 _).set 5 _).set 6 _).set 7 _).set 8 _).set 9 _).set 10 _).set 11 _).set 12 _
            have HF := Lib.hid (And.intro g13 (HB3.out.bl.trans (gO.below (B := w.heap.size) (by omega) HB3.out.bl.size)))
            clear g1 g2 g3 g4 g5 g6 g7 g8 g9 g10 g11 g12 g13 gO
            go_wp2_with fail
            generalize (((((((((((((w3.setCell ⟨w.heap.size + 2, 0, none⟩ (.int .i64 s.ep)).setCell ⟨w.heap.size + 2, 1, none⟩ (.int .i64 s.a.e)).setCell ⟨w.heap.size + 2, 2, none⟩ (.int .i64 s.a.b)).setCell ⟨w.heap.size + 2, 3, none⟩ (.int .i64 s.a.k)).setCell ⟨w.heap.size + 2, 4, none⟩ (.slice a1 s.a.M.length q1)).setCell ⟨w.heap.size + 2, 5, none⟩ (.slice a2 s.a.C.length q2)).setCell ⟨w.heap.size + 2, 6, none⟩ (.int .i64 s.n.e)).setCell ⟨w.heap.size + 2, 7, none⟩ (.int .i64 s.n.b)).setCell ⟨w.heap.size + 2, 8, none⟩ (.int .i64 s.n.k)).setCell ⟨w.heap.size + 2, 9, none⟩ (.slice a3 s.n.M.length q3)).setCell ⟨w.heap.size + 2, 10, none⟩ (.slice a4 s.n.C.length q4)).setCell ⟨w.heap.size + 2, 11, none⟩ (.int .i64 s.s0)).setCell ⟨w.heap.size + 2, 12, none⟩ (.int .i64 s.s1)) = wf at *
            have fi := HF.out.1
            have t0 := cell_atD fi 0 (v := .int .i64 s.ep) rfl
            have t1 := cell_atD fi 1 (v := .int .i64 s.a.e) rfl
            have t2 := cell_atD fi 2 (v := .int .i64 s.a.b) rfl
            have t3 := cell_atD fi 3 (v := .int .i64 s.a.k) rfl
            have t4 := cell_atD fi 4 (v := .slice a1 s.a.M.length q1) rfl
            have t5 := cell_atD fi 5 (v := .slice a2 s.a.C.length q2) rfl
            have t6 := cell_atD fi 6 (v := .int .i64 s.n.e) rfl
            have t7 := cell_atD fi 7 (v := .int .i64 s.n.b) rfl
            have t8 := cell_atD fi 8 (v := .int .i64 s.n.k) rfl
            have t9 := cell_atD fi 9 (v := .slice a3 s.n.M.length q3) rfl
            have t10 := cell_atD fi 10 (v := .slice a4 s.n.C.length q4) rfl
            have t11 := cell_atD fi 11 (v := .int .i64 s.s0) rfl
            have t12 := cell_atD fi 12 (v := .int .i64 s.s1) rfl
            clear fi
            refine bodyPost_ret (v := .agg #[.int .i64 s.ep, .int .i64 s.a.e, .int .i64 s.a.b, .int .i64 s.a.k, .slice a1 s.a.M.length q1, .slice a2 s.a.C.length q2, .int .i64 s.n.e, .int .i64 s.n.b, .int .i64 s.n.k, .slice a3 s.n.M.length q3, .slice a4 s.n.C.length q4, .int .i64 s.s0, .int .i64 s.s1]) (by simp [results, Try.results14, go_sem, t0, t1, t2, t3, t4, t5, t6, t7, t8, t9, t10, t11, t12]) rfl ?_
            exact ⟨s, a1, q1, a2, q2, a3, q3, a4, q4, rfl, ⟨HG.out.1, HG.out.2.1⟩, HS.out.2.2.1, HF.out.2⟩
          · have htq : s.s1 < c.k := by simpa using ht
            have htp : s.ep < 1048576 := by simpa using ht2
            go_wp2_with fail
            go_quiet (fail)
            have HB3 := Lib.hid (HB2.out.below (below_drewN' (Below.refl _ _) nq))
            clear k0 k1 k2 k3 k4 k5 x0 x1 x2 x3 x4 x5 x6 x7 x8 x9 x10 x11 x12
            generalize w2.drewN nq = w3 at *
            have x0 := cell_atD HB3.out.st 0 (v := .int .i64 s.ep) rfl
            have x1 := cell_atD HB3.out.st 1 (v := .int .i64 s.a.e) rfl
            have x2 := cell_atD HB3.out.st 2 (v := .int .i64 s.a.b) rfl
            have x3 := cell_atD HB3.out.st 3 (v := .int .i64 s.a.k) rfl
            have x4 := cell_atD HB3.out.st 4 (v := .slice a1 s.a.M.length q1) rfl
            have x5 := cell_atD HB3.out.st 5 (v := .slice a2 s.a.C.length q2) rfl
            have x6 := cell_atD HB3.out.st 6 (v := .int .i64 s.n.e) rfl
            have x7 := cell_atD HB3.out.st 7 (v := .int .i64 s.n.b) rfl
            have x8 := cell_atD HB3.out.st 8 (v := .int .i64 s.n.k) rfl
            have x9 := cell_atD HB3.out.st 9 (v := .slice a3 s.n.M.length q3) rfl
            have x10 := cell_atD HB3.out.st 10 (v := .slice a4 s.n.C.length q4) rfl
            have x11 := cell_atD HB3.out.st 11 (v := .int .i64 s.s0) rfl
            have x12 := cell_atD HB3.out.st 12 (v := .int .i64 s.s1) rfl
            have k0 := cell_atD HB3.out.cm 0 (v := .int .i64 1) rfl
            have k1 := cell_atD HB3.out.cm 1 (v := .int .i64 c.e) rfl
            have k2 := cell_atD HB3.out.cm 2 (v := .int .i64 c.b) rfl
            have k3 := cell_atD HB3.out.cm 3 (v := .int .i64 c.k) rfl
            have k4 := cell_atD HB3.out.cm 4 (v := .slice b1 c.M.length p1) rfl
            have k5 := cell_atD HB3.out.cm 5 (v := .slice b2 c.C.length p2) rfl
            rw [HCB.out] at k2
            have xf : ∀ o, w3.frozen? ⟨w.heap.size, o, none⟩ = false := fun o => by simp [World.frozen?, HB3.out.st]
            go_upto_region 5 with fail
            have g1 : (w3.setCell ⟨w.heap.size, 0, none⟩ (.int .i64 (s.ep + 1))).heap[w.heap.size]? = some (.cells #[.int .i64 (s.ep + 1), .int .i64 s.a.e, .int .i64 s.a.b, .int .i64 s.a.k, .slice a1 s.a.M.length q1, .slice a2 s.a.C.length q2, .int .i64 s.n.e, .int .i64 s.n.b, .int .i64 s.n.k, .slice a3 s.n.M.length q3, .slice a4 s.n.C.length q4, .int .i64 s.s0, .int .i64 s.s1] 42) := heap_set_self HB3.out.st 0 _
            have gO : Only (w.heap.size) w3 (w3.setCell ⟨w.heap.size, 0, none⟩ (.int .i64 (s.ep + 1))) := (Only.refl _ _).set 0 _
            have HB4 := Lib.hid (HB3.out.only gO g1)
            clear g1 gO k0 k1 k2 k3 k4 k5 x0 x1 x2 x3 x4 x5 x6 x7 x8 x9 x10 x11 x12 xf HB3
            generalize (w3.setCell ⟨w.heap.size, 0, none⟩ (.int .i64 (s.ep + 1))) = w4 at *
            have x0 := cell_atD HB4.out.st 0 (v := .int .i64 (s.ep + 1)) rfl
            have x1 := cell_atD HB4.out.st 1 (v := .int .i64 s.a.e) rfl
            have x2 := cell_atD HB4.out.st 2 (v := .int .i64 s.a.b) rfl
            have x3 := cell_atD HB4.out.st 3 (v := .int .i64 s.a.k) rfl
            have x4 := cell_atD HB4.out.st 4 (v := .slice a1 s.a.M.length q1) rfl
            have x5 := cell_atD HB4.out.st 5 (v := .slice a2 s.a.C.length q2) rfl
            have x6 := cell_atD HB4.out.st 6 (v := .int .i64 s.n.e) rfl
            have x7 := cell_atD HB4.out.st 7 (v := .int .i64 s.n.b) rfl
            have x8 := cell_atD HB4.out.st 8 (v := .int .i64 s.n.k) rfl
            have x9 := cell_atD HB4.out.st 9 (v := .slice a3 s.n.M.length q3) rfl
            have x10 := cell_atD HB4.out.st 10 (v := .slice a4 s.n.C.length q4) rfl
            have x11 := cell_atD HB4.out.st 11 (v := .int .i64 s.s0) rfl
            have x12 := cell_atD HB4.out.st 12 (v := .int .i64 s.s1) rfl
            have k0 := cell_atD HB4.out.cm 0 (v := .int .i64 1) rfl
            have k1 := cell_atD HB4.out.cm 1 (v := .int .i64 c.e) rfl
            have k2 := cell_atD HB4.out.cm 2 (v := .int .i64 c.b) rfl
            have k3 := cell_atD HB4.out.cm 3 (v := .int .i64 c.k) rfl
            have k4 := cell_atD HB4.out.cm 4 (v := .slice b1 c.M.length p1) rfl
            have k5 := cell_atD HB4.out.cm 5 (v := .slice b2 c.C.length p2) rfl
            rw [HCB.out] at k2
            have xf : ∀ o, w4.frozen? ⟨w.heap.size, o, none⟩ = false := fun o => by simp [World.frozen?, HB4.out.st]
            go_upto_region 6 with fail
            have g1 : (w4.setCell ⟨w.heap.size, 12, none⟩ (.int .i64 c.k)).heap[w.heap.size]? = some (.cells #[.int .i64 (s.ep + 1), .int .i64 s.a.e, .int .i64 s.a.b, .int .i64 s.a.k, .slice a1 s.a.M.length q1, .slice a2 s.a.C.length q2, .int .i64 s.n.e, .int .i64 s.n.b, .int .i64 s.n.k, .slice a3 s.n.M.length q3, .slice a4 s.n.C.length q4, .int .i64 s.s0, .int .i64 c.k] 42) := heap_set_self HB4.out.st 12 _
            have gO : Only (w.heap.size) w4 (w4.setCell ⟨w.heap.size, 12, none⟩ (.int .i64 c.k)) := (Only.refl _ _).set 12 _
            have HB5 := Lib.hid (HB4.out.only gO g1)
            clear g1 gO k0 k1 k2 k3 k4 k5 x0 x1 x2 x3 x4 x5 x6 x7 x8 x9 x10 x11 x12 xf HB4
            generalize (w4.setCell ⟨w.heap.size, 12, none⟩ (.int .i64 c.k)) = w5 at *
            have x0 := cell_atD HB5.out.st 0 (v := .int .i64 (s.ep + 1)) rfl
            have x1 := cell_atD HB5.out.st 1 (v := .int .i64 s.a.e) rfl
            have x2 := cell_atD HB5.out.st 2 (v := .int .i64 s.a.b) rfl
            have x3 := cell_atD HB5.out.st 3 (v := .int .i64 s.a.k) rfl
            have x4 := cell_atD HB5.out.st 4 (v := .slice a1 s.a.M.length q1) rfl
            have x5 := cell_atD HB5.out.st 5 (v := .slice a2 s.a.C.length q2) rfl
            have x6 := cell_atD HB5.out.st 6 (v := .int .i64 s.n.e) rfl
            have x7 := cell_atD HB5.out.st 7 (v := .int .i64 s.n.b) rfl
            have x8 := cell_atD HB5.out.st 8 (v := .int .i64 s.n.k) rfl
            have x9 := cell_atD HB5.out.st 9 (v := .slice a3 s.n.M.length q3) rfl
            have x10 := cell_atD HB5.out.st 10 (v := .slice a4 s.n.C.length q4) rfl
            have x11 := cell_atD HB5.out.st 11 (v := .int .i64 s.s0) rfl
            have x12 := cell_atD HB5.out.st 12 (v := .int .i64 c.k) rfl
            have k0 := cell_atD HB5.out.cm 0 (v := .int .i64 1) rfl
            have k1 := cell_atD HB5.out.cm 1 (v := .int .i64 c.e) rfl
            have k2 := cell_atD HB5.out.cm 2 (v := .int .i64 c.b) rfl
            have k3 := cell_atD HB5.out.cm 3 (v := .int .i64 c.k) rfl
            have k4 := cell_atD HB5.out.cm 4 (v := .slice b1 c.M.length p1) rfl
            have k5 := cell_atD HB5.out.cm 5 (v := .slice b2 c.C.length p2) rfl
            have xf : ∀ o, w5.frozen? ⟨w.heap.size, o, none⟩ = false := fun o => by simp [World.frozen?, HB5.out.st]
            go_upto_region 7 with fail
            have g1 : (w5.setCell ⟨w.heap.size, 6, none⟩ (.int .i64 c.e)).heap[w.heap.size]? = some (.cells #[.int .i64 (s.ep + 1), .int .i64 s.a.e, .int .i64 s.a.b, .int .i64 s.a.k, .slice a1 s.a.M.length q1, .slice a2 s.a.C.length q2, .int .i64 c.e, .int .i64 s.n.b, .int .i64 s.n.k, .slice a3 s.n.M.length q3, .slice a4 s.n.C.length q4, .int .i64 s.s0, .int .i64 c.k] 42) := heap_set_self HB5.out.st 6 _
            have g2 : ((w5.setCell ⟨w.heap.size, 6, none⟩ (.int .i64 c.e)).setCell ⟨w.heap.size, 7, none⟩ (.int .i64 c.b)).heap[w.heap.size]? = some (.cells #[.int .i64 (s.ep + 1), .int .i64 s.a.e, .int .i64 s.a.b, .int .i64 s.a.k, .slice a1 s.a.M.length q1, .slice a2 s.a.C.length q2, .int .i64 c.e, .int .i64 c.b, .int .i64 s.n.k, .slice a3 s.n.M.length q3, .slice a4 s.n.C.length q4, .int .i64 s.s0, .int .i64 c.k] 42) := heap_set_self g1 7 _
            have g3 : (((w5.setCell ⟨w.heap.size, 6, none⟩ (.int .i64 c.e)).setCell ⟨w.heap.size, 7, none⟩ (.int .i64 c.b)).setCell ⟨w.heap.size, 8, none⟩ (.int .i64 c.k)).heap[w.heap.size]? = some (.cells #[.int .i64 (s.ep + 1), .int .i64 s.a.e, .int .i64 s.a.b, .int .i64 s.a.k, .slice a1 s.a.M.length q1, .slice a2 s.a.C.length q2, .int .i64 c.e, .int .i64 c.b, .int .i64 c.k, .slice a3 s.n.M.length q3, .slice a4 s.n.C.length q4, .int .i64 s.s0, .int .i64 c.k] 42) := heap_set_self g2 8 _
            have g4 : ((((w5.setCell ⟨w.heap.size, 6, none⟩ (.int .i64 c.e)).setCell ⟨w.heap.size, 7, none⟩ (.int .i64 c.b)).setCell ⟨w.heap.size, 8, none⟩ (.int .i64 c.k)).setCell ⟨w.heap.size, 9, none⟩ (.slice b1 c.M.length p1)).heap[w.heap.size]? = some (.cells #[.int .i64 (s.ep + 1), .int .i64 s.a.e, .int .i64 s.a.b, .int .i64 s.a.k, .slice a1 s.a.M.length q1, .slice a2 s.a.C.length q2, .int .i64 c.e, .int .i64 c.b, .int .i64 c.k, .slice b1 c.M.length p1, .slice a4 s.n.C.length q4, .int .i64 s.s0, .int .i64 c.k] 42) := heap_set_self g3 9 _
            have g5 : (((((w5.setCell ⟨w.heap.size, 6, none⟩ (.int .i64 c.e)).setCell ⟨w.heap.size, 7, none⟩ (.int .i64 c.b)).setCell ⟨w.heap.size, 8, none⟩ (.int .i64 c.k)).setCell ⟨w.heap.size, 9, none⟩ (.slice b1 c.M.length p1)).setCell ⟨w.heap.size, 10, none⟩ (.slice b2 c.C.length p2)).heap[w.heap.size]? = some (.cells #[.int .i64 (s.ep + 1), .int .i64 s.a.e, .int .i64 s.a.b, .int .i64 s.a.k, .slice a1 s.a.M.length q1, .slice a2 s.a.C.length q2, .int .i64 c.e, .int .i64 c.b, .int .i64 c.k, .slice b1 c.M.length p1, .slice b2 c.C.length p2, .int .i64 s.s0, .int .i64 c.k] 42) := heap_set_self g4 10 _
            have gO : Only (w.heap.size) w5 (((((w5.setCell ⟨w.heap.size, 6, none⟩ (.int .i64 c.e)).setCell ⟨w.heap.size, 7, none⟩ (.int .i64 c.b)).setCell ⟨w.heap.size, 8, none⟩ (.int .i64 c.k)).setCell ⟨w.heap.size, 9, none⟩ (.slice b1 c.M.length p1)).setCell ⟨w.heap.size, 10, none⟩ (.slice b2 c.C.length p2)) := (((((Only.refl _ _).set 6 _).set 7 _).set 8 _).set 9 _).set 10 _
            have HB6 := Lib.hid (HB5.out.only gO g5)
            clear g1 g2 g3 g4 g5 gO k0 k1 k2 k3 k4 k5 x0 x1 x2 x3 x4 x5 x6 x7 x8 x9 x10 x11 x12 xf HB5
            generalize (((((w5.setCell ⟨w.heap.size, 6, none⟩ (.int .i64 c.e)).setCell ⟨w.heap.size, 7, none⟩ (.int .i64 c.b)).setCell ⟨w.heap.size, 8, none⟩ (.int .i64 c.k)).setCell ⟨w.heap.size, 9, none⟩ (.slice b1 c.M.length p1)).setCell ⟨w.heap.size, 10, none⟩ (.slice b2 c.C.length p2)) = w6 at *
            have x0 := cell_atD HB6.out.st 0 (v := .int .i64 (s.ep + 1)) rfl
            have x1 := cell_atD HB6.out.st 1 (v := .int .i64 s.a.e) rfl
            have x2 := cell_atD HB6.out.st 2 (v := .int .i64 s.a.b) rfl
            have x3 := cell_atD HB6.out.st 3 (v := .int .i64 s.a.k) rfl
            have x4 := cell_atD HB6.out.st 4 (v := .slice a1 s.a.M.length q1) rfl
            have x5 := cell_atD HB6.out.st 5 (v := .slice a2 s.a.C.length q2) rfl
            have x6 := cell_atD HB6.out.st 6 (v := .int .i64 c.e) rfl
            have x7 := cell_atD HB6.out.st 7 (v := .int .i64 c.b) rfl
            have x8 := cell_atD HB6.out.st 8 (v := .int .i64 c.k) rfl
            have x9 := cell_atD HB6.out.st 9 (v := .slice b1 c.M.length p1) rfl
            have x10 := cell_atD HB6.out.st 10 (v := .slice b2 c.C.length p2) rfl
            have x11 := cell_atD HB6.out.st 11 (v := .int .i64 s.s0) rfl
            have x12 := cell_atD HB6.out.st 12 (v := .int .i64 c.k) rfl
            have k0 := cell_atD HB6.out.cm 0 (v := .int .i64 1) rfl
            have k1 := cell_atD HB6.out.cm 1 (v := .int .i64 c.e) rfl
            have k2 := cell_atD HB6.out.cm 2 (v := .int .i64 c.b) rfl
            have k3 := cell_atD HB6.out.cm 3 (v := .int .i64 c.k) rfl
            have k4 := cell_atD HB6.out.cm 4 (v := .slice b1 c.M.length p1) rfl
            have k5 := cell_atD HB6.out.cm 5 (v := .slice b2 c.C.length p2) rfl
            rw [HCB.out] at k2
            have xf : ∀ o, w6.frozen? ⟨w.heap.size, o, none⟩ = false := fun o => by simp [World.frozen?, HB6.out.st]
            go_upto_region 8 with fail
            have g1 : (w6.setCell ⟨w.heap.size, 6, none⟩ (.int .i64 (s.ep + 1))).heap[w.heap.size]? = some (.cells #[.int .i64 (s.ep + 1), .int .i64 s.a.e, .int .i64 s.a.b, .int .i64 s.a.k, .slice a1 s.a.M.length q1, .slice a2 s.a.C.length q2, .int .i64 (s.ep + 1), .int .i64 c.b, .int .i64 c.k, .slice b1 c.M.length p1, .slice b2 c.C.length p2, .int .i64 s.s0, .int .i64 c.k] 42) := heap_set_self HB6.out.st 6 _
            have gO : Only (w.heap.size) w6 (w6.setCell ⟨w.heap.size, 6, none⟩ (.int .i64 (s.ep + 1))) := (Only.refl _ _).set 6 _
            have HB7 := Lib.hid (HB6.out.only gO g1)
            clear g1 gO k0 k1 k2 k3 k4 k5 x0 x1 x2 x3 x4 x5 x6 x7 x8 x9 x10 x11 x12 xf HB6
            generalize (w6.setCell ⟨w.heap.size, 6, none⟩ (.int .i64 (s.ep + 1))) = w7 at *
            have k0 := cell_atD HB7.out.cm 0 (v := .int .i64 1) rfl
            have k1 := cell_atD HB7.out.cm 1 (v := .int .i64 c.e) rfl
            have k2 := cell_atD HB7.out.cm 2 (v := .int .i64 c.b) rfl
            have k3 := cell_atD HB7.out.cm 3 (v := .int .i64 c.k) rfl
            have k4 := cell_atD HB7.out.cm 4 (v := .slice b1 c.M.length p1) rfl
            have k5 := cell_atD HB7.out.cm 5 (v := .slice b2 c.C.length p2) rfl
            go_upto_region 10 with fail
            clear k0 k1 k2 k3 k4 k5
            have x0 := cell_atD HB7.out.st 0 (v := .int .i64 (s.ep + 1)) rfl
            have x1 := cell_atD HB7.out.st 1 (v := .int .i64 s.a.e) rfl
            have x2 := cell_atD HB7.out.st 2 (v := .int .i64 s.a.b) rfl
            have x3 := cell_atD HB7.out.st 3 (v := .int .i64 s.a.k) rfl
            have x4 := cell_atD HB7.out.st 4 (v := .slice a1 s.a.M.length q1) rfl
            have x5 := cell_atD HB7.out.st 5 (v := .slice a2 s.a.C.length q2) rfl
            have x6 := cell_atD HB7.out.st 6 (v := .int .i64 (s.ep + 1)) rfl
            have x7 := cell_atD HB7.out.st 7 (v := .int .i64 c.b) rfl
            have x8 := cell_atD HB7.out.st 8 (v := .int .i64 c.k) rfl
            have x9 := cell_atD HB7.out.st 9 (v := .slice b1 c.M.length p1) rfl
            have x10 := cell_atD HB7.out.st 10 (v := .slice b2 c.C.length p2) rfl
            have x11 := cell_atD HB7.out.st 11 (v := .int .i64 s.s0) rfl
            have x12 := cell_atD HB7.out.st 12 (v := .int .i64 c.k) rfl
            have z0 := cell_atD HB7.out.rs 0 (v := .int .i64 0) rfl
            have z1 := cell_atD HB7.out.rs 1 (v := .int .i64 0) rfl
            have z2 := cell_atD HB7.out.rs 2 (v := .int .i64 0) rfl
            have z3 := cell_atD HB7.out.rs 3 (v := .int .i64 0) rfl
            have z4 := cell_atD HB7.out.rs 4 (v := .slice none 0 0) rfl
            have z5 := cell_atD HB7.out.rs 5 (v := .slice none 0 0) rfl
            have z6 := cell_atD HB7.out.rs 6 (v := .int .i64 0) rfl
            have z7 := cell_atD HB7.out.rs 7 (v := .int .i64 0) rfl
            have z8 := cell_atD HB7.out.rs 8 (v := .int .i64 0) rfl
            have z9 := cell_atD HB7.out.rs 9 (v := .slice none 0 0) rfl
            have z10 := cell_atD HB7.out.rs 10 (v := .slice none 0 0) rfl
            have z11 := cell_atD HB7.out.rs 11 (v := .int .i64 0) rfl
            have z12 := cell_atD HB7.out.rs 12 (v := .int .i64 0) rfl
            have fz : ∀ o, w7.frozen? ⟨w.heap.size + 2, o, none⟩ = false := fun o => by simp [World.frozen?, HB7.out.rs]
            have g1 : (w7.setCell ⟨w.heap.size + 2, 0, none⟩ (.int .i64 (s.ep + 1))).heap[w.heap.size + 2]? = some (.cells #[.int .i64 (s.ep + 1), .int .i64 0, .int .i64 0, .int .i64 0, .slice none 0 0, .slice none 0 0, .int .i64 0, .int .i64 0, .int .i64 0, .slice none 0 0, .slice none 0 0, .int .i64 0, .int .i64 0] 42) := heap_set_self HB7.out.rs 0 _
            have g2 : ((w7.setCell ⟨w.heap.size + 2, 0, none⟩ (.int .i64 (s.ep + 1))).setCell ⟨w.heap.size + 2, 1, none⟩ (.int .i64 s.a.e)).heap[w.heap.size + 2]? = some (.cells #[.int .i64 (s.ep + 1), .int .i64 s.a.e, .int .i64 0, .int .i64 0, .slice none 0 0, .slice none 0 0, .int .i64 0, .int .i64 0, .int .i64 0, .slice none 0 0, .slice none 0 0, .int .i64 0, .int .i64 0] 42) := heap_set_self g1 1 _
            have g3 : (((w7.setCell ⟨w.heap.size + 2, 0, none⟩ (.int .i64 (s.ep + 1))).setCell ⟨w.heap.size + 2, 1, none⟩ (.int .i64 s.a.e)).setCell ⟨w.heap.size + 2, 2, none⟩ (.int .i64 s.a.b)).heap[w.heap.size + 2]? = some (.cells #[.int .i64 (s.ep + 1), .int .i64 s.a.e, .int .i64 s.a.b, .int .i64 0, .slice none 0 0, .slice none 0 0, .int .i64 0, .int .i64 0, .int .i64 0, .slice none 0 0, .slice none 0 0, .int .i64 0, .int .i64 0] 42) := heap_set_self g2 2 _
            have g4 : ((((w7.setCell ⟨w.heap.size + 2, 0, none⟩ (.int .i64 (s.ep + 1))).setCell ⟨w.heap.size + 2, 1, none⟩ (.int .i64 s.a.e)).setCell ⟨w.heap.size + 2, 2, none⟩ (.int .i64 s.a.b)).setCell ⟨w.heap.size + 2, 3, none⟩ (.int .i64 s.a.k)).heap[w.heap.size + 2]? = some (.cells #[.int .i64 (s.ep + 1), .int .i64 s.a.e, .int .i64 s.a.b, .int .i64 s.a.k, .slice none 0 0, .slice none 0 0, .int .i64 0, .int .i64 0, .int .i64 0, .slice none 0 0, .slice none 0 0, .int .i64 0, .int .i64 0] 42) := heap_set_self g3 3 _
            have g5 : (((((w7.setCell ⟨w.heap.size + 2, 0, none⟩ (.int .i64 (s.ep + 1))).setCell ⟨w.heap.size + 2, 1, none⟩ (.int .i64 s.a.e)).setCell ⟨w.heap.size + 2, 2, none⟩ (.int .i64 s.a.b)).setCell ⟨w.heap.size + 2, 3, none⟩ (.int .i64 s.a.k)).setCell ⟨w.heap.size + 2, 4, none⟩ (.slice a1 s.a.M.length q1)).heap[w.heap.size + 2]? = some (.cells #[.int .i64 (s.ep + 1), .int .i64 s.a.e, .int .i64 s.a.b, .int .i64 s.a.k, .slice a1 s.a.M.length q1, .slice none 0 0, .int .i64 0, .int .i64 0, .int .i64 0, .slice none 0 0, .slice none 0 0, .int .i64 0, .int .i64 0] 42) := heap_set_self g4 4 _
            have g6 : ((((((w7.setCell ⟨w.heap.size + 2, 0, none⟩ (.int .i64 (s.ep + 1))).setCell ⟨w.heap.size + 2, 1, none⟩ (.int .i64 s.a.e)).setCell ⟨w.heap.size + 2, 2, none⟩ (.int .i64 s.a.b)).setCell ⟨w.heap.size + 2, 3, none⟩ (.int .i64 s.a.k)).setCell ⟨w.heap.size + 2, 4, none⟩ (.slice a1 s.a.M.length q1)).setCell ⟨w.heap.size + 2, 5, none⟩ (.slice a2 s.a.C.length q2)).heap[w.heap.size + 2]? = some (.cells #[.int .i64 (s.ep + 1), .int .i64 s.a.e, .int .i64 s.a.b, .int .i64 s.a.k, .slice a1 s.a.M.length q1, .slice a2 s.a.C.length q2, .int .i64 0, .int .i64 0, .int .i64 0, .slice none 0 0, .slice none 0 0, .int .i64 0, .int .i64 0] 42) := heap_set_self g5 5 _
            have g7 : (((((((w7.setCell ⟨w.heap.size + 2, 0, none⟩ (.int .i64 (s.ep + 1))).setCell ⟨w.heap.size + 2, 1, none⟩ (.int .i64 s.a.e)).setCell ⟨w.heap.size + 2, 2, none⟩ (.int .i64 s.a.b)).setCell ⟨w.heap.size + 2, 3, none⟩ (.int .i64 s.a.k)).setCell ⟨w.heap.size + 2, 4, none⟩ (.slice a1 s.a.M.length q1)).setCell ⟨w.heap.size + 2, 5, none⟩ (.slice a2 s.a.C.length q2)).setCell ⟨w.heap.size + 2, 6, none⟩ (.int .i64 (s.ep + 1))).heap[w.heap.size + 2]? = some (.cells #[.int .i64 (s.ep + 1), .int .i64 s.a.e, .int .i64 s.a.b, .int .i64 s.a.k, .slice a1 s.a.M.length q1, .slice a2 s.a.C.length q2, .int .i64 (s.ep + 1), .int .i64 0, .int .i64 0, .slice none 0 0, .slice none 0 0, .int .i64 0, .int .i64 0] 42) := heap_set_self g6 6 _
            have g8 : ((((((((w7.setCell ⟨w.heap.size + 2, 0, none⟩ (.int .i64 (s.ep + 1))).setCell ⟨w.heap.size + 2, 1, none⟩ (.int .i64 s.a.e)).setCell ⟨w.heap.size + 2, 2, none⟩ (.int .i64 s.a.b)).setCell ⟨w.heap.size + 2, 3, none⟩ (.int .i64 s.a.k)).setCell ⟨w.heap.size + 2, 4, none⟩ (.slice a1 s.a.M.length q1)).setCell ⟨w.heap.size + 2, 5, none⟩ (.slice a2 s.a.C.length q2)).setCell ⟨w.heap.size + 2, 6, none⟩ (.int .i64 (s.ep + 1))).setCell ⟨w.heap.size + 2, 7, none⟩ (.int .i64 c.b)).heap[w.heap.size + 2]? = some (.cells #[.int .i64 (s.ep + 1), .int .i64 s.a.e, .int .i64 s.a.b, .int .i64 s.a.k, .slice a1 s.a.M.length q1, .slice a2 s.a.C.length q2, .int .i64 (s.ep + 1), .int .i64 c.b, .int .i64 0, .slice none 0 0, .slice none 0 0, .int .i64 0, .int .i64 0] 42) := heap_set_self g7 7 _
            have g9 : (((((((((w7.setCell ⟨w.heap.size + 2, 0, none⟩ (.int .i64 (s.ep + 1))).setCell ⟨w.heap.size + 2, 1, none⟩ (.int .i64 s.a.e)).setCell ⟨w.heap.size + 2, 2, none⟩ (.int .i64 s.a.b)).setCell ⟨w.heap.size + 2, 3, none⟩ (.int .i64 s.a.k)).setCell ⟨w.heap.size + 2, 4, none⟩ (.slice a1 s.a.M.length q1)).setCell ⟨w.heap.size + 2, 5, none⟩ (.slice a2 s.a.C.length q2)).setCell ⟨w.heap.size + 2, 6, none⟩ (.int .i64 (s.ep + 1))).setCell ⟨w.heap.size + 2, 7, none⟩ (.int .i64 c.b)).setCell ⟨w.heap.size + 2, 8, none⟩ (.int .i64 c.k)).heap[w.heap.size + 2]? = some (.cells #[.int .i64 (s.ep + 1), .int .i64 s.a.e, .int .i64 s.a.b, .int .i64 s.a.k, .slice a1 s.a.M.length q1, .slice a2 s.a.C.length q2, .int .i64 (s.ep + 1), .int .i64 c.b, .int .i64 c.k, .slice none 0 0, .slice none 0 0, .int .i64 0, .int .i64 0] 42) := heap_set_self g8 8 _
            have g10 : ((((((((((w7.setCell ⟨w.heap.size + 2, 0, none⟩ (.int .i64 (s.ep + 1))).setCell ⟨w.heap.size + 2, 1, none⟩ (.int .i64 s.a.e)).setCell ⟨w.heap.size + 2, 2, none⟩ (.int .i64 s.a.b)).setCell ⟨w.heap.size + 2, 3, none⟩ (.int .i64 s.a.k)).setCell ⟨w.heap.size + 2, 4, none⟩ (.slice a1 s.a.M.length q1)).setCell ⟨w.heap.size + 2, 5, none⟩ (.slice a2 s.a.C.length q2)).setCell ⟨w.heap.size + 2, 6, none⟩ (.int .i64 (s.ep + 1))).setCell ⟨w.heap.size + 2, 7, none⟩ (.int .i64 c.b)).setCell ⟨w.heap.size + 2, 8, none⟩ (.int .i64 c.k)).setCell ⟨w.heap.size + 2, 9, none⟩ (.slice b1 c.M.length p1)).heap[w.heap.size + 2]? = some (.cells #[.int .i64 (s.ep + 1), .int .i64 s.a.e, .int .i64 s.a.b, .int .i64 s.a.k, .slice a1 s.a.M.length q1, .slice a2 s.a.C.length q2, .int .i64 (s.ep + 1), .int .i64 c.b, .int .i64 c.k, .slice b1 c.M.length p1, .slice none 0 0, .int .i64 0, .int .i64 0] 42) := heap_set_self g9 9 _
            have g11 : (((((((((((w7.setCell ⟨w.heap.size + 2, 0, none⟩ (.int .i64 (s.ep + 1))).setCell ⟨w.heap.size + 2, 1, none⟩ (.int .i64 s.a.e)).setCell ⟨w.heap.size + 2, 2, none⟩ (.int .i64 s.a.b)).setCell ⟨w.heap.size + 2, 3, none⟩ (.int .i64 s.a.k)).setCell ⟨w.heap.size + 2, 4, none⟩ (.slice a1 s.a.M.length q1)).setCell ⟨w.heap.size + 2, 5, none⟩ (.slice a2 s.a.C.length q2)).setCell ⟨w.heap.size + 2, 6, none⟩ (.int .i64 (s.ep + 1))).setCell ⟨w.heap.size + 2, 7, none⟩ (.int .i64 c.b)).setCell ⟨w.heap.size + 2, 8, none⟩ (.int .i64 c.k)).setCell ⟨w.heap.size + 2, 9, none⟩ (.slice b1 c.M.length p1)).setCell ⟨w.heap.size + 2, 10, none⟩ (.slice b2 c.C.length p2)).heap[w.heap.size + 2]? = some (.cells #[.int .i64 (s.ep + 1), .int .i64 s.a.e, .int .i64 s.a.b, .int .i64 s.a.k, .slice a1 s.a.M.length q1, .slice a2 s.a.C.length q2, .int .i64 (s.ep + 1), .int .i64 c.b, .int .i64 c.k, .slice b1 c.M.length p1, .slice b2 c.C.length p2, .int .i64 0, .int .i64 0] 42) := heap_set_self g10 10 _
            have g12 : ((((((((((((w7.setCell ⟨w.heap.size + 2, 0, none⟩ (.int .i64 (s.ep + 1))).setCell ⟨w.heap.size + 2, 1, none⟩ (.int .i64 s.a.e)).setCell ⟨w.heap.size + 2, 2, none⟩ (.int .i64 s.a.b)).setCell ⟨w.heap.size + 2, 3, none⟩ (.int .i64 s.a.k)).setCell ⟨w.heap.size + 2, 4, none⟩ (.slice a1 s.a.M.length q1)).setCell ⟨w.heap.size + 2, 5, none⟩ (.slice a2 s.a.C.length q2)).setCell ⟨w.heap.size + 2, 6, none⟩ (.int .i64 (s.ep + 1))).setCell ⟨w.heap.size + 2, 7, none⟩ (.int .i64 c.b)).setCell ⟨w.heap.size + 2, 8, none⟩ (.int .i64 c.k)).setCell ⟨w.heap.size + 2, 9, none⟩ (.slice b1 c.M.length p1)).setCell ⟨w.heap.size + 2, 10, none⟩ (.slice b2 c.C.length p2)).setCell ⟨w.heap.size + 2, 11, none⟩ (.int .i64 s.s0)).heap[w.heap.size + 2]? = some (.cells #[.int .i64 (s.ep + 1), .int .i64 s.a.e, .int .i64 s.a.b, .int .i64 s.a.k, .slice a1 s.a.M.length q1, .slice a2 s.a.C.length q2, .int .i64 (s.ep + 1), .int .i64 c.b, .int .i64 c.k, .slice b1 c.M.length p1, .slice b2 c.C.length p2, .int .i64 s.s0, .int .i64 0] 42) := heap_set_self g11 11 _
            have g13 : (((((((((((((w7.setCell ⟨w.heap.size + 2, 0, none⟩ (.int .i64 (s.ep + 1))).setCell ⟨w.heap.size + 2, 1, none⟩ (.int .i64 s.a.e)).setCell ⟨w.heap.size + 2, 2, none⟩ (.int .i64 s.a.b)).setCell ⟨w.heap.size + 2, 3, none⟩ (.int .i64 s.a.k)).setCell ⟨w.heap.size + 2, 4, none⟩ (.slice a1 s.a.M.length q1)).setCell ⟨w.heap.size + 2, 5, none⟩ (.slice a2 s.a.C.length q2)).setCell ⟨w.heap.size + 2, 6, none⟩ (.int .i64 (s.ep + 1))).setCell ⟨w.heap.size + 2, 7, none⟩ (.int .i64 c.b)).setCell ⟨w.heap.size + 2, 8, none⟩ (.int .i64 c.k)).setCell ⟨w.heap.size + 2, 9, none⟩ (.slice b1 c.M.length p1)).setCell ⟨w.heap.size + 2, 10, none⟩ (.slice b2 c.C.length p2)).setCell ⟨w.heap.size + 2, 11, none⟩ (.int .i64 s.s0)).setCell ⟨w.heap.size + 2, 12, none⟩ (.int .i64 c.k)).heap[w.heap.size + 2]? = some (.cells #[.int .i64 (s.ep + 1), .int .i64 s.a.e, .int .i64 s.a.b, .int .i64 s.a.k, .slice a1 s.a.M.length q1, .slice a2 s.a.C.length q2, .int .i64 (s.ep + 1), .int .i64 c.b, .int .i64 c.k, .slice b1 c.M.length p1, .slice b2 c.C.length p2, .int .i64 s.s0, .int .i64 c.k] 42) := heap_set_self g12 12 _
            have gO : Only (w.heap.size + 2) w7 (((((((((((((w7.setCell ⟨w.heap.size + 2, 0, none⟩ (.int .i64 (s.ep + 1))).setCell ⟨w.heap.size + 2, 1, none⟩ (.int .i64 s.a.e)).setCell ⟨w.heap.size + 2, 2, none⟩ (.int .i64 s.a.b)).setCell ⟨w.heap.size + 2, 3, none⟩ (.int .i64 s.a.k)).setCell ⟨w.heap.size + 2, 4, none⟩ (.slice a1 s.a.M.length q1)).setCell ⟨w.heap.size + 2, 5, none⟩ (.slice a2 s.a.C.length q2)).setCell ⟨w.heap.size + 2, 6, none⟩ (.int .i64 (s.ep + 1))).setCell ⟨w.heap.size + 2, 7, none⟩ (.int .i64 c.b)).setCell ⟨w.heap.size + 2, 8, none⟩ (.int .i64 c.k)).setCell ⟨w.heap.size + 2, 9, none⟩ (.slice b1 c.M.length p1)).setCell ⟨w.heap.size + 2, 10, none⟩ (.slice b2 c.C.length p2)).setCell ⟨w.heap.size + 2, 11, none⟩ (.int .i64 s.s0)).setCell ⟨w.heap.size + 2, 12, none⟩ (.int .i64 c.k)) := (((((((((((((Only.refl _ _).set 0 _).set 1 _).set 2 _).set 3 _).set 4 _).set 5 _).set 6 _).set 7 _).set 8 _).set 9 _).set 10 _).set 11 _).set 12 _
            have HF := Lib.hid (And.intro g13 (HB7.out.bl.trans (gO.below (B := w.heap.size) (by omega) HB7.out.bl.size)))
            clear g1 g2 g3 g4 g5 g6 g7 g8 g9 g10 g11 g12 g13 gO
            go_wp2_with fail
            generalize (((((((((((((w7.setCell ⟨w.heap.size + 2, 0, none⟩ (.int .i64 (s.ep + 1))).setCell ⟨w.heap.size + 2, 1, none⟩ (.int .i64 s.a.e)).setCell ⟨w.heap.size + 2, 2, none⟩ (.int .i64 s.a.b)).setCell ⟨w.heap.size + 2, 3, none⟩ (.int .i64 s.a.k)).setCell ⟨w.heap.size + 2, 4, none⟩ (.slice a1 s.a.M.length q1)).setCell ⟨w.heap.size + 2, 5, none⟩ (.slice a2 s.a.C.length q2)).setCell ⟨w.heap.size + 2, 6, none⟩ (.int .i64 (s.ep + 1))).setCell ⟨w.heap.size + 2, 7, none⟩ (.int .i64 c.b)).setCell ⟨w.heap.size + 2, 8, none⟩ (.int .i64 c.k)).setCell ⟨w.heap.size + 2, 9, none⟩ (.slice b1 c.M.length p1)).setCell ⟨w.heap.size + 2, 10, none⟩ (.slice b2 c.C.length p2)).setCell ⟨w.heap.size + 2, 11, none⟩ (.int .i64 s.s0)).setCell ⟨w.heap.size + 2, 12, none⟩ (.int .i64 c.k)) = wf at *
            have fi := HF.out.1
            have t0 := cell_atD fi 0 (v := .int .i64 (s.ep + 1)) rfl
            have t1 := cell_atD fi 1 (v := .int .i64 s.a.e) rfl
            have t2 := cell_atD fi 2 (v := .int .i64 s.a.b) rfl
            have t3 := cell_atD fi 3 (v := .int .i64 s.a.k) rfl
            have t4 := cell_atD fi 4 (v := .slice a1 s.a.M.length q1) rfl
            have t5 := cell_atD fi 5 (v := .slice a2 s.a.C.length q2) rfl
            have t6 := cell_atD fi 6 (v := .int .i64 (s.ep + 1)) rfl
            have t7 := cell_atD fi 7 (v := .int .i64 c.b) rfl
            have t8 := cell_atD fi 8 (v := .int .i64 c.k) rfl
            have t9 := cell_atD fi 9 (v := .slice b1 c.M.length p1) rfl
            have t10 := cell_atD fi 10 (v := .slice b2 c.C.length p2) rfl
            have t11 := cell_atD fi 11 (v := .int .i64 s.s0) rfl
            have t12 := cell_atD fi 12 (v := .int .i64 c.k) rfl
            clear fi
            refine bodyPost_ret (v := .agg #[.int .i64 (s.ep + 1), .int .i64 s.a.e, .int .i64 s.a.b, .int .i64 s.a.k, .slice a1 s.a.M.length q1, .slice a2 s.a.C.length q2, .int .i64 (s.ep + 1), .int .i64 c.b, .int .i64 c.k, .slice b1 c.M.length p1, .slice b2 c.C.length p2, .int .i64 s.s0, .int .i64 c.k]) (by simp [results, Try.results14, go_sem, t0, t1, t2, t3, t4, t5, t6, t7, t8, t9, t10, t11, t12]) rfl ?_
            exact ⟨⟨s.ep + 1, s.s0, c.k, s.a, ⟨s.ep + 1, c.b, c.k, c.M, c.C⟩⟩, a1, q1, a2, q2, b1, p1, b2, p2, rfl, ⟨HG.out.1, HG.out.2.2⟩, ⟨by show 0 ≤ s.ep + 1 ∧ s.ep + 1 ≤ 1048576; omega, HS.out.2.2.1.2.1, lowC_e hlc (by omega) (by omega), by have := HS.out.2.2.1.2.2.2.1; show s.s0 ≤ _; exact this, by have := HS.out.2.2.1.2.2.2.2; show c.k ≤ _; omega⟩, HF.out.2⟩
    · go_wp2_with fail
      go_quiet (fail)
      have HB3 := Lib.hid (HB2.out.below (below_drewN' (Below.refl _ _) nq))
      clear k0 k1 k2 k3 k4 k5
      generalize w2.drewN nq = w3 at *
      have k0 := cell_atD HB3.out.cm 0 (v := .int .i64 2) rfl
      have k1 := cell_atD HB3.out.cm 1 (v := .int .i64 c.e) rfl
      have k2 := cell_atD HB3.out.cm 2 (v := .int .i64 c.b) rfl
      have k3 := cell_atD HB3.out.cm 3 (v := .int .i64 c.k) rfl
      have k4 := cell_atD HB3.out.cm 4 (v := .slice b1 c.M.length p1) rfl
      have k5 := cell_atD HB3.out.cm 5 (v := .slice b2 c.C.length p2) rfl
      have x0 := cell_atD HB3.out.st 0 (v := .int .i64 s.ep) rfl
      have x1 := cell_atD HB3.out.st 1 (v := .int .i64 s.a.e) rfl
      have x2 := cell_atD HB3.out.st 2 (v := .int .i64 s.a.b) rfl
      have x3 := cell_atD HB3.out.st 3 (v := .int .i64 s.a.k) rfl
      have x4 := cell_atD HB3.out.st 4 (v := .slice a1 s.a.M.length q1) rfl
      have x5 := cell_atD HB3.out.st 5 (v := .slice a2 s.a.C.length q2) rfl
      have x6 := cell_atD HB3.out.st 6 (v := .int .i64 s.n.e) rfl
      have x7 := cell_atD HB3.out.st 7 (v := .int .i64 s.n.b) rfl
      have x8 := cell_atD HB3.out.st 8 (v := .int .i64 s.n.k) rfl
      have x9 := cell_atD HB3.out.st 9 (v := .slice a3 s.n.M.length q3) rfl
      have x10 := cell_atD HB3.out.st 10 (v := .slice a4 s.n.C.length q4) rfl
      have x11 := cell_atD HB3.out.st 11 (v := .int .i64 s.s0) rfl
      have x12 := cell_atD HB3.out.st 12 (v := .int .i64 s.s1) rfl
      have xf : ∀ o, w3.frozen? ⟨w.heap.size, o, none⟩ = false := fun o => by simp [World.frozen?, HB3.out.st]
      rcases hne : s.n.e == c.e with _ | _
      · go_upto_region 10 with fail
        clear k0 k1 k2 k3 k4 k5 x0 x1 x2 x3 x4 x5 x6 x7 x8 x9 x10 x11 x12 xf hne
        have x0 := cell_atD HB3.out.st 0 (v := .int .i64 s.ep) rfl
        have x1 := cell_atD HB3.out.st 1 (v := .int .i64 s.a.e) rfl
        have x2 := cell_atD HB3.out.st 2 (v := .int .i64 s.a.b) rfl
        have x3 := cell_atD HB3.out.st 3 (v := .int .i64 s.a.k) rfl
        have x4 := cell_atD HB3.out.st 4 (v := .slice a1 s.a.M.length q1) rfl
        have x5 := cell_atD HB3.out.st 5 (v := .slice a2 s.a.C.length q2) rfl
        have x6 := cell_atD HB3.out.st 6 (v := .int .i64 s.n.e) rfl
        have x7 := cell_atD HB3.out.st 7 (v := .int .i64 s.n.b) rfl
        have x8 := cell_atD HB3.out.st 8 (v := .int .i64 s.n.k) rfl
        have x9 := cell_atD HB3.out.st 9 (v := .slice a3 s.n.M.length q3) rfl
        have x10 := cell_atD HB3.out.st 10 (v := .slice a4 s.n.C.length q4) rfl
        have x11 := cell_atD HB3.out.st 11 (v := .int .i64 s.s0) rfl
        have x12 := cell_atD HB3.out.st 12 (v := .int .i64 s.s1) rfl
        have z0 := cell_atD HB3.out.rs 0 (v := .int .i64 0) rfl
        have z1 := cell_atD HB3.out.rs 1 (v := .int .i64 0) rfl
        have z2 := cell_atD HB3.out.rs 2 (v := .int .i64 0) rfl
        have z3 := cell_atD HB3.out.rs 3 (v := .int .i64 0) rfl
        have z4 := cell_atD HB3.out.rs 4 (v := .slice none 0 0) rfl
        have z5 := cell_atD HB3.out.rs 5 (v := .slice none 0 0) rfl
        have z6 := cell_atD HB3.out.rs 6 (v := .int .i64 0) rfl
        have z7 := cell_atD HB3.out.rs 7 (v := .int .i64 0) rfl
        have z8 := cell_atD HB3.out.rs 8 (v := .int .i64 0) rfl
        have z9 := cell_atD HB3.out.rs 9 (v := .slice none 0 0) rfl
        have z10 := cell_atD HB3.out.rs 10 (v := .slice none 0 0) rfl
        have z11 := cell_atD HB3.out.rs 11 (v := .int .i64 0) rfl
        have z12 := cell_atD HB3.out.rs 12 (v := .int .i64 0) rfl
        have fz : ∀ o, w3.frozen? ⟨w.heap.size + 2, o, none⟩ = false := fun o => by simp [World.frozen?, HB3.out.rs]
        have g1 : (w3.setCell ⟨w.heap.size + 2, 0, none⟩ (.int .i64 s.ep)).heap[w.heap.size + 2]? = some (.cells #[.int .i64 s.ep, .int .i64 0, .int .i64 0, .int .i64 0, .slice none 0 0, .slice none 0 0, .int .i64 0, .int .i64 0, .int .i64 0, .slice none 0 0, .slice none 0 0, .int .i64 0, .int .i64 0] 42) := heap_set_self HB3.out.rs 0 _
        have g2 : ((w3.setCell ⟨w.heap.size + 2, 0, none⟩ (.int .i64 s.ep)).setCell ⟨w.heap.size + 2, 1, none⟩ (.int .i64 s.a.e)).heap[w.heap.size + 2]? = some (.cells #[.int .i64 s.ep, .int .i64 s.a.e, .int .i64 0, .int .i64 0, .slice none 0 0, .slice none 0 0, .int .i64 0, .int .i64 0, .int .i64 0, .slice none 0 0, .slice none 0 0, .int .i64 0, .int .i64 0] 42) := heap_set_self g1 1 _
        have g3 : (((w3.setCell ⟨w.heap.size + 2, 0, none⟩ (.int .i64 s.ep)).setCell ⟨w.heap.size + 2, 1, none⟩ (.int .i64 s.a.e)).setCell ⟨w.heap.size + 2, 2, none⟩ (.int .i64 s.a.b)).heap[w.heap.size + 2]? = some (.cells #[.int .i64 s.ep, .int .i64 s.a.e, .int .i64 s.a.b, .int .i64 0, .slice none 0 0, .slice none 0 0, .int .i64 0, .int .i64 0, .int .i64 0, .slice none 0 0, .slice none 0 0, .int .i64 0, .int .i64 0] 42) := heap_set_self g2 2 _
        have g4 : ((((w3.setCell ⟨w.heap.size + 2, 0, none⟩ (.int .i64 s.ep)).setCell ⟨w.heap.size + 2, 1, none⟩ (.int .i64 s.a.e)).setCell ⟨w.heap.size + 2, 2, none⟩ (.int .i64 s.a.b)).setCell ⟨w.heap.size + 2, 3, none⟩ (.int .i64 s.a.k)).heap[w.heap.size + 2]? = some (.cells #[.int .i64 s.ep, .int .i64 s.a.e, .int .i64 s.a.b, .int .i64 s.a.k, .slice none 0 0, .slice none 0 0, .int .i64 0, .int .i64 0, .int .i64 0, .slice none 0 0, .slice none 0 0, .int .i64 0, .int .i64 0] 42) := heap_set_self g3 3 _
        have g5 : (((((w3.setCell ⟨w.heap.size + 2, 0, none⟩ (.int .i64 s.ep)).setCell ⟨w.heap.size + 2, 1, none⟩ (.int .i64 s.a.e)).setCell ⟨w.heap.size + 2, 2, none⟩ (.int .i64 s.a.b)).setCell ⟨w.heap.size + 2, 3, none⟩ (.int .i64 s.a.k)).setCell ⟨w.heap.size + 2, 4, none⟩ (.slice a1 s.a.M.length q1)).heap[w.heap.size + 2]? = some (.cells #[.int .i64 s.ep, .int .i64 s.a.e, .int .i64 s.a.b, .int .i64 s.a.k, .slice a1 s.a.M.length q1, .slice none 0 0, .int .i64 0, .int .i64 0, .int .i64 0, .slice none 0 0, .slice none 0 0, .int .i64 0, .int .i64 0] 42) := heap_set_self g4 4 _
        have g6 : ((((((w3.setCell ⟨w.heap.size + 2, 0, none⟩ (.int .i64 s.ep)).setCell ⟨w.heap.size + 2, 1, none⟩ (.int .i64 s.a.e)).setCell ⟨w.heap.size + 2, 2, none⟩ (.int .i64 s.a.b)).setCell ⟨w.heap.size + 2, 3, none⟩ (.int .i64 s.a.k)).setCell ⟨w.heap.size + 2, 4, none⟩ (.slice a1 s.a.M.length q1)).setCell ⟨w.heap.size + 2, 5, none⟩ (.slice a2 s.a.C.length q2)).heap[w.heap.size + 2]? = some (.cells #[.int .i64 s.ep, .int .i64 s.a.e, .int .i64 s.a.b, .int .i64 s.a.k, .slice a1 s.a.M.length q1, .slice a2 s.a.C.length q2, .int .i64 0, .int .i64 0, .int .i64 0, .slice none 0 0, .slice none 0 0, .int .i64 0, .int .i64 0] 42) := heap_set_self g5 5 _
        have g7 : (((((((w3.setCell ⟨w.heap.size + 2, 0, none⟩ (.int .i64 s.ep)).setCell ⟨w.heap.size + 2, 1, none⟩ (.int .i64 s.a.e)).setCell ⟨w.heap.size + 2, 2, none⟩ (.int .i64 s.a.b)).setCell ⟨w.heap.size + 2, 3, none⟩ (.int .i64 s.a.k)).setCell ⟨w.heap.size + 2, 4, none⟩ (.slice a1 s.a.M.length q1)).setCell ⟨w.heap.size + 2, 5, none⟩ (.slice a2 s.a.C.length q2)).setCell ⟨w.heap.size + 2, 6, none⟩ (.int .i64 s.n.e)).heap[w.heap.size + 2]? = some (.cells #[.int .i64 s.ep, .int .i64 s.a.e, .int .i64 s.a.b, .int .i64 s.a.k, .slice a1 s.a.M.length q1, .slice a2 s.a.C.length q2, .int .i64 s.n.e, .int .i64 0, .int .i64 0, .slice none 0 0, .slice none 0 0, .int .i64 0, .int .i64 0] 42) := heap_set_self g6 6 _
        have g8 : ((((((((w3.setCell ⟨w.heap.size + 2, 0, none⟩ (.int .i64 s.ep)).setCell ⟨w.heap.size + 2, 1, none⟩ (.int .i64 s.a.e)).setCell ⟨w.heap.size + 2, 2, none⟩ (.int .i64 s.a.b)).setCell ⟨w.heap.size + 2, 3, none⟩ (.int .i64 s.a.k)).setCell ⟨w.heap.size + 2, 4, none⟩ (.slice a1 s.a.M.length q1)).setCell ⟨w.heap.size + 2, 5, none⟩ (.slice a2 s.a.C.length q2)).setCell ⟨w.heap.size + 2, 6, none⟩ (.int .i64 s.n.e)).setCell ⟨w.heap.size + 2, 7, none⟩ (.int .i64 s.n.b)).heap[w.heap.size + 2]? = some (.cells #[.int .i64 s.ep, .int .i64 s.a.e, .int .i64 s.a.b, .int .i64 s.a.k, .slice a1 s.a.M.length q1, .slice a2 s.a.C.length q2, .int .i64 s.n.e, .int .i64 s.n.b, .int .i64 0, .slice none 0 0, .slice none 0 0, .int .i64 0, .int .i64 0] 42) := heap_set_self g7 7 _
        have g9 : (((((((((w3.setCell ⟨w.heap.size + 2, 0, none⟩ (.int .i64 s.ep)).setCell ⟨w.heap.size + 2, 1, none⟩ (.int .i64 s.a.e)).setCell ⟨w.heap.size + 2, 2, none⟩ (.int .i64 s.a.b)).setCell ⟨w.heap.size + 2, 3, none⟩ (.int .i64 s.a.k)).setCell ⟨w.heap.size + 2, 4, none⟩ (.slice a1 s.a.M.length q1)).setCell ⟨w.heap.size + 2, 5, none⟩ (.slice a2 s.a.C.length q2)).setCell ⟨w.heap.size + 2, 6, none⟩ (.int .i64 s.n.e)).setCell ⟨w.heap.size + 2, 7, none⟩ (.int .i64 s.n.b)).setCell ⟨w.heap.size + 2, 8, none⟩ (.int .i64 s.n.k)).heap[w.heap.size + 2]? = some (.cells #[.int .i64 s.ep, .int .i64 s.a.e, .int .i64 s.a.b, .int .i64 s.a.k, .slice a1 s.a.M.length q1, .slice a2 s.a.C.length q2, .int .i64 s.n.e, .int .i64 s.n.b, .int .i64 s.n.k, .slice none 0 0, .slice none 0 0, .int .i64 0, .int .i64 0] 42) := heap_set_self g8 8 _
        have g10 : ((((((((((w3.setCell ⟨w.heap.size + 2, 0, none⟩ (.int .i64 s.ep)).setCell ⟨w.heap.size + 2, 1, none⟩ (.int .i64 s.a.e)).setCell ⟨w.heap.size + 2, 2, none⟩ (.int .i64 s.a.b)).setCell ⟨w.heap.size + 2, 3, none⟩ (.int .i64 s.a.k)).setCell ⟨w.heap.size + 2, 4, none⟩ (.slice a1 s.a.M.length q1)).setCell ⟨w.heap.size + 2, 5, none⟩ (.slice a2 s.a.C.length q2)).setCell ⟨w.heap.size + 2, 6, none⟩ (.int .i64 s.n.e)).setCell ⟨w.heap.size + 2, 7, none⟩ (.int .i64 s.n.b)).setCell ⟨w.heap.size + 2, 8, none⟩ (.int .i64 s.n.k)).setCell ⟨w.heap.size + 2, 9, none⟩ (.slice a3 s.n.M.length q3)).heap[w.heap.size + 2]? = some (.cells #[.int .i64 s.ep, .int .i64 s.a.e, .int .i64 s.a.b, .int .i64 s.a.k, .slice a1 s.a.M.length q1, .slice a2 s.a.C.length q2, .int .i64 s.n.e, .int .i64 s.n.b, .int .i64 s.n.k, .slice a3 s.n.M.length q3, .slice none 0 0, .int .i64 0, .int .i64 0] 42) := heap_set_self g9 9 _
        have g11 : (((((((((((w3.setCell ⟨w.heap.size + 2, 0, none⟩ (.int .i64 s.ep)).setCell ⟨w.heap.size + 2, 1, none⟩ (.int .i64 s.a.e)).setCell ⟨w.heap.size + 2, 2, none⟩ (.int .i64 s.a.b)).setCell ⟨w.heap.size + 2, 3, none⟩ (.int .i64 s.a.k)).setCell ⟨w.heap.size + 2, 4, none⟩ (.slice a1 s.a.M.length q1)).setCell ⟨w.heap.size + 2, 5, none⟩ (.slice a2 s.a.C.length q2)).setCell ⟨w.heap.size + 2, 6, none⟩ (.int .i64 s.n.e)).setCell ⟨w.heap.size + 2, 7, none⟩ (.int .i64 s.n.b)).setCell ⟨w.heap.size + 2, 8, none⟩ (.int .i64 s.n.k)).setCell ⟨w.heap.size + 2, 9, none⟩ (.slice a3 s.n.M.length q3)).setCell ⟨w.heap.size + 2, 10, none⟩ (.slice a4 s.n.C.length q4)).heap[w.heap.size + 2]? = some (.cells #[.int .i64 s.ep, .int .i64 s.a.e, .int .i64 s.a.b, .int .i64 s.a.k, .slice a1 s.a.M.length q1, .slice a2 s.a.C.length q2, .int .i64 s.n.e, .int .i64 s.n.b, .int .i64 s.n.k, .slice a3 s.n.M.length q3, .slice a4 s.n.C.length q4, .int .i64 0, .int .i64 0] 42) := heap_set_self g10 10 _
        have g12 : ((((((((((((w3.setCell ⟨w.heap.size + 2, 0, none⟩ (.int .i64 s.ep)).setCell ⟨w.heap.size + 2, 1, none⟩ (.int .i64 s.a.e)).setCell ⟨w.heap.size + 2, 2, none⟩ (.int .i64 s.a.b)).setCell ⟨w.heap.size + 2, 3, none⟩ (.int .i64 s.a.k)).setCell ⟨w.heap.size + 2, 4, none⟩ (.slice a1 s.a.M.length q1)).setCell ⟨w.heap.size + 2, 5, none⟩ (.slice a2 s.a.C.length q2)).setCell ⟨w.heap.size + 2, 6, none⟩ (.int .i64 s.n.e)).setCell ⟨w.heap.size + 2, 7, none⟩ (.int .i64 s.n.b)).setCell ⟨w.heap.size + 2, 8, none⟩ (.int .i64 s.n.k)).setCell ⟨w.heap.size + 2, 9, none⟩ (.slice a3 s.n.M.length q3)).setCell ⟨w.heap.size + 2, 10, none⟩ (.slice a4 s.n.C.length q4)).setCell ⟨w.heap.size + 2, 11, none⟩ (.int .i64 s.s0)).heap[w.heap.size + 2]? = some (.cells #[.int .i64 s.ep, .int .i64 s.a.e, .int .i64 s.a.b, .int .i64 s.a.k, .slice a1 s.a.M.length q1, .slice a2 s.a.C.length q2, .int .i64 s.n.e, .int .i64 s.n.b, .int .i64 s.n.k, .slice a3 s.n.M.length q3, .slice a4 s.n.C.length q4, .int .i64 s.s0, .int .i64 0] 42) := heap_set_self g11 11 _
        have g13 : (((((((((((((w3.setCell ⟨w.heap.size + 2, 0, none⟩ (.int .i64 s.ep)).setCell ⟨w.heap.size + 2, 1, none⟩ (.int .i64 s.a.e)).setCell ⟨w.heap.size + 2, 2, none⟩ (.int .i64 s.a.b)).setCell ⟨w.heap.size + 2, 3, none⟩ (.int .i64 s.a.k)).setCell ⟨w.heap.size + 2, 4, none⟩ (.slice a1 s.a.M.length q1)).setCell ⟨w.heap.size + 2, 5, none⟩ (.slice a2 s.a.C.length q2)).setCell ⟨w.heap.size + 2, 6, none⟩ (.int .i64 s.n.e)).setCell ⟨w.heap.size + 2, 7, none⟩ (.int .i64 s.n.b)).setCell ⟨w.heap.size + 2, 8, none⟩ (.int .i64 s.n.k)).setCell ⟨w.heap.size + 2, 9, none⟩ (.slice a3 s.n.M.length q3)).setCell ⟨w.heap.size + 2, 10, none⟩ (.slice a4 s.n.C.length q4)).setCell ⟨w.heap.size + 2, 11, none⟩ (.int .i64 s.s0)).setCell ⟨w.heap.size + 2, 12, none⟩ (.int .i64 s.s1)).heap[w.heap.size + 2]? = some (.cells #[.int .i64 s.ep, .int .i64 s.a.e, .int .i64 s.a.b, .int .i64 s.a.k, .slice a1 s.a.M.length q1, .slice a2 s.a.C.length q2, .int .i64 s.n.e, .int .i64 s.n.b, .int .i64 s.n.k, .slice a3 s.n.M.length q3, .slice a4 s.n.C.length q4, .int .i64 s.s0, .int .i64 s.s1] 42) := heap_set_self g12 12 _
        have gO : Only (w.heap.size + 2) w3 (((((((((((((w3.setCell ⟨w.heap.size + 2, 0, none⟩ (.int .i64 s.ep)).setCell ⟨w.heap.size + 2, 1, none⟩ (.int .i64 s.a.e)).setCell ⟨w.heap.size + 2, 2, none⟩ (.int .i64 s.a.b)).setCell ⟨w.heap.size + 2, 3, none⟩ (.int .i64 s.a.k)).setCell ⟨w.heap.size + 2, 4, none⟩ (.slice a1 s.a.M.length q1)).setCell ⟨w.heap.size + 2, 5, none⟩ (.slice a2 s.a.C.length q2)).setCell ⟨w.heap.size + 2, 6, none⟩ (.int .i64 s.n.e)).setCell ⟨w.heap.size + 2, 7, none⟩ (.int .i64 s.n.b)).setCell ⟨w.heap.size + 2, 8, none⟩ (.int .i64 s.n.k)).setCell ⟨w.heap.size + 2, 9, none⟩ (.slice a3 s.n.M.length q3)).setCell ⟨w.heap.size + 2, 10, none⟩ (.slice a4 s.n.C.length q4)).setCell ⟨w.heap.size + 2, 11, none⟩ (.int .i64 s.s0)).setCell ⟨w.heap.size + 2, 12, none⟩ (.int .i64 s.s1)) := (((((((((((((Only.refl _ _).set 0 _).set 1 _).set 2 _).set 3 _).set 4 _).set 5 _).set 6 _).set 7 _).set 8 _).set 9 _).set 10 _).set 11 _).set 12 _
        have HF := Lib.hid (And.intro g13 (HB3.out.bl.trans (gO.below (B := w.heap.size) (by omega) HB3.out.bl.size)))
        clear g1 g2 g3 g4 g5 g6 g7 g8 g9 g10 g11 g12 g13 gO
        go_wp2_with fail
        generalize (((((((((((((w3.setCell ⟨w.heap.size + 2, 0, none⟩ (.int .i64 s.ep)).setCell ⟨w.heap.size + 2, 1, none⟩ (.int .i64 s.a.e)).setCell ⟨w.heap.size + 2, 2, none⟩ (.int .i64 s.a.b)).setCell ⟨w.heap.size + 2, 3, none⟩ (.int .i64 s.a.k)).setCell ⟨w.heap.size + 2, 4, none⟩ (.slice a1 s.a.M.length q1)).setCell ⟨w.heap.size + 2, 5, none⟩ (.slice a2 s.a.C.length q2)).setCell ⟨w.heap.size + 2, 6, none⟩ (.int .i64 s.n.e)).setCell ⟨w.heap.size + 2, 7, none⟩ (.int .i64 s.n.b)).setCell ⟨w.heap.size + 2, 8, none⟩ (.int .i64 s.n.k)).setCell ⟨w.heap.size + 2, 9, none⟩ (.slice a3 s.n.M.length q3)).setCell ⟨w.heap.size + 2, 10, none⟩ (.slice a4 s.n.C.length q4)).setCell ⟨w.heap.size + 2, 11, none⟩ (.int .i64 s.s0)).setCell ⟨w.heap.size + 2, 12, none⟩ (.int .i64 s.s1)) = wf at *
        have fi := HF.out.1
        have t0 := cell_atD fi 0 (v := .int .i64 s.ep) rfl
        have t1 := cell_atD fi 1 (v := .int .i64 s.a.e) rfl
        have t2 := cell_atD fi 2 (v := .int .i64 s.a.b) rfl
        have t3 := cell_atD fi 3 (v := .int .i64 s.a.k) rfl
        have t4 := cell_atD fi 4 (v := .slice a1 s.a.M.length q1) rfl
        have t5 := cell_atD fi 5 (v := .slice a2 s.a.C.length q2) rfl
        have t6 := cell_atD fi 6 (v := .int .i64 s.n.e) rfl
        have t7 := cell_atD fi 7 (v := .int .i64 s.n.b) rfl
        have t8 := cell_atD fi 8 (v := .int .i64 s.n.k) rfl
        have t9 := cell_atD fi 9 (v := .slice a3 s.n.M.length q3) rfl
        have t10 := cell_atD fi 10 (v := .slice a4 s.n.C.length q4) rfl
        have t11 := cell_atD fi 11 (v := .int .i64 s.s0) rfl
        have t12 := cell_atD fi 12 (v := .int .i64 s.s1) rfl
        clear fi
        refine bodyPost_ret (v := .agg #[.int .i64 s.ep, .int .i64 s.a.e, .int .i64 s.a.b, .int .i64 s.a.k, .slice a1 s.a.M.length q1, .slice a2 s.a.C.length q2, .int .i64 s.n.e, .int .i64 s.n.b, .int .i64 s.n.k, .slice a3 s.n.M.length q3, .slice a4 s.n.C.length q4, .int .i64 s.s0, .int .i64 s.s1]) (by simp [results, Try.results14, go_sem, t0, t1, t2, t3, t4, t5, t6, t7, t8, t9, t10, t11, t12]) rfl ?_
        exact ⟨s, a1, q1, a2, q2, a3, q3, a4, q4, rfl, ⟨HG.out.1, HG.out.2.1⟩, HS.out.2.2.1, HF.out.2⟩
      · go_upto_region 10 with fail
        have g1 : (w3.setCell ⟨w.heap.size, 1, none⟩ (.int .i64 s.n.e)).heap[w.heap.size]? = some (.cells #[.int .i64 s.ep, .int .i64 s.n.e, .int .i64 s.a.b, .int .i64 s.a.k, .slice a1 s.a.M.length q1, .slice a2 s.a.C.length q2, .int .i64 s.n.e, .int .i64 s.n.b, .int .i64 s.n.k, .slice a3 s.n.M.length q3, .slice a4 s.n.C.length q4, .int .i64 s.s0, .int .i64 s.s1] 42) := heap_set_self HB3.out.st 1 _
        have g2 : ((w3.setCell ⟨w.heap.size, 1, none⟩ (.int .i64 s.n.e)).setCell ⟨w.heap.size, 2, none⟩ (.int .i64 s.n.b)).heap[w.heap.size]? = some (.cells #[.int .i64 s.ep, .int .i64 s.n.e, .int .i64 s.n.b, .int .i64 s.a.k, .slice a1 s.a.M.length q1, .slice a2 s.a.C.length q2, .int .i64 s.n.e, .int .i64 s.n.b, .int .i64 s.n.k, .slice a3 s.n.M.length q3, .slice a4 s.n.C.length q4, .int .i64 s.s0, .int .i64 s.s1] 42) := heap_set_self g1 2 _
        have g3 : (((w3.setCell ⟨w.heap.size, 1, none⟩ (.int .i64 s.n.e)).setCell ⟨w.heap.size, 2, none⟩ (.int .i64 s.n.b)).setCell ⟨w.heap.size, 3, none⟩ (.int .i64 s.n.k)).heap[w.heap.size]? = some (.cells #[.int .i64 s.ep, .int .i64 s.n.e, .int .i64 s.n.b, .int .i64 s.n.k, .slice a1 s.a.M.length q1, .slice a2 s.a.C.length q2, .int .i64 s.n.e, .int .i64 s.n.b, .int .i64 s.n.k, .slice a3 s.n.M.length q3, .slice a4 s.n.C.length q4, .int .i64 s.s0, .int .i64 s.s1] 42) := heap_set_self g2 3 _
        have g4 : ((((w3.setCell ⟨w.heap.size, 1, none⟩ (.int .i64 s.n.e)).setCell ⟨w.heap.size, 2, none⟩ (.int .i64 s.n.b)).setCell ⟨w.heap.size, 3, none⟩ (.int .i64 s.n.k)).setCell ⟨w.heap.size, 4, none⟩ (.slice a3 s.n.M.length q3)).heap[w.heap.size]? = some (.cells #[.int .i64 s.ep, .int .i64 s.n.e, .int .i64 s.n.b, .int .i64 s.n.k, .slice a3 s.n.M.length q3, .slice a2 s.a.C.length q2, .int .i64 s.n.e, .int .i64 s.n.b, .int .i64 s.n.k, .slice a3 s.n.M.length q3, .slice a4 s.n.C.length q4, .int .i64 s.s0, .int .i64 s.s1] 42) := heap_set_self g3 4 _
        have g5 : (((((w3.setCell ⟨w.heap.size, 1, none⟩ (.int .i64 s.n.e)).setCell ⟨w.heap.size, 2, none⟩ (.int .i64 s.n.b)).setCell ⟨w.heap.size, 3, none⟩ (.int .i64 s.n.k)).setCell ⟨w.heap.size, 4, none⟩ (.slice a3 s.n.M.length q3)).setCell ⟨w.heap.size, 5, none⟩ (.slice a4 s.n.C.length q4)).heap[w.heap.size]? = some (.cells #[.int .i64 s.ep, .int .i64 s.n.e, .int .i64 s.n.b, .int .i64 s.n.k, .slice a3 s.n.M.length q3, .slice a4 s.n.C.length q4, .int .i64 s.n.e, .int .i64 s.n.b, .int .i64 s.n.k, .slice a3 s.n.M.length q3, .slice a4 s.n.C.length q4, .int .i64 s.s0, .int .i64 s.s1] 42) := heap_set_self g4 5 _
        have gO : Only (w.heap.size) w3 (((((w3.setCell ⟨w.heap.size, 1, none⟩ (.int .i64 s.n.e)).setCell ⟨w.heap.size, 2, none⟩ (.int .i64 s.n.b)).setCell ⟨w.heap.size, 3, none⟩ (.int .i64 s.n.k)).setCell ⟨w.heap.size, 4, none⟩ (.slice a3 s.n.M.length q3)).setCell ⟨w.heap.size, 5, none⟩ (.slice a4 s.n.C.length q4)) := (((((Only.refl _ _).set 1 _).set 2 _).set 3 _).set 4 _).set 5 _
        have HB4 := Lib.hid (HB3.out.only gO g5)
        clear g1 g2 g3 g4 g5 gO k0 k1 k2 k3 k4 k5 x0 x1 x2 x3 x4 x5 x6 x7 x8 x9 x10 x11 x12 hne HB3
        generalize (((((w3.setCell ⟨w.heap.size, 1, none⟩ (.int .i64 s.n.e)).setCell ⟨w.heap.size, 2, none⟩ (.int .i64 s.n.b)).setCell ⟨w.heap.size, 3, none⟩ (.int .i64 s.n.k)).setCell ⟨w.heap.size, 4, none⟩ (.slice a3 s.n.M.length q3)).setCell ⟨w.heap.size, 5, none⟩ (.slice a4 s.n.C.length q4)) = w4 at *
        have x0 := cell_atD HB4.out.st 0 (v := .int .i64 s.ep) rfl
        have x1 := cell_atD HB4.out.st 1 (v := .int .i64 s.n.e) rfl
        have x2 := cell_atD HB4.out.st 2 (v := .int .i64 s.n.b) rfl
        have x3 := cell_atD HB4.out.st 3 (v := .int .i64 s.n.k) rfl
        have x4 := cell_atD HB4.out.st 4 (v := .slice a3 s.n.M.length q3) rfl
        have x5 := cell_atD HB4.out.st 5 (v := .slice a4 s.n.C.length q4) rfl
        have x6 := cell_atD HB4.out.st 6 (v := .int .i64 s.n.e) rfl
        have x7 := cell_atD HB4.out.st 7 (v := .int .i64 s.n.b) rfl
        have x8 := cell_atD HB4.out.st 8 (v := .int .i64 s.n.k) rfl
        have x9 := cell_atD HB4.out.st 9 (v := .slice a3 s.n.M.length q3) rfl
        have x10 := cell_atD HB4.out.st 10 (v := .slice a4 s.n.C.length q4) rfl
        have x11 := cell_atD HB4.out.st 11 (v := .int .i64 s.s0) rfl
        have x12 := cell_atD HB4.out.st 12 (v := .int .i64 s.s1) rfl
        have z0 := cell_atD HB4.out.rs 0 (v := .int .i64 0) rfl
        have z1 := cell_atD HB4.out.rs 1 (v := .int .i64 0) rfl
        have z2 := cell_atD HB4.out.rs 2 (v := .int .i64 0) rfl
        have z3 := cell_atD HB4.out.rs 3 (v := .int .i64 0) rfl
        have z4 := cell_atD HB4.out.rs 4 (v := .slice none 0 0) rfl
        have z5 := cell_atD HB4.out.rs 5 (v := .slice none 0 0) rfl
        have z6 := cell_atD HB4.out.rs 6 (v := .int .i64 0) rfl
        have z7 := cell_atD HB4.out.rs 7 (v := .int .i64 0) rfl
        have z8 := cell_atD HB4.out.rs 8 (v := .int .i64 0) rfl
        have z9 := cell_atD HB4.out.rs 9 (v := .slice none 0 0) rfl
        have z10 := cell_atD HB4.out.rs 10 (v := .slice none 0 0) rfl
        have z11 := cell_atD HB4.out.rs 11 (v := .int .i64 0) rfl
        have z12 := cell_atD HB4.out.rs 12 (v := .int .i64 0) rfl
        have fz : ∀ o, w4.frozen? ⟨w.heap.size + 2, o, none⟩ = false := fun o => by simp [World.frozen?, HB4.out.rs]
        have g1 : (w4.setCell ⟨w.heap.size + 2, 0, none⟩ (.int .i64 s.ep)).heap[w.heap.size + 2]? = some (.cells #[.int .i64 s.ep, .int .i64 0, .int .i64 0, .int .i64 0, .slice none 0 0, .slice none 0 0, .int .i64 0, .int .i64 0, .int .i64 0, .slice none 0 0, .slice none 0 0, .int .i64 0, .int .i64 0] 42) := heap_set_self HB4.out.rs 0 _
        have g2 : ((w4.setCell ⟨w.heap.size + 2, 0, none⟩ (.int .i64 s.ep)).setCell ⟨w.heap.size + 2, 1, none⟩ (.int .i64 s.n.e)).heap[w.heap.size + 2]? = some (.cells #[.int .i64 s.ep, .int .i64 s.n.e, .int .i64 0, .int .i64 0, .slice none 0 0, .slice none 0 0, .int .i64 0, .int .i64 0, .int .i64 0, .slice none 0 0, .slice none 0 0, .int .i64 0, .int .i64 0] 42) := heap_set_self g1 1 _
        have g3 : (((w4.setCell ⟨w.heap.size + 2, 0, none⟩ (.int .i64 s.ep)).setCell ⟨w.heap.size + 2, 1, none⟩ (.int .i64 s.n.e)).setCell ⟨w.heap.size + 2, 2, none⟩ (.int .i64 s.n.b)).heap[w.heap.size + 2]? = some (.cells #[.int .i64 s.ep, .int .i64 s.n.e, .int .i64 s.n.b, .int .i64 0, .slice none 0 0, .slice none 0 0, .int .i64 0, .int .i64 0, .int .i64 0, .slice none 0 0, .slice none 0 0, .int .i64 0, .int .i64 0] 42) := heap_set_self g2 2 _
        have g4 : ((((w4.setCell ⟨w.heap.size + 2, 0, none⟩ (.int .i64 s.ep)).setCell ⟨w.heap.size + 2, 1, none⟩ (.int .i64 s.n.e)).setCell ⟨w.heap.size + 2, 2, none⟩ (.int .i64 s.n.b)).setCell ⟨w.heap.size + 2, 3, none⟩ (.int .i64 s.n.k)).heap[w.heap.size + 2]? = some (.cells #[.int .i64 s.ep, .int .i64 s.n.e, .int .i64 s.n.b, .int .i64 s.n.k, .slice none 0 0, .slice none 0 0, .int .i64 0, .int .i64 0, .int .i64 0, .slice none 0 0, .slice none 0 0, .int .i64 0, .int .i64 0] 42) := heap_set_self g3 3 _
        have g5 : (((((w4.setCell ⟨w.heap.size + 2, 0, none⟩ (.int .i64 s.ep)).setCell ⟨w.heap.size + 2, 1, none⟩ (.int .i64 s.n.e)).setCell ⟨w.heap.size + 2, 2, none⟩ (.int .i64 s.n.b)).setCell ⟨w.heap.size + 2, 3, none⟩ (.int .i64 s.n.k)).setCell ⟨w.heap.size + 2, 4, none⟩ (.slice a3 s.n.M.length q3)).heap[w.heap.size + 2]? = some (.cells #[.int .i64 s.ep, .int .i64 s.n.e, .int .i64 s.n.b, .int .i64 s.n.k, .slice a3 s.n.M.length q3, .slice none 0 0, .int .i64 0, .int .i64 0, .int .i64 0, .slice none 0 0, .slice none 0 0, .int .i64 0, .int .i64 0] 42) := heap_set_self g4 4 _
        have g6 : ((((((w4.setCell ⟨w.heap.size + 2, 0, none⟩ (.int .i64 s.ep)).setCell ⟨w.heap.size + 2, 1, none⟩ (.int .i64 s.n.e)).setCell ⟨w.heap.size + 2, 2, none⟩ (.int .i64 s.n.b)).setCell ⟨w.heap.size + 2, 3, none⟩ (.int .i64 s.n.k)).setCell ⟨w.heap.size + 2, 4, none⟩ (.slice a3 s.n.M.length q3)).setCell ⟨w.heap.size + 2, 5, none⟩ (.slice a4 s.n.C.length q4)).heap[w.heap.size + 2]? = some (.cells #[.int .i64 s.ep, .int .i64 s.n.e, .int .i64 s.n.b, .int .i64 s.n.k, .slice a3 s.n.M.length q3, .slice a4 s.n.C.length q4, .int .i64 0, .int .i64 0, .int .i64 0, .slice none 0 0, .slice none 0 0, .int .i64 0, .int .i64 0] 42) := heap_set_self g5 5 _
        have g7 : (((((((w4.setCell ⟨w.heap.size + 2, 0, none⟩ (.int .i64 s.ep)).setCell ⟨w.heap.size + 2, 1, none⟩ (.int .i64 s.n.e)).setCell ⟨w.heap.size + 2, 2, none⟩ (.int .i64 s.n.b)).setCell ⟨w.heap.size + 2, 3, none⟩ (.int .i64 s.n.k)).setCell ⟨w.heap.size + 2, 4, none⟩ (.slice a3 s.n.M.length q3)).setCell ⟨w.heap.size + 2, 5, none⟩ (.slice a4 s.n.C.length q4)).setCell ⟨w.heap.size + 2, 6, none⟩ (.int .i64 s.n.e)).heap[w.heap.size + 2]? = some (.cells #[.int .i64 s.ep, .int .i64 s.n.e, .int .i64 s.n.b, .int .i64 s.n.k, .slice a3 s.n.M.length q3, .slice a4 s.n.C.length q4, .int .i64 s.n.e, .int .i64 0, .int .i64 0, .slice none 0 0, .slice none 0 0, .int .i64 0, .int .i64 0] 42) := heap_set_self g6 6 _
        have g8 : ((((((((w4.setCell ⟨w.heap.size + 2, 0, none⟩ (.int .i64 s.ep)).setCell ⟨w.heap.size + 2, 1, none⟩ (.int .i64 s.n.e)).setCell ⟨w.heap.size + 2, 2, none⟩ (.int .i64 s.n.b)).setCell ⟨w.heap.size + 2, 3, none⟩ (.int .i64 s.n.k)).setCell ⟨w.heap.size + 2, 4, none⟩ (.slice a3 s.n.M.length q3)).setCell ⟨w.heap.size + 2, 5, none⟩ (.slice a4 s.n.C.length q4)).setCell ⟨w.heap.size + 2, 6, none⟩ (.int .i64 s.n.e)).setCell ⟨w.heap.size + 2, 7, none⟩ (.int .i64 s.n.b)).heap[w.heap.size + 2]? = some (.cells #[.int .i64 s.ep, .int .i64 s.n.e, .int .i64 s.n.b, .int .i64 s.n.k, .slice a3 s.n.M.length q3, .slice a4 s.n.C.length q4, .int .i64 s.n.e, .int .i64 s.n.b, .int .i64 0, .slice none 0 0, .slice none 0 0, .int .i64 0, .int .i64 0] 42) := heap_set_self g7 7 _
        have g9 : (((((((((w4.setCell ⟨w.heap.size + 2, 0, none⟩ (.int .i64 s.ep)).setCell ⟨w.heap.size + 2, 1, none⟩ (.int .i64 s.n.e)).setCell ⟨w.heap.size + 2, 2, none⟩ (.int .i64 s.n.b)).setCell ⟨w.heap.size + 2, 3, none⟩ (.int .i64 s.n.k)).setCell ⟨w.heap.size + 2, 4, none⟩ (.slice a3 s.n.M.length q3)).setCell ⟨w.heap.size + 2, 5, none⟩ (.slice a4 s.n.C.length q4)).setCell ⟨w.heap.size + 2, 6, none⟩ (.int .i64 s.n.e)).setCell ⟨w.heap.size + 2, 7, none⟩ (.int .i64 s.n.b)).setCell ⟨w.heap.size + 2, 8, none⟩ (.int .i64 s.n.k)).heap[w.heap.size + 2]? = some (.cells #[.int .i64 s.ep, .int .i64 s.n.e, .int .i64 s.n.b, .int .i64 s.n.k, .slice a3 s.n.M.length q3, .slice a4 s.n.C.length q4, .int .i64 s.n.e, .int .i64 s.n.b, .int .i64 s.n.k, .slice none 0 0, .slice none 0 0, .int .i64 0, .int .i64 0] 42) := heap_set_self g8 8 _
        have g10 : ((((((((((w4.setCell ⟨w.heap.size + 2, 0, none⟩ (.int .i64 s.ep)).setCell ⟨w.heap.size + 2, 1, none⟩ (.int .i64 s.n.e)).setCell ⟨w.heap.size + 2, 2, none⟩ (.int .i64 s.n.b)).setCell ⟨w.heap.size + 2, 3, none⟩ (.int .i64 s.n.k)).setCell ⟨w.heap.size + 2, 4, none⟩ (.slice a3 s.n.M.length q3)).setCell ⟨w.heap.size + 2, 5, none⟩ (.slice a4 s.n.C.length q4)).setCell ⟨w.heap.size + 2, 6, none⟩ (.int .i64 s.n.e)).setCell ⟨w.heap.size + 2, 7, none⟩ (.int .i64 s.n.b)).setCell ⟨w.heap.size + 2, 8, none⟩ (.int .i64 s.n.k)).setCell ⟨w.heap.size + 2, 9, none⟩ (.slice a3 s.n.M.length q3)).heap[w.heap.size + 2]? = some (.cells #[.int .i64 s.ep, .int .i64 s.n.e, .int .i64 s.n.b, .int .i64 s.n.k, .slice a3 s.n.M.length q3, .slice a4 s.n.C.length q4, .int .i64 s.n.e, .int .i64 s.n.b, .int .i64 s.n.k, .slice a3 s.n.M.length q3, .slice none 0 0, .int .i64 0, .int .i64 0] 42) := heap_set_self g9 9 _
        have g11 : (((((((((((w4.setCell ⟨w.heap.size + 2, 0, none⟩ (.int .i64 s.ep)).setCell ⟨w.heap.size + 2, 1, none⟩ (.int .i64 s.n.e)).setCell ⟨w.heap.size + 2, 2, none⟩ (.int .i64 s.n.b)).setCell ⟨w.heap.size + 2, 3, none⟩ (.int .i64 s.n.k)).setCell ⟨w.heap.size + 2, 4, none⟩ (.slice a3 s.n.M.length q3)).setCell ⟨w.heap.size + 2, 5, none⟩ (.slice a4 s.n.C.length q4)).setCell ⟨w.heap.size + 2, 6, none⟩ (.int .i64 s.n.e)).setCell ⟨w.heap.size + 2, 7, none⟩ (.int .i64 s.n.b)).setCell ⟨w.heap.size + 2, 8, none⟩ (.int .i64 s.n.k)).setCell ⟨w.heap.size + 2, 9, none⟩ (.slice a3 s.n.M.length q3)).setCell ⟨w.heap.size + 2, 10, none⟩ (.slice a4 s.n.C.length q4)).heap[w.heap.size + 2]? = some (.cells #[.int .i64 s.ep, .int .i64 s.n.e, .int .i64 s.n.b, .int .i64 s.n.k, .slice a3 s.n.M.length q3, .slice a4 s.n.C.length q4, .int .i64 s.n.e, .int .i64 s.n.b, .int .i64 s.n.k, .slice a3 s.n.M.length q3, .slice a4 s.n.C.length q4, .int .i64 0, .int .i64 0] 42) := heap_set_self g10 10 _
        have g12 : ((((((((((((w4.setCell ⟨w.heap.size + 2, 0, none⟩ (.int .i64 s.ep)).setCell ⟨w.heap.size + 2, 1, none⟩ (.int .i64 s.n.e)).setCell ⟨w.heap.size + 2, 2, none⟩ (.int .i64 s.n.b)).setCell ⟨w.heap.size + 2, 3, none⟩ (.int .i64 s.n.k)).setCell ⟨w.heap.size + 2, 4, none⟩ (.slice a3 s.n.M.length q3)).setCell ⟨w.heap.size + 2, 5, none⟩ (.slice a4 s.n.C.length q4)).setCell ⟨w.heap.size + 2, 6, none⟩ (.int .i64 s.n.e)).setCell ⟨w.heap.size + 2, 7, none⟩ (.int .i64 s.n.b)).setCell ⟨w.heap.size + 2, 8, none⟩ (.int .i64 s.n.k)).setCell ⟨w.heap.size + 2, 9, none⟩ (.slice a3 s.n.M.length q3)).setCell ⟨w.heap.size + 2, 10, none⟩ (.slice a4 s.n.C.length q4)).setCell ⟨w.heap.size + 2, 11, none⟩ (.int .i64 s.s0)).heap[w.heap.size + 2]? = some (.cells #[.int .i64 s.ep, .int .i64 s.n.e, .int .i64 s.n.b, .int .i64 s.n.k, .slice a3 s.n.M.length q3, .slice a4 s.n.C.length q4, .int .i64 s.n.e, .int .i64 s.n.b, .int .i64 s.n.k, .slice a3 s.n.M.length q3, .slice a4 s.n.C.length q4, .int .i64 s.s0, .int .i64 0] 42) := heap_set_self g11 11 _
        have g13 : (((((((((((((w4.setCell ⟨w.heap.size + 2, 0, none⟩ (.int .i64 s.ep)).setCell ⟨w.heap.size + 2, 1, none⟩ (.int .i64 s.n.e)).setCell ⟨w.heap.size + 2, 2, none⟩ (.int .i64 s.n.b)).setCell ⟨w.heap.size + 2, 3, none⟩ (.int .i64 s.n.k)).setCell ⟨w.heap.size + 2, 4, none⟩ (.slice a3 s.n.M.length q3)).setCell ⟨w.heap.size + 2, 5, none⟩ (.slice a4 s.n.C.length q4)).setCell ⟨w.heap.size + 2, 6, none⟩ (.int .i64 s.n.e)).setCell ⟨w.heap.size + 2, 7, none⟩ (.int .i64 s.n.b)).setCell ⟨w.heap.size + 2, 8, none⟩ (.int .i64 s.n.k)).setCell ⟨w.heap.size + 2, 9, none⟩ (.slice a3 s.n.M.length q3)).setCell ⟨w.heap.size + 2, 10, none⟩ (.slice a4 s.n.C.length q4)).setCell ⟨w.heap.size + 2, 11, none⟩ (.int .i64 s.s0)).setCell ⟨w.heap.size + 2, 12, none⟩ (.int .i64 s.s1)).heap[w.heap.size + 2]? = some (.cells #[.int .i64 s.ep, .int .i64 s.n.e, .int .i64 s.n.b, .int .i64 s.n.k, .slice a3 s.n.M.length q3, .slice a4 s.n.C.length q4, .int .i64 s.n.e, .int .i64 s.n.b, .int .i64 s.n.k, .slice a3 s.n.M.length q3, .slice a4 s.n.C.length q4, .int .i64 s.s0, .int .i64 s.s1] 42) := heap_set_self g12 12 _
        have gO : Only (w.heap.size + 2) w4 (((((((((((((w4.setCell ⟨w.heap.size + 2, 0, none⟩ (.int .i64 s.ep)).setCell ⟨w.heap.size + 2, 1, none⟩ (.int .i64 s.n.e)).setCell ⟨w.heap.size + 2, 2, none⟩ (.int .i64 s.n.b)).setCell ⟨w.heap.size + 2, 3, none⟩ (.int .i64 s.n.k)).setCell ⟨w.heap.size + 2, 4, none⟩ (.slice a3 s.n.M.length q3)).setCell ⟨w.heap.size + 2, 5, none⟩ (.slice a4 s.n.C.length q4)).setCell ⟨w.heap.size + 2, 6, none⟩ (.int .i64 s.n.e)).setCell ⟨w.heap.size + 2, 7, none⟩ (.int .i64 s.n.b)).setCell ⟨w.heap.size + 2, 8, none⟩ (.int .i64 s.n.k)).setCell ⟨w.heap.size + 2, 9, none⟩ (.slice a3 s.n.M.length q3)).setCell ⟨w.heap.size + 2, 10, none⟩ (.slice a4 s.n.C.length q4)).setCell ⟨w.heap.size + 2, 11, none⟩ (.int .i64 s.s0)).setCell ⟨w.heap.size + 2, 12, none⟩ (.int .i64 s.s1)) := (((((((((((((Only.refl _ _).set 0 _).set 1 _).set 2 _).set 3 _).set 4 _).set 5 _).set 6 _).set 7 _).set 8 _).set 9 _).set 10 _).set 11 _).set 12 _
        have HF := Lib.hid (And.intro g13 (HB4.out.bl.trans (gO.below (B := w.heap.size) (by omega) HB4.out.bl.size)))
        clear g1 g2 g3 g4 g5 g6 g7 g8 g9 g10 g11 g12 g13 gO
        go_wp2_with fail
        generalize (((((((((((((w4.setCell ⟨w.heap.size + 2, 0, none⟩ (.int .i64 s.ep)).setCell ⟨w.heap.size + 2, 1, none⟩ (.int .i64 s.n.e)).setCell ⟨w.heap.size + 2, 2, none⟩ (.int .i64 s.n.b)).setCell ⟨w.heap.size + 2, 3, none⟩ (.int .i64 s.n.k)).setCell ⟨w.heap.size + 2, 4, none⟩ (.slice a3 s.n.M.length q3)).setCell ⟨w.heap.size + 2, 5, none⟩ (.slice a4 s.n.C.length q4)).setCell ⟨w.heap.size + 2, 6, none⟩ (.int .i64 s.n.e)).setCell ⟨w.heap.size + 2, 7, none⟩ (.int .i64 s.n.b)).setCell ⟨w.heap.size + 2, 8, none⟩ (.int .i64 s.n.k)).setCell ⟨w.heap.size + 2, 9, none⟩ (.slice a3 s.n.M.length q3)).setCell ⟨w.heap.size + 2, 10, none⟩ (.slice a4 s.n.C.length q4)).setCell ⟨w.heap.size + 2, 11, none⟩ (.int .i64 s.s0)).setCell ⟨w.heap.size + 2, 12, none⟩ (.int .i64 s.s1)) = wf at *
        have fi := HF.out.1
        have t0 := cell_atD fi 0 (v := .int .i64 s.ep) rfl
        have t1 := cell_atD fi 1 (v := .int .i64 s.n.e) rfl
        have t2 := cell_atD fi 2 (v := .int .i64 s.n.b) rfl
        have t3 := cell_atD fi 3 (v := .int .i64 s.n.k) rfl
        have t4 := cell_atD fi 4 (v := .slice a3 s.n.M.length q3) rfl
        have t5 := cell_atD fi 5 (v := .slice a4 s.n.C.length q4) rfl
        have t6 := cell_atD fi 6 (v := .int .i64 s.n.e) rfl
        have t7 := cell_atD fi 7 (v := .int .i64 s.n.b) rfl
        have t8 := cell_atD fi 8 (v := .int .i64 s.n.k) rfl
        have t9 := cell_atD fi 9 (v := .slice a3 s.n.M.length q3) rfl
        have t10 := cell_atD fi 10 (v := .slice a4 s.n.C.length q4) rfl
        have t11 := cell_atD fi 11 (v := .int .i64 s.s0) rfl
        have t12 := cell_atD fi 12 (v := .int .i64 s.s1) rfl
        clear fi
        refine bodyPost_ret (v := .agg #[.int .i64 s.ep, .int .i64 s.n.e, .int .i64 s.n.b, .int .i64 s.n.k, .slice a3 s.n.M.length q3, .slice a4 s.n.C.length q4, .int .i64 s.n.e, .int .i64 s.n.b, .int .i64 s.n.k, .slice a3 s.n.M.length q3, .slice a4 s.n.C.length q4, .int .i64 s.s0, .int .i64 s.s1]) (by simp [results, Try.results14, go_sem, t0, t1, t2, t3, t4, t5, t6, t7, t8, t9, t10, t11, t12]) rfl ?_
        exact ⟨⟨s.ep, s.s0, s.s1, s.n, s.n⟩, a3, q3, a4, q4, a3, q3, a4, q4, rfl, ⟨HG.out.2.1, HG.out.2.1⟩, ⟨HS.out.2.2.1.1, HS.out.2.2.1.2.2.1, HS.out.2.2.1.2.2.1, HS.out.2.2.1.2.2.2.1, HS.out.2.2.1.2.2.2.2⟩, HF.out.2⟩
end Go.Proofs.Ytjaaddjbmimjoaa
