/-
  Several texts, laid together.
-/
import Derived.Test.YtjaaddjbmimjoaaMh33
import Derived.Test.YtjaaddjbmimjoaaMh25
import Derived.Test.YtjaaddjbmimjoaaMh22
import Derived.Test.YtjaaddjbmimjoaaMh36
/-
  DecideTakes' law, what it wants: two states that are the same; commands near what was drawn; a state behind one.
-/




namespace Go.Proofs.Ytjaaddjbmimjoaa
open Go.RowKit
set_option linter.unusedVariables false
set_option linter.unusedSimpArgs false

set_option maxHeartbeats 3200000 in
set_option maxRecDepth 100000 in
theorem rsst (s : DS) (a1 a2 a3 a4 d1 d2 d3 d4 : Option Addr) (q1 q2 q3 q4 r1 r2 r3 r4 : Nat) (w : World) (h1 : CFat s.a w (.slice a1 s.a.M.length q1) (.slice a2 s.a.C.length q2)) (h2 : CFat s.n w (.slice a3 s.n.M.length q3) (.slice a4 s.n.C.length q4)) (h3 : CFat s.a w (.slice d1 s.a.M.length r1) (.slice d2 s.a.C.length r2)) (h4 : CFat s.n w (.slice d3 s.n.M.length r3) (.slice d4 s.n.C.length r4)) :
    Calls Try.prog 19 #[.agg #[.int .i64 s.ep, .int .i64 s.a.e, .int .i64 s.a.b, .int .i64 s.a.k, .slice a1 s.a.M.length q1, .slice a2 s.a.C.length q2, .int .i64 s.n.e, .int .i64 s.n.b, .int .i64 s.n.k, .slice a3 s.n.M.length q3, .slice a4 s.n.C.length q4, .int .i64 s.s0, .int .i64 s.s1], .agg #[.int .i64 s.ep, .int .i64 s.a.e, .int .i64 s.a.b, .int .i64 s.a.k, .slice d1 s.a.M.length r1, .slice d2 s.a.C.length r2, .int .i64 s.n.e, .int .i64 s.n.b, .int .i64 s.n.k, .slice d3 s.n.M.length r3, .slice d4 s.n.C.length r4, .int .i64 s.s0, .int .i64 s.s1]] w fun ev w' => ev = .returned (.bool true) ∧ Below w.heap.size w w' := by
  obtain ⟨x0, x1, hb, hz⟩ := two_newD w (.cells #[.int .i64 s.ep, .int .i64 s.a.e, .int .i64 s.a.b, .int .i64 s.a.k, .slice a1 s.a.M.length q1, .slice a2 s.a.C.length q2, .int .i64 s.n.e, .int .i64 s.n.b, .int .i64 s.n.k, .slice a3 s.n.M.length q3, .slice a4 s.n.C.length q4, .int .i64 s.s0, .int .i64 s.s1] 42) (.cells #[.int .i64 s.ep, .int .i64 s.a.e, .int .i64 s.a.b, .int .i64 s.a.k, .slice d1 s.a.M.length r1, .slice d2 s.a.C.length r2, .int .i64 s.n.e, .int .i64 s.n.b, .int .i64 s.n.k, .slice d3 s.n.M.length r3, .slice d4 s.n.C.length r4, .int .i64 s.s0, .int .i64 s.s1] 42)
  have c1 := fun w h h' => rsameD s.a s.a a1 a2 d1 d2 q1 q2 r1 r2 w h h'
  have c2 := fun w h h' => rsameD s.n s.n a3 a4 d3 d4 q3 q4 r3 r4 w h h'
  simp only [sameC_self] at c1 c2
  have H := Lib.hid (And.intro x0 (And.intro x1 (And.intro hb (And.intro (CFat.below h1 hb) (And.intro (CFat.below h2 hb) (And.intro (CFat.below h3 hb) (CFat.below h4 hb)))))))
  clear x0 x1 hb hz h1 h2 h3 h4
  go_enter Try.func19, Try.ntmps19
  go_upto_region 1 with fail
  generalize (w.alloc (.cells #[.int .i64 s.ep, .int .i64 s.a.e, .int .i64 s.a.b, .int .i64 s.a.k, .slice a1 s.a.M.length q1, .slice a2 s.a.C.length q2, .int .i64 s.n.e, .int .i64 s.n.b, .int .i64 s.n.k, .slice a3 s.n.M.length q3, .slice a4 s.n.C.length q4, .int .i64 s.s0, .int .i64 s.s1] 42)).alloc (.cells #[.int .i64 s.ep, .int .i64 s.a.e, .int .i64 s.a.b, .int .i64 s.a.k, .slice d1 s.a.M.length r1, .slice d2 s.a.C.length r2, .int .i64 s.n.e, .int .i64 s.n.b, .int .i64 s.n.k, .slice d3 s.n.M.length r3, .slice d4 s.n.C.length r4, .int .i64 s.s0, .int .i64 s.s1] 42) = w1 at *
  have x0 := cell_atD H.out.1 0 (v := .int .i64 s.ep) rfl
  have x1 := cell_atD H.out.1 1 (v := .int .i64 s.a.e) rfl
  have x2 := cell_atD H.out.1 2 (v := .int .i64 s.a.b) rfl
  have x3 := cell_atD H.out.1 3 (v := .int .i64 s.a.k) rfl
  have x4 := cell_atD H.out.1 4 (v := .slice a1 s.a.M.length q1) rfl
  have x5 := cell_atD H.out.1 5 (v := .slice a2 s.a.C.length q2) rfl
  have x6 := cell_atD H.out.1 6 (v := .int .i64 s.n.e) rfl
  have x7 := cell_atD H.out.1 7 (v := .int .i64 s.n.b) rfl
  have x8 := cell_atD H.out.1 8 (v := .int .i64 s.n.k) rfl
  have x9 := cell_atD H.out.1 9 (v := .slice a3 s.n.M.length q3) rfl
  have x10 := cell_atD H.out.1 10 (v := .slice a4 s.n.C.length q4) rfl
  have x11 := cell_atD H.out.1 11 (v := .int .i64 s.s0) rfl
  have x12 := cell_atD H.out.1 12 (v := .int .i64 s.s1) rfl
  have y0 := cell_atD H.out.2.1 0 (v := .int .i64 s.ep) rfl
  have y1 := cell_atD H.out.2.1 1 (v := .int .i64 s.a.e) rfl
  have y2 := cell_atD H.out.2.1 2 (v := .int .i64 s.a.b) rfl
  have y3 := cell_atD H.out.2.1 3 (v := .int .i64 s.a.k) rfl
  have y4 := cell_atD H.out.2.1 4 (v := .slice d1 s.a.M.length r1) rfl
  have y5 := cell_atD H.out.2.1 5 (v := .slice d2 s.a.C.length r2) rfl
  have y6 := cell_atD H.out.2.1 6 (v := .int .i64 s.n.e) rfl
  have y7 := cell_atD H.out.2.1 7 (v := .int .i64 s.n.b) rfl
  have y8 := cell_atD H.out.2.1 8 (v := .int .i64 s.n.k) rfl
  have y9 := cell_atD H.out.2.1 9 (v := .slice d3 s.n.M.length r3) rfl
  have y10 := cell_atD H.out.2.1 10 (v := .slice d4 s.n.C.length r4) rfl
  have y11 := cell_atD H.out.2.1 11 (v := .int .i64 s.s0) rfl
  have y12 := cell_atD H.out.2.1 12 (v := .int .i64 s.s1) rfl
  have ci := c1 w1 H.out.2.2.2.1 H.out.2.2.2.2.2.1
  go_wp2_with fail
  refine Calls.mono ci ?_
  rintro ev w2 ⟨rfl, hb2⟩
  have H2 := Lib.hid (And.intro (below_at hb2 (lt_heap H.out.1) H.out.1) (And.intro (below_at hb2 (lt_heap H.out.2.1) H.out.2.1) (And.intro (H.out.2.2.1.trans (hb2.mono H.out.2.2.1.size)) (And.intro (CFat.below H.out.2.2.2.2.1 hb2) (CFat.below H.out.2.2.2.2.2.2 hb2)))))
  clear x0 x1 x2 x3 x4 x5 x6 x7 x8 x9 x10 x11 x12 y0 y1 y2 y3 y4 y5 y6 y7 y8 y9 y10 y11 y12 ci c1 hb2 H
  have x0 := cell_atD H2.out.1 0 (v := .int .i64 s.ep) rfl
  have x1 := cell_atD H2.out.1 1 (v := .int .i64 s.a.e) rfl
  have x2 := cell_atD H2.out.1 2 (v := .int .i64 s.a.b) rfl
  have x3 := cell_atD H2.out.1 3 (v := .int .i64 s.a.k) rfl
  have x4 := cell_atD H2.out.1 4 (v := .slice a1 s.a.M.length q1) rfl
  have x5 := cell_atD H2.out.1 5 (v := .slice a2 s.a.C.length q2) rfl
  have x6 := cell_atD H2.out.1 6 (v := .int .i64 s.n.e) rfl
  have x7 := cell_atD H2.out.1 7 (v := .int .i64 s.n.b) rfl
  have x8 := cell_atD H2.out.1 8 (v := .int .i64 s.n.k) rfl
  have x9 := cell_atD H2.out.1 9 (v := .slice a3 s.n.M.length q3) rfl
  have x10 := cell_atD H2.out.1 10 (v := .slice a4 s.n.C.length q4) rfl
  have x11 := cell_atD H2.out.1 11 (v := .int .i64 s.s0) rfl
  have x12 := cell_atD H2.out.1 12 (v := .int .i64 s.s1) rfl
  have y0 := cell_atD H2.out.2.1 0 (v := .int .i64 s.ep) rfl
  have y1 := cell_atD H2.out.2.1 1 (v := .int .i64 s.a.e) rfl
  have y2 := cell_atD H2.out.2.1 2 (v := .int .i64 s.a.b) rfl
  have y3 := cell_atD H2.out.2.1 3 (v := .int .i64 s.a.k) rfl
  have y4 := cell_atD H2.out.2.1 4 (v := .slice d1 s.a.M.length r1) rfl
  have y5 := cell_atD H2.out.2.1 5 (v := .slice d2 s.a.C.length r2) rfl
  have y6 := cell_atD H2.out.2.1 6 (v := .int .i64 s.n.e) rfl
  have y7 := cell_atD H2.out.2.1 7 (v := .int .i64 s.n.b) rfl
  have y8 := cell_atD H2.out.2.1 8 (v := .int .i64 s.n.k) rfl
  have y9 := cell_atD H2.out.2.1 9 (v := .slice d3 s.n.M.length r3) rfl
  have y10 := cell_atD H2.out.2.1 10 (v := .slice d4 s.n.C.length r4) rfl
  have y11 := cell_atD H2.out.2.1 11 (v := .int .i64 s.s0) rfl
  have y12 := cell_atD H2.out.2.1 12 (v := .int .i64 s.s1) rfl
  have ci := c2 w2 H2.out.2.2.2.1 H2.out.2.2.2.2
  go_wp2_with fail
  refine Calls.mono ci ?_
  rintro ev w3 ⟨rfl, hb3⟩
  have HF := Lib.hid (H2.out.2.2.1.trans (hb3.mono H2.out.2.2.1.size))
  clear x0 x1 x2 x3 x4 x5 x6 x7 x8 x9 x10 x11 x12 y0 y1 y2 y3 y4 y5 y6 y7 y8 y9 y10 y11 y12 ci c2 hb3 H2
  go_wp2_with fail
  go_ret
  exact ⟨by simp, HF.out⟩
/-- the lists of a configuration, none of them in block K -/
def LG (K : Nat) (w : World) (v1 v2 : Value) (M C : List Int) : Prop := LR (fun b => b ≠ K) w v1 M ∧ LR (fun b => b ≠ K) w v2 C
theorem LG.below {K : Nat} {w w' : World} {v1 v2 : Value} {M C : List Int} (h : LG K w v1 v2 M C) (hb : Below w.heap.size w w') : LG K w' v1 v2 M C := ⟨h.1.below hb, h.2.below hb⟩
theorem LG.over {K : Nat} {w w' : World} {v1 v2 : Value} {M C : List Int} (h : LG K w v1 v2 M C) (ho : Only K w w') : LG K w' v1 v2 M C := ⟨h.1.over ho, h.2.over ho⟩
theorem LG.cf {K : Nat} {w : World} {c : CF} {v1 v2 : Value} (h : LG K w v1 v2 c.M c.C) : CFat c w v1 v2 := ⟨h.1.1, h.2.1⟩
def N12K (K : Nat) (w : World) (ev : Ending) (w' : World) : Prop :=
  ∃ (y : Int) (d : CF) (a1 : Option Addr) (p1 : Nat) (a2 : Option Addr) (p2 : Nat), ev = .returned (.agg #[.int .i64 y, .int .i64 d.e, .int .i64 d.b, .int .i64 d.k, .slice a1 d.M.length p1, .slice a2 d.C.length p2]) ∧ LG K w' (.slice a1 d.M.length p1) (.slice a2 d.C.length p2) d.M d.C ∧ Below w.heap.size w w'
theorem near12K (r : RC) (odd : Int) (hodd : odd % 32 ≠ 31) (K : Nat) (w : World) (hK : K < w.heap.size) (h : r.at_ w) :
    Calls Try.prog 7 #[.agg #[.int .i64 r.x, .int .i64 r.c.e, .int .i64 r.c.b, .int .i64 r.c.k, .slice r.a5 r.c.M.length r.q5, .slice r.a6 r.c.C.length r.q6], .int .i64 odd] w (N12K K w) := by
  refine (near12F r.x r.c odd hodd r.a5 r.a6 r.q5 r.q6 w h).mono ?_
  rintro ev w' ⟨y, de, db, dk, n1, n2, a1, p1, a2, p2, rfl, h1, hb⟩
  obtain ⟨M, C, rfl, ⟨rfl, -, -⟩, s1, s2, o1, o2⟩ := h1
  exact ⟨y, ⟨de, db, dk, M, C⟩, a1, p1, a2, p2, rfl, ⟨lr_ne rfl s1 fun b e => by have := o1 b e; omega, lr_ne rfl s2 fun b e => by have := o2 b e; omega⟩, hb⟩
def D12K (K : Nat) (w : World) (ev : Ending) (w' : World) : Prop :=
  ∃ (s : DS) (a1 : Option Addr) (q1 : Nat) (a2 : Option Addr) (q2 : Nat) (a3 : Option Addr) (q3 : Nat) (a4 : Option Addr) (q4 : Nat), ev = .returned (.agg #[.int .i64 s.ep, .int .i64 s.a.e, .int .i64 s.a.b, .int .i64 s.a.k, .slice a1 s.a.M.length q1, .slice a2 s.a.C.length q2, .int .i64 s.n.e, .int .i64 s.n.b, .int .i64 s.n.k, .slice a3 s.n.M.length q3, .slice a4 s.n.C.length q4, .int .i64 s.s0, .int .i64 s.s1]) ∧ LG K w' (.slice a1 s.a.M.length q1) (.slice a2 s.a.C.length q2) s.a.M s.a.C ∧ LG K w' (.slice a3 s.n.M.length q3) (.slice a4 s.n.C.length q4) s.n.M s.n.C ∧ LowS s ∧ Below w.heap.size w w'
theorem do12K (s : DS) (x : Int) (c : CF) (a1 a2 a3 a4 b1 b2 : Option Addr) (q1 q2 q3 q4 p1 p2 : Nat) (K : Nat) (w : World) (ha : LG K w (.slice a1 s.a.M.length q1) (.slice a2 s.a.C.length q2) s.a.M s.a.C) (hn : LG K w (.slice a3 s.n.M.length q3) (.slice a4 s.n.C.length q4) s.n.M s.n.C) (hc : LG K w (.slice b1 c.M.length p1) (.slice b2 c.C.length p2) c.M c.C) (hs : LowS s) :
    Calls Try.prog 14 #[.agg #[.int .i64 s.ep, .int .i64 s.a.e, .int .i64 s.a.b, .int .i64 s.a.k, .slice a1 s.a.M.length q1, .slice a2 s.a.C.length q2, .int .i64 s.n.e, .int .i64 s.n.b, .int .i64 s.n.k, .slice a3 s.n.M.length q3, .slice a4 s.n.C.length q4, .int .i64 s.s0, .int .i64 s.s1], .agg #[.int .i64 x, .int .i64 c.e, .int .i64 c.b, .int .i64 c.k, .slice b1 c.M.length p1, .slice b2 c.C.length p2]] w (D12K K w) := by
  refine (rdo12 s x c a1 a2 a3 a4 b1 b2 q1 q2 q3 q4 p1 p2 w ha.cf hn.cf hc.cf hs (LG K w) ha hn hc).mono ?_
  rintro ev w' ⟨s', a1, q1, a2, q2, a3, q3, a4, q4, rfl, ⟨g1, g2⟩, hl, hb⟩
  exact ⟨s', a1, q1, a2, q2, a3, q3, a4, q4, rfl, g1.below hb, g2.below hb, hl, hb⟩
def confShK : Sh := .two (.int .i64) (.two (.int .i64) (.two (.int .i64) (.two (.slice (.int .i64)) (.two (.slice (.int .i64)) .unit))))
def cmdShK : Sh := .two (.int .i64) (.two confShK .unit)
theorem fits_intsK {w : World} {a : Option Addr} {len cap : Nat} (h : Fits w (.slice (.int .i64)) [.slice a len cap]) : ∃ l : List Int, l.length = len ∧ SR w (.slice a len cap) 1 l.length (nCells l) := by
  obtain ⟨h1, h2, h3⟩ := h.slice
  rcases h3 with h0 | ⟨b, off, rfl, hb, he⟩
  · subst h0
    exact ⟨[], rfl, a, cap, rfl, h1, h2, rfl, .inl rfl⟩
  · refine ⟨(List.range len).map fun i => match w.cell? ⟨b, off + i, none⟩ with | some (.int _ z) => z | _ => 0, by simp, ?_⟩
    refine ⟨_, cap, by simp, by simpa using h1, h2, by simp [nCells], .inr ⟨b, off, rfl, hb, fun j u hj => ?_⟩⟩
    have hjl : j < len := by
      have := (List.getElem?_eq_some_iff.1 hj).1
      simpa [nCells] using this
    obtain ⟨ys, hl, hc, z, rfl, -⟩ := he j hjl
    have hcell : w.cell? ⟨b, off + j, none⟩ = some (.int .i64 z) := by simpa [Sh.size] using hc 0 _ rfl
    rw [hcell, ← hj]
    simp [nCells, hjl, hcell]
theorem fits_rcK {w : World} {ys : List Value} (h : Fits w cmdShK ys) : ∃ r : RC, ys = r.cells ∧ r.at_ w := by
  obtain ⟨x, y, rfl, ⟨z, rfl, -⟩, x1, y1, rfl, h1, rfl⟩ := h
  obtain ⟨_, _, rfl, ⟨e, rfl, -⟩, _, _, rfl, ⟨b, rfl, -⟩, _, _, rfl, ⟨k, rfl, -⟩, x3, _, rfl, h3, x4, _, rfl, h4, rfl⟩ := h1
  obtain ⟨ma, ml, mc, rfl, -⟩ := id h3
  obtain ⟨ca, cl, cc, rfl, -⟩ := id h4
  obtain ⟨M, rfl, hM⟩ := fits_intsK h3
  obtain ⟨C, rfl, hC⟩ := fits_intsK h4
  exact ⟨⟨z, ⟨e, b, k, M, C⟩, ma, mc, ca, cc⟩, rfl, hM, hC⟩
/-- what is taken without an error may be put -/
theorem cmd_may (q : RS) (h : q.cmdS.e = 0) : mayK q.cmdK q.cmdV = true := by
  have hm : mayK (q.numV 2) q.cmdC = true := by
    rcases hx : mayK (q.numV 2) q.cmdC with _ | _
    · exfalso
      unfold RS.cmdS at h
      rw [hx, if_neg (by decide)] at h
      by_cases h1 : q.cmdS1.e = 0
      · rw [fail_off h1 3 (by decide)] at h
        exact absurd h (by decide)
      · rw [fail_on h1] at h
        exact h1 h
    · rfl
  have h0 : ¬ q.cmdS.e ≠ 0 := by simpa using h
  rw [RS.cmdK, if_neg h0, RS.cmdV, if_neg h0]
  exact hm
end Go.Proofs.Ytjaaddjbmimjoaa
