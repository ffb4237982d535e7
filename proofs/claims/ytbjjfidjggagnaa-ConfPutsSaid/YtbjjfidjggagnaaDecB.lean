/-
  States copied: own.State.
-/
import Derived.Test.YtbjjfidjggagnaaDec
namespace Go.Proofs.Ytbjjfidjggagnaa
open Go.RowKit
set_option linter.unusedVariables false
set_option linter.unusedSimpArgs false

/-- a configuration's numbers and lists -/
structure CF where
  e : Int
  b : Int
  k : Int
  M : List Int
  C : List Int
def CF.z : CF := ⟨0, 0, 0, [], []⟩
/-- a state: its epoch, what is seen, the configuration that works, the next one -/
structure DS where
  ep : Int
  s0 : Int
  s1 : Int
  a : CF
  n : CF
def DS.z : DS := ⟨0, 0, 0, .z, .z⟩
/-- the two lists of a configuration lie so -/
def CFat (c : CF) (w : World) (v1 v2 : Value) : Prop := SR w v1 1 c.M.length (nCells c.M) ∧ SR w v2 1 c.C.length (nCells c.C)
theorem CFat.below {c : CF} {w w' : World} {v1 v2 : Value} (h : CFat c w v1 v2) (hb : Below w.heap.size w w') : CFat c w' v1 v2 := ⟨h.1.below hb, h.2.below hb⟩
theorem CFat.form {c : CF} {w : World} {v1 v2 : Value} (h : CFat c w v1 v2) : ∃ a1 q1 a2 q2, v1 = .slice a1 c.M.length q1 ∧ v2 = .slice a2 c.C.length q2 := by
  obtain ⟨a1, q1, e1, -⟩ := h.1.form
  obtain ⟨a2, q2, e2, -⟩ := h.2.form
  exact ⟨a1, q1, a2, q2, e1, e2⟩
def stA (ep : Int) (a : CF) (v1 v2 : Value) (n : CF) (v3 v4 : Value) (s0 s1 : Int) : Array Value :=
  #[.int .i64 ep, .int .i64 a.e, .int .i64 a.b, .int .i64 a.k, v1, v2, .int .i64 n.e, .int .i64 n.b, .int .i64 n.k, v3, v4, .int .i64 s0, .int .i64 s1]
def short (c : CF) : Prop := c.M.length ≤ 1000 ∧ c.C.length ≤ 1000
/-- a value is a state in this world -/
def SV (s : DS) (w : World) (v : Value) : Prop :=
  ∃ v1 v2 v3 v4, v = .agg (stA s.ep s.a v1 v2 s.n v3 v4 s.s0 s.s1) ∧ CFat s.a w v1 v2 ∧ CFat s.n w v3 v4 ∧ short s.a ∧ short s.n
theorem SV.below {s : DS} {w w' : World} {v : Value} (h : SV s w v) (hb : Below w.heap.size w w') : SV s w' v := by
  obtain ⟨v1, v2, v3, v4, rfl, h1, h2, h3⟩ := h
  exact ⟨v1, v2, v3, v4, rfl, h1.below hb, h2.below hb, h3⟩
def CFO (c : CF) (base : Nat) (w : World) (v1 v2 : Value) : Prop := CO c.M c.C base w v1 v2
theorem CFO.at_ {c : CF} {base : Nat} {w : World} {v1 v2 : Value} (h : CFO c base w v1 v2) : CFat c w v1 v2 := ⟨SR.owns h.1, SR.owns h.2⟩
theorem CFO.only {c : CF} {base y : Nat} {w w' : World} {v1 v2 : Value} (h : CFO c base w v1 v2) (ho : Only y w w') (hy : y < base) : CFO c base w' v1 v2 := ⟨own_onlyD h.1 ho hy, own_onlyD h.2 ho hy⟩
theorem CFO.below {c : CF} {base : Nat} {w w' : World} {v1 v2 : Value} (h : CFO c base w v1 v2) (hb : Below w.heap.size w w') : CFO c base w' v1 v2 := ⟨owns_below h.1 hb, owns_below h.2 hb⟩
/-- the same, its lists in rows from so far on -/
def SVB (s : DS) (base : Nat) (w : World) (v : Value) : Prop :=
  ∃ v1 v2 v3 v4, v = .agg (stA s.ep s.a v1 v2 s.n v3 v4 s.s0 s.s1) ∧ CFO s.a base w v1 v2 ∧ CFO s.n base w v3 v4 ∧ short s.a ∧ short s.n
theorem SVB.sv {s : DS} {base : Nat} {w : World} {v : Value} (h : SVB s base w v) : SV s w v := by
  obtain ⟨v1, v2, v3, v4, rfl, h1, h2, h3⟩ := h
  exact ⟨v1, v2, v3, v4, rfl, h1.at_, h2.at_, h3⟩
theorem SVB.below {s : DS} {base : Nat} {w w' : World} {v : Value} (h : SVB s base w v) (hb : Below w.heap.size w w') : SVB s base w' v := by
  obtain ⟨v1, v2, v3, v4, rfl, h1, h2, h3⟩ := h
  exact ⟨v1, v2, v3, v4, rfl, h1.below hb, h2.below hb, h3⟩
theorem SVB.only {s : DS} {base y : Nat} {w w' : World} {v : Value} (h : SVB s base w v) (ho : Only y w w') (hy : y < base) : SVB s base w' v := by
  obtain ⟨v1, v2, v3, v4, rfl, h1, h2, h3⟩ := h
  exact ⟨v1, v2, v3, v4, rfl, h1.only ho hy, h2.only ho hy, h3⟩
theorem CFO.base {c : CF} {base base' : Nat} {w : World} {v1 v2 : Value} (h : CFO c base w v1 v2) (hb : base' ≤ base) : CFO c base' w v1 v2 := ⟨owns_baseD h.1 hb, owns_baseD h.2 hb⟩
theorem oconf' (c : CF) (v1 v2 : Value) (w : World) (h : CFat c w v1 v2) (hs : short c) :
    Calls Try.prog 100 #[.agg #[.int .i64 c.e, .int .i64 c.b, .int .i64 c.k, v1, v2]] w fun ev w' => ∃ a1 q1 a2 q2, ev = .returned (.agg #[.int .i64 c.e, .int .i64 c.b, .int .i64 c.k, .slice a1 c.M.length q1, .slice a2 c.C.length q2]) ∧ CFO c w.heap.size w' (.slice a1 c.M.length q1) (.slice a2 c.C.length q2) ∧ Below w.heap.size w w' := by
  refine (oconf c.e c.b c.k v1 v2 c.M c.C w h.1 h.2 hs.1 hs.2).mono ?_
  rintro ev w' ⟨u1, u2, rfl, h1, hb⟩
  obtain ⟨a1, q1, rfl⟩ := owns_form h1.1
  obtain ⟨a2, q2, rfl⟩ := owns_form h1.2
  exact ⟨a1, q1, a2, q2, rfl, h1, hb⟩
set_option maxHeartbeats 6400000 in
set_option maxRecDepth 40000 in
theorem ostate (s : DS) (v : Value) (w : World) (h : SV s w v) :
    Calls Try.prog 97 #[v] w fun ev w' => ∃ v', ev = .returned v' ∧ SVB s w.heap.size w' v' ∧ Below w.heap.size w w' := by
  obtain ⟨v1, v2, v3, v4, rfl, h1, h2, h3, h4⟩ := h
  obtain ⟨a1, q1, a2, q2, rfl, rfl⟩ := h1.form
  obtain ⟨a3, q3, a4, q4, rfl, rfl⟩ := h2.form
  have hx := alloc_far (o := .cells #[.int .i64 0, .int .i64 0, .int .i64 0, .int .i64 0, .slice none 0 0, .slice none 0 0, .int .i64 0, .int .i64 0, .int .i64 0, .slice none 0 0, .slice none 0 0, .int .i64 0, .int .i64 0] 50) (heap_alloc_self w (.cells #[.int .i64 s.ep, .int .i64 s.a.e, .int .i64 s.a.b, .int .i64 s.a.k, .slice a1 s.a.M.length q1, .slice a2 s.a.C.length q2, .int .i64 s.n.e, .int .i64 s.n.b, .int .i64 s.n.k, .slice a3 s.n.M.length q3, .slice a4 s.n.C.length q4, .int .i64 s.s0, .int .i64 s.s1] 50))
  have hy := heap_alloc_self (w.alloc (.cells #[.int .i64 s.ep, .int .i64 s.a.e, .int .i64 s.a.b, .int .i64 s.a.k, .slice a1 s.a.M.length q1, .slice a2 s.a.C.length q2, .int .i64 s.n.e, .int .i64 s.n.b, .int .i64 s.n.k, .slice a3 s.n.M.length q3, .slice a4 s.n.C.length q4, .int .i64 s.s0, .int .i64 s.s1] 50)) (.cells #[.int .i64 0, .int .i64 0, .int .i64 0, .int .i64 0, .slice none 0 0, .slice none 0 0, .int .i64 0, .int .i64 0, .int .i64 0, .slice none 0 0, .slice none 0 0, .int .i64 0, .int .i64 0] 50)
  have hz : (w.alloc (.cells #[.int .i64 s.ep, .int .i64 s.a.e, .int .i64 s.a.b, .int .i64 s.a.k, .slice a1 s.a.M.length q1, .slice a2 s.a.C.length q2, .int .i64 s.n.e, .int .i64 s.n.b, .int .i64 s.n.k, .slice a3 s.n.M.length q3, .slice a4 s.n.C.length q4, .int .i64 s.s0, .int .i64 s.s1] 50)).heap.size = w.heap.size + 1 := by simp
  have hz2 : ((w.alloc (.cells #[.int .i64 s.ep, .int .i64 s.a.e, .int .i64 s.a.b, .int .i64 s.a.k, .slice a1 s.a.M.length q1, .slice a2 s.a.C.length q2, .int .i64 s.n.e, .int .i64 s.n.b, .int .i64 s.n.k, .slice a3 s.n.M.length q3, .slice a4 s.n.C.length q4, .int .i64 s.s0, .int .i64 s.s1] 50)).alloc (.cells #[.int .i64 0, .int .i64 0, .int .i64 0, .int .i64 0, .slice none 0 0, .slice none 0 0, .int .i64 0, .int .i64 0, .int .i64 0, .slice none 0 0, .slice none 0 0, .int .i64 0, .int .i64 0] 50)).heap.size = w.heap.size + 2 := by simp
  have hb : Below w.heap.size w ((w.alloc (.cells #[.int .i64 s.ep, .int .i64 s.a.e, .int .i64 s.a.b, .int .i64 s.a.k, .slice a1 s.a.M.length q1, .slice a2 s.a.C.length q2, .int .i64 s.n.e, .int .i64 s.n.b, .int .i64 s.n.k, .slice a3 s.n.M.length q3, .slice a4 s.n.C.length q4, .int .i64 s.s0, .int .i64 s.s1] 50)).alloc (.cells #[.int .i64 0, .int .i64 0, .int .i64 0, .int .i64 0, .slice none 0 0, .slice none 0 0, .int .i64 0, .int .i64 0, .int .i64 0, .slice none 0 0, .slice none 0 0, .int .i64 0, .int .i64 0] 50)) := ((Below.refl _ _).alloc (Nat.le_refl _) _).alloc (by simp) _
  rw [hz] at hy
  unfold stA
  go_enter Try.func97, Try.ntmps97
  go_upto_region 1 with fail
  generalize (w.alloc (.cells #[.int .i64 s.ep, .int .i64 s.a.e, .int .i64 s.a.b, .int .i64 s.a.k, .slice a1 s.a.M.length q1, .slice a2 s.a.C.length q2, .int .i64 s.n.e, .int .i64 s.n.b, .int .i64 s.n.k, .slice a3 s.n.M.length q3, .slice a4 s.n.C.length q4, .int .i64 s.s0, .int .i64 s.s1] 50)).alloc (.cells #[.int .i64 0, .int .i64 0, .int .i64 0, .int .i64 0, .slice none 0 0, .slice none 0 0, .int .i64 0, .int .i64 0, .int .i64 0, .slice none 0 0, .slice none 0 0, .int .i64 0, .int .i64 0] 50) = w1 at *
  have HX := Lib.hid (And.intro hx (And.intro hy (And.intro hb hz2)))
  have d0 := cell_atD hx 0 (v := .int .i64 s.ep) rfl
  have d1 := cell_atD hx 1 (v := .int .i64 s.a.e) rfl
  have d2 := cell_atD hx 2 (v := .int .i64 s.a.b) rfl
  have d3 := cell_atD hx 3 (v := .int .i64 s.a.k) rfl
  have d4 := cell_atD hx 4 (v := .slice a1 s.a.M.length q1) rfl
  have d5 := cell_atD hx 5 (v := .slice a2 s.a.C.length q2) rfl
  have d6 := cell_atD hx 6 (v := .int .i64 s.n.e) rfl
  have d7 := cell_atD hx 7 (v := .int .i64 s.n.b) rfl
  have d8 := cell_atD hx 8 (v := .int .i64 s.n.k) rfl
  have d9 := cell_atD hx 9 (v := .slice a3 s.n.M.length q3) rfl
  have d10 := cell_atD hx 10 (v := .slice a4 s.n.C.length q4) rfl
  have d11 := cell_atD hx 11 (v := .int .i64 s.s0) rfl
  have d12 := cell_atD hx 12 (v := .int .i64 s.s1) rfl
  have c1 := oconf' s.a _ _ w1 (h1.below hb) h3
  clear hx hy hb hz hz2
  go_wp2_with fail
  refine Calls.mono c1 ?_
  rintro ev w2 ⟨a5, q5, a6, q6, rfl, ho, hb2⟩
  clear d0 d1 d2 d3 d4 d5 d6 d7 d8 d9 d10 d11 d12
  clear c1
  obtain ⟨hx, hy, hb, hz2⟩ := HX.out
  rw [hz2] at ho
  have hx2 := below_at hb2 (lt_heap hx) hx
  have hy2 := below_at hb2 (lt_heap hy) hy
  have hs2 : w.heap.size + 2 ≤ w2.heap.size := by have := hb2.size; omega
  have hbb : Below w.heap.size w w2 := hb.trans (hb2.mono (by omega))
  have f2 : ∀ i, w2.frozen? ⟨w.heap.size, i, none⟩ = false := fun i => by simp [World.frozen?, hx2]
  have d0 := cell_atD hx2 0 (v := .int .i64 s.ep) rfl
  have d1 := cell_atD hx2 1 (v := .int .i64 s.a.e) rfl
  have d2 := cell_atD hx2 2 (v := .int .i64 s.a.b) rfl
  have d3 := cell_atD hx2 3 (v := .int .i64 s.a.k) rfl
  have d4 := cell_atD hx2 4 (v := .slice a1 s.a.M.length q1) rfl
  have d5 := cell_atD hx2 5 (v := .slice a2 s.a.C.length q2) rfl
  have d6 := cell_atD hx2 6 (v := .int .i64 s.n.e) rfl
  have d7 := cell_atD hx2 7 (v := .int .i64 s.n.b) rfl
  have d8 := cell_atD hx2 8 (v := .int .i64 s.n.k) rfl
  have d9 := cell_atD hx2 9 (v := .slice a3 s.n.M.length q3) rfl
  have d10 := cell_atD hx2 10 (v := .slice a4 s.n.C.length q4) rfl
  have d11 := cell_atD hx2 11 (v := .int .i64 s.s0) rfl
  have d12 := cell_atD hx2 12 (v := .int .i64 s.s1) rfl
  have FI := Lib.hid (show (((((w2.setCell ⟨w.heap.size, 1, none⟩ (.int .i64 s.a.e)).setCell ⟨w.heap.size, 2, none⟩ (.int .i64 s.a.b)).setCell ⟨w.heap.size, 3, none⟩ (.int .i64 s.a.k)).setCell ⟨w.heap.size, 4, none⟩ (.slice a5 s.a.M.length q5)).setCell ⟨w.heap.size, 5, none⟩ (.slice a6 s.a.C.length q6)).heap[w.heap.size]? = some (.cells #[.int .i64 s.ep, .int .i64 s.a.e, .int .i64 s.a.b, .int .i64 s.a.k, .slice a5 s.a.M.length q5, .slice a6 s.a.C.length q6, .int .i64 s.n.e, .int .i64 s.n.b, .int .i64 s.n.k, .slice a3 s.n.M.length q3, .slice a4 s.n.C.length q4, .int .i64 s.s0, .int .i64 s.s1] 50) from heap_set_self (heap_set_self (heap_set_self (heap_set_self (heap_set_self hx2 1 _) 2 _) 3 _) 4 _) 5 _)
  have FO := Lib.hid (show Only w.heap.size w2 (((((w2.setCell ⟨w.heap.size, 1, none⟩ (.int .i64 s.a.e)).setCell ⟨w.heap.size, 2, none⟩ (.int .i64 s.a.b)).setCell ⟨w.heap.size, 3, none⟩ (.int .i64 s.a.k)).setCell ⟨w.heap.size, 4, none⟩ (.slice a5 s.a.M.length q5)).setCell ⟨w.heap.size, 5, none⟩ (.slice a6 s.a.C.length q6)) from ((((((Only.refl _ _).set 1 _).set 2 _).set 3 _).set 4 _).set 5 _))
  have HY := Lib.hid (And.intro hy2 (And.intro hbb (And.intro hs2 ho)))
  clear hx hy hb hz2 HX hx2 hy2 hs2 hbb ho hb2
  go_upto_region 2 with fail
  generalize (((((w2.setCell ⟨w.heap.size, 1, none⟩ (.int .i64 s.a.e)).setCell ⟨w.heap.size, 2, none⟩ (.int .i64 s.a.b)).setCell ⟨w.heap.size, 3, none⟩ (.int .i64 s.a.k)).setCell ⟨w.heap.size, 4, none⟩ (.slice a5 s.a.M.length q5)).setCell ⟨w.heap.size, 5, none⟩ (.slice a6 s.a.C.length q6)) = w3 at *
  clear d0 d1 d2 d3 d4 d5 d6 d7 d8 d9 d10 d11 d12
  clear f2
  obtain ⟨hy2, hbb, hs2, ho⟩ := HY.out
  have hx := FI.out
  have hy : w3.heap[w.heap.size + 1]? = some _ := (FO.out.block _ (lt_heap hy2) (by omega)).trans hy2
  have hb : Below w.heap.size w w3 := hbb.trans (FO.out.below (B := w.heap.size) (by omega) (by omega))
  have ho3 := ho.only FO.out (by omega)
  have hs3 : w.heap.size + 2 ≤ w3.heap.size := by have := FO.out.size; omega
  have d0 := cell_atD hx 0 (v := .int .i64 s.ep) rfl
  have d1 := cell_atD hx 1 (v := .int .i64 s.a.e) rfl
  have d2 := cell_atD hx 2 (v := .int .i64 s.a.b) rfl
  have d3 := cell_atD hx 3 (v := .int .i64 s.a.k) rfl
  have d4 := cell_atD hx 4 (v := .slice a5 s.a.M.length q5) rfl
  have d5 := cell_atD hx 5 (v := .slice a6 s.a.C.length q6) rfl
  have d6 := cell_atD hx 6 (v := .int .i64 s.n.e) rfl
  have d7 := cell_atD hx 7 (v := .int .i64 s.n.b) rfl
  have d8 := cell_atD hx 8 (v := .int .i64 s.n.k) rfl
  have d9 := cell_atD hx 9 (v := .slice a3 s.n.M.length q3) rfl
  have d10 := cell_atD hx 10 (v := .slice a4 s.n.C.length q4) rfl
  have d11 := cell_atD hx 11 (v := .int .i64 s.s0) rfl
  have d12 := cell_atD hx 12 (v := .int .i64 s.s1) rfl
  have c2 := oconf' s.n _ _ w3 (h2.below hb) h4
  have HX := Lib.hid (And.intro hx (And.intro hy (And.intro hb (And.intro ho3 hs3))))
  clear hy2 hbb hs2 ho hx hy hb ho3 hs3 FI FO HY
  go_wp2_with fail
  refine Calls.mono c2 ?_
  rintro ev w4 ⟨a7, q7, a8, q8, rfl, ho4, hb4⟩
  clear d0 d1 d2 d3 d4 d5 d6 d7 d8 d9 d10 d11 d12
  clear c2
  obtain ⟨hx, hy, hb, ho3, hs3⟩ := HX.out
  have hx4 := below_at hb4 (lt_heap hx) hx
  have hy4 := below_at hb4 (lt_heap hy) hy
  have hs4 : w.heap.size + 2 ≤ w4.heap.size := by have := hb4.size; omega
  have hbb : Below w.heap.size w w4 := hb.trans (hb4.mono (by omega))
  have ho5 := ho3.below hb4
  have ho6 := ho4.base hs3
  have f4 : ∀ i, w4.frozen? ⟨w.heap.size, i, none⟩ = false := fun i => by simp [World.frozen?, hx4]
  have d0 := cell_atD hx4 0 (v := .int .i64 s.ep) rfl
  have d1 := cell_atD hx4 1 (v := .int .i64 s.a.e) rfl
  have d2 := cell_atD hx4 2 (v := .int .i64 s.a.b) rfl
  have d3 := cell_atD hx4 3 (v := .int .i64 s.a.k) rfl
  have d4 := cell_atD hx4 4 (v := .slice a5 s.a.M.length q5) rfl
  have d5 := cell_atD hx4 5 (v := .slice a6 s.a.C.length q6) rfl
  have d6 := cell_atD hx4 6 (v := .int .i64 s.n.e) rfl
  have d7 := cell_atD hx4 7 (v := .int .i64 s.n.b) rfl
  have d8 := cell_atD hx4 8 (v := .int .i64 s.n.k) rfl
  have d9 := cell_atD hx4 9 (v := .slice a3 s.n.M.length q3) rfl
  have d10 := cell_atD hx4 10 (v := .slice a4 s.n.C.length q4) rfl
  have d11 := cell_atD hx4 11 (v := .int .i64 s.s0) rfl
  have d12 := cell_atD hx4 12 (v := .int .i64 s.s1) rfl
  have FI := Lib.hid (show (((((w4.setCell ⟨w.heap.size, 6, none⟩ (.int .i64 s.n.e)).setCell ⟨w.heap.size, 7, none⟩ (.int .i64 s.n.b)).setCell ⟨w.heap.size, 8, none⟩ (.int .i64 s.n.k)).setCell ⟨w.heap.size, 9, none⟩ (.slice a7 s.n.M.length q7)).setCell ⟨w.heap.size, 10, none⟩ (.slice a8 s.n.C.length q8)).heap[w.heap.size]? = some (.cells #[.int .i64 s.ep, .int .i64 s.a.e, .int .i64 s.a.b, .int .i64 s.a.k, .slice a5 s.a.M.length q5, .slice a6 s.a.C.length q6, .int .i64 s.n.e, .int .i64 s.n.b, .int .i64 s.n.k, .slice a7 s.n.M.length q7, .slice a8 s.n.C.length q8, .int .i64 s.s0, .int .i64 s.s1] 50) from heap_set_self (heap_set_self (heap_set_self (heap_set_self (heap_set_self hx4 6 _) 7 _) 8 _) 9 _) 10 _)
  have FO := Lib.hid (show Only w.heap.size w4 (((((w4.setCell ⟨w.heap.size, 6, none⟩ (.int .i64 s.n.e)).setCell ⟨w.heap.size, 7, none⟩ (.int .i64 s.n.b)).setCell ⟨w.heap.size, 8, none⟩ (.int .i64 s.n.k)).setCell ⟨w.heap.size, 9, none⟩ (.slice a7 s.n.M.length q7)).setCell ⟨w.heap.size, 10, none⟩ (.slice a8 s.n.C.length q8)) from ((((((Only.refl _ _).set 6 _).set 7 _).set 8 _).set 9 _).set 10 _))
  have HY := Lib.hid (And.intro hy4 (And.intro hbb (And.intro hs4 (And.intro ho5 ho6))))
  clear hx hy hb ho3 hs3 HX hx4 hy4 hs4 hbb ho5 ho6 ho4 hb4
  go_upto_region 3 with fail
  generalize (((((w4.setCell ⟨w.heap.size, 6, none⟩ (.int .i64 s.n.e)).setCell ⟨w.heap.size, 7, none⟩ (.int .i64 s.n.b)).setCell ⟨w.heap.size, 8, none⟩ (.int .i64 s.n.k)).setCell ⟨w.heap.size, 9, none⟩ (.slice a7 s.n.M.length q7)).setCell ⟨w.heap.size, 10, none⟩ (.slice a8 s.n.C.length q8)) = w5 at *
  clear d0 d1 d2 d3 d4 d5 d6 d7 d8 d9 d10 d11 d12
  clear f4
  obtain ⟨hy4, hbb, hs4, ho5, ho6⟩ := HY.out
  have hx := FI.out
  have hy : w5.heap[w.heap.size + 1]? = some _ := (FO.out.block _ (lt_heap hy4) (by omega)).trans hy4
  have hb : Below w.heap.size w w5 := hbb.trans (FO.out.below (B := w.heap.size) (by omega) (by omega))
  have ho7 := ho5.only FO.out (by omega)
  have ho8 := ho6.only FO.out (by omega)
  have hs5 : w.heap.size + 2 ≤ w5.heap.size := by have := FO.out.size; omega
  have d0 := cell_atD hx 0 (v := .int .i64 s.ep) rfl
  have d1 := cell_atD hx 1 (v := .int .i64 s.a.e) rfl
  have d2 := cell_atD hx 2 (v := .int .i64 s.a.b) rfl
  have d3 := cell_atD hx 3 (v := .int .i64 s.a.k) rfl
  have d4 := cell_atD hx 4 (v := .slice a5 s.a.M.length q5) rfl
  have d5 := cell_atD hx 5 (v := .slice a6 s.a.C.length q6) rfl
  have d6 := cell_atD hx 6 (v := .int .i64 s.n.e) rfl
  have d7 := cell_atD hx 7 (v := .int .i64 s.n.b) rfl
  have d8 := cell_atD hx 8 (v := .int .i64 s.n.k) rfl
  have d9 := cell_atD hx 9 (v := .slice a7 s.n.M.length q7) rfl
  have d10 := cell_atD hx 10 (v := .slice a8 s.n.C.length q8) rfl
  have d11 := cell_atD hx 11 (v := .int .i64 s.s0) rfl
  have d12 := cell_atD hx 12 (v := .int .i64 s.s1) rfl
  have e0 := cell_atD hy 0 (v := .int .i64 0) rfl
  have e1 := cell_atD hy 1 (v := .int .i64 0) rfl
  have e2 := cell_atD hy 2 (v := .int .i64 0) rfl
  have e3 := cell_atD hy 3 (v := .int .i64 0) rfl
  have e4 := cell_atD hy 4 (v := .slice none 0 0) rfl
  have e5 := cell_atD hy 5 (v := .slice none 0 0) rfl
  have e6 := cell_atD hy 6 (v := .int .i64 0) rfl
  have e7 := cell_atD hy 7 (v := .int .i64 0) rfl
  have e8 := cell_atD hy 8 (v := .int .i64 0) rfl
  have e9 := cell_atD hy 9 (v := .slice none 0 0) rfl
  have e10 := cell_atD hy 10 (v := .slice none 0 0) rfl
  have e11 := cell_atD hy 11 (v := .int .i64 0) rfl
  have e12 := cell_atD hy 12 (v := .int .i64 0) rfl
  have gq : ∀ j, w5.frozen? ⟨w.heap.size + 1, j, none⟩ = false := fun j => by simp [World.frozen?, hy]
  have g1 : (w5.setCell ⟨w.heap.size + 1, 0, none⟩ (.int .i64 s.ep)).heap[w.heap.size + 1]? = some (.cells #[.int .i64 s.ep, .int .i64 0, .int .i64 0, .int .i64 0, .slice none 0 0, .slice none 0 0, .int .i64 0, .int .i64 0, .int .i64 0, .slice none 0 0, .slice none 0 0, .int .i64 0, .int .i64 0] 50) := heap_set_self hy 0 _
  have g2 : ((w5.setCell ⟨w.heap.size + 1, 0, none⟩ (.int .i64 s.ep)).setCell ⟨w.heap.size + 1, 1, none⟩ (.int .i64 s.a.e)).heap[w.heap.size + 1]? = some (.cells #[.int .i64 s.ep, .int .i64 s.a.e, .int .i64 0, .int .i64 0, .slice none 0 0, .slice none 0 0, .int .i64 0, .int .i64 0, .int .i64 0, .slice none 0 0, .slice none 0 0, .int .i64 0, .int .i64 0] 50) := heap_set_self g1 1 _
  have g3 : (((w5.setCell ⟨w.heap.size + 1, 0, none⟩ (.int .i64 s.ep)).setCell ⟨w.heap.size + 1, 1, none⟩ (.int .i64 s.a.e)).setCell ⟨w.heap.size + 1, 2, none⟩ (.int .i64 s.a.b)).heap[w.heap.size + 1]? = some (.cells #[.int .i64 s.ep, .int .i64 s.a.e, .int .i64 s.a.b, .int .i64 0, .slice none 0 0, .slice none 0 0, .int .i64 0, .int .i64 0, .int .i64 0, .slice none 0 0, .slice none 0 0, .int .i64 0, .int .i64 0] 50) := heap_set_self g2 2 _
  have g4 : ((((w5.setCell ⟨w.heap.size + 1, 0, none⟩ (.int .i64 s.ep)).setCell ⟨w.heap.size + 1, 1, none⟩ (.int .i64 s.a.e)).setCell ⟨w.heap.size + 1, 2, none⟩ (.int .i64 s.a.b)).setCell ⟨w.heap.size + 1, 3, none⟩ (.int .i64 s.a.k)).heap[w.heap.size + 1]? = some (.cells #[.int .i64 s.ep, .int .i64 s.a.e, .int .i64 s.a.b, .int .i64 s.a.k, .slice none 0 0, .slice none 0 0, .int .i64 0, .int .i64 0, .int .i64 0, .slice none 0 0, .slice none 0 0, .int .i64 0, .int .i64 0] 50) := heap_set_self g3 3 _
  have g5 : (((((w5.setCell ⟨w.heap.size + 1, 0, none⟩ (.int .i64 s.ep)).setCell ⟨w.heap.size + 1, 1, none⟩ (.int .i64 s.a.e)).setCell ⟨w.heap.size + 1, 2, none⟩ (.int .i64 s.a.b)).setCell ⟨w.heap.size + 1, 3, none⟩ (.int .i64 s.a.k)).setCell ⟨w.heap.size + 1, 4, none⟩ (.slice a5 s.a.M.length q5)).heap[w.heap.size + 1]? = some (.cells #[.int .i64 s.ep, .int .i64 s.a.e, .int .i64 s.a.b, .int .i64 s.a.k, .slice a5 s.a.M.length q5, .slice none 0 0, .int .i64 0, .int .i64 0, .int .i64 0, .slice none 0 0, .slice none 0 0, .int .i64 0, .int .i64 0] 50) := heap_set_self g4 4 _
  have g6 : ((((((w5.setCell ⟨w.heap.size + 1, 0, none⟩ (.int .i64 s.ep)).setCell ⟨w.heap.size + 1, 1, none⟩ (.int .i64 s.a.e)).setCell ⟨w.heap.size + 1, 2, none⟩ (.int .i64 s.a.b)).setCell ⟨w.heap.size + 1, 3, none⟩ (.int .i64 s.a.k)).setCell ⟨w.heap.size + 1, 4, none⟩ (.slice a5 s.a.M.length q5)).setCell ⟨w.heap.size + 1, 5, none⟩ (.slice a6 s.a.C.length q6)).heap[w.heap.size + 1]? = some (.cells #[.int .i64 s.ep, .int .i64 s.a.e, .int .i64 s.a.b, .int .i64 s.a.k, .slice a5 s.a.M.length q5, .slice a6 s.a.C.length q6, .int .i64 0, .int .i64 0, .int .i64 0, .slice none 0 0, .slice none 0 0, .int .i64 0, .int .i64 0] 50) := heap_set_self g5 5 _
  have g7 : (((((((w5.setCell ⟨w.heap.size + 1, 0, none⟩ (.int .i64 s.ep)).setCell ⟨w.heap.size + 1, 1, none⟩ (.int .i64 s.a.e)).setCell ⟨w.heap.size + 1, 2, none⟩ (.int .i64 s.a.b)).setCell ⟨w.heap.size + 1, 3, none⟩ (.int .i64 s.a.k)).setCell ⟨w.heap.size + 1, 4, none⟩ (.slice a5 s.a.M.length q5)).setCell ⟨w.heap.size + 1, 5, none⟩ (.slice a6 s.a.C.length q6)).setCell ⟨w.heap.size + 1, 6, none⟩ (.int .i64 s.n.e)).heap[w.heap.size + 1]? = some (.cells #[.int .i64 s.ep, .int .i64 s.a.e, .int .i64 s.a.b, .int .i64 s.a.k, .slice a5 s.a.M.length q5, .slice a6 s.a.C.length q6, .int .i64 s.n.e, .int .i64 0, .int .i64 0, .slice none 0 0, .slice none 0 0, .int .i64 0, .int .i64 0] 50) := heap_set_self g6 6 _
  have g8 : ((((((((w5.setCell ⟨w.heap.size + 1, 0, none⟩ (.int .i64 s.ep)).setCell ⟨w.heap.size + 1, 1, none⟩ (.int .i64 s.a.e)).setCell ⟨w.heap.size + 1, 2, none⟩ (.int .i64 s.a.b)).setCell ⟨w.heap.size + 1, 3, none⟩ (.int .i64 s.a.k)).setCell ⟨w.heap.size + 1, 4, none⟩ (.slice a5 s.a.M.length q5)).setCell ⟨w.heap.size + 1, 5, none⟩ (.slice a6 s.a.C.length q6)).setCell ⟨w.heap.size + 1, 6, none⟩ (.int .i64 s.n.e)).setCell ⟨w.heap.size + 1, 7, none⟩ (.int .i64 s.n.b)).heap[w.heap.size + 1]? = some (.cells #[.int .i64 s.ep, .int .i64 s.a.e, .int .i64 s.a.b, .int .i64 s.a.k, .slice a5 s.a.M.length q5, .slice a6 s.a.C.length q6, .int .i64 s.n.e, .int .i64 s.n.b, .int .i64 0, .slice none 0 0, .slice none 0 0, .int .i64 0, .int .i64 0] 50) := heap_set_self g7 7 _
  have g9 : (((((((((w5.setCell ⟨w.heap.size + 1, 0, none⟩ (.int .i64 s.ep)).setCell ⟨w.heap.size + 1, 1, none⟩ (.int .i64 s.a.e)).setCell ⟨w.heap.size + 1, 2, none⟩ (.int .i64 s.a.b)).setCell ⟨w.heap.size + 1, 3, none⟩ (.int .i64 s.a.k)).setCell ⟨w.heap.size + 1, 4, none⟩ (.slice a5 s.a.M.length q5)).setCell ⟨w.heap.size + 1, 5, none⟩ (.slice a6 s.a.C.length q6)).setCell ⟨w.heap.size + 1, 6, none⟩ (.int .i64 s.n.e)).setCell ⟨w.heap.size + 1, 7, none⟩ (.int .i64 s.n.b)).setCell ⟨w.heap.size + 1, 8, none⟩ (.int .i64 s.n.k)).heap[w.heap.size + 1]? = some (.cells #[.int .i64 s.ep, .int .i64 s.a.e, .int .i64 s.a.b, .int .i64 s.a.k, .slice a5 s.a.M.length q5, .slice a6 s.a.C.length q6, .int .i64 s.n.e, .int .i64 s.n.b, .int .i64 s.n.k, .slice none 0 0, .slice none 0 0, .int .i64 0, .int .i64 0] 50) := heap_set_self g8 8 _
  have g10 : ((((((((((w5.setCell ⟨w.heap.size + 1, 0, none⟩ (.int .i64 s.ep)).setCell ⟨w.heap.size + 1, 1, none⟩ (.int .i64 s.a.e)).setCell ⟨w.heap.size + 1, 2, none⟩ (.int .i64 s.a.b)).setCell ⟨w.heap.size + 1, 3, none⟩ (.int .i64 s.a.k)).setCell ⟨w.heap.size + 1, 4, none⟩ (.slice a5 s.a.M.length q5)).setCell ⟨w.heap.size + 1, 5, none⟩ (.slice a6 s.a.C.length q6)).setCell ⟨w.heap.size + 1, 6, none⟩ (.int .i64 s.n.e)).setCell ⟨w.heap.size + 1, 7, none⟩ (.int .i64 s.n.b)).setCell ⟨w.heap.size + 1, 8, none⟩ (.int .i64 s.n.k)).setCell ⟨w.heap.size + 1, 9, none⟩ (.slice a7 s.n.M.length q7)).heap[w.heap.size + 1]? = some (.cells #[.int .i64 s.ep, .int .i64 s.a.e, .int .i64 s.a.b, .int .i64 s.a.k, .slice a5 s.a.M.length q5, .slice a6 s.a.C.length q6, .int .i64 s.n.e, .int .i64 s.n.b, .int .i64 s.n.k, .slice a7 s.n.M.length q7, .slice none 0 0, .int .i64 0, .int .i64 0] 50) := heap_set_self g9 9 _
  have g11 : (((((((((((w5.setCell ⟨w.heap.size + 1, 0, none⟩ (.int .i64 s.ep)).setCell ⟨w.heap.size + 1, 1, none⟩ (.int .i64 s.a.e)).setCell ⟨w.heap.size + 1, 2, none⟩ (.int .i64 s.a.b)).setCell ⟨w.heap.size + 1, 3, none⟩ (.int .i64 s.a.k)).setCell ⟨w.heap.size + 1, 4, none⟩ (.slice a5 s.a.M.length q5)).setCell ⟨w.heap.size + 1, 5, none⟩ (.slice a6 s.a.C.length q6)).setCell ⟨w.heap.size + 1, 6, none⟩ (.int .i64 s.n.e)).setCell ⟨w.heap.size + 1, 7, none⟩ (.int .i64 s.n.b)).setCell ⟨w.heap.size + 1, 8, none⟩ (.int .i64 s.n.k)).setCell ⟨w.heap.size + 1, 9, none⟩ (.slice a7 s.n.M.length q7)).setCell ⟨w.heap.size + 1, 10, none⟩ (.slice a8 s.n.C.length q8)).heap[w.heap.size + 1]? = some (.cells #[.int .i64 s.ep, .int .i64 s.a.e, .int .i64 s.a.b, .int .i64 s.a.k, .slice a5 s.a.M.length q5, .slice a6 s.a.C.length q6, .int .i64 s.n.e, .int .i64 s.n.b, .int .i64 s.n.k, .slice a7 s.n.M.length q7, .slice a8 s.n.C.length q8, .int .i64 0, .int .i64 0] 50) := heap_set_self g10 10 _
  have g12 : ((((((((((((w5.setCell ⟨w.heap.size + 1, 0, none⟩ (.int .i64 s.ep)).setCell ⟨w.heap.size + 1, 1, none⟩ (.int .i64 s.a.e)).setCell ⟨w.heap.size + 1, 2, none⟩ (.int .i64 s.a.b)).setCell ⟨w.heap.size + 1, 3, none⟩ (.int .i64 s.a.k)).setCell ⟨w.heap.size + 1, 4, none⟩ (.slice a5 s.a.M.length q5)).setCell ⟨w.heap.size + 1, 5, none⟩ (.slice a6 s.a.C.length q6)).setCell ⟨w.heap.size + 1, 6, none⟩ (.int .i64 s.n.e)).setCell ⟨w.heap.size + 1, 7, none⟩ (.int .i64 s.n.b)).setCell ⟨w.heap.size + 1, 8, none⟩ (.int .i64 s.n.k)).setCell ⟨w.heap.size + 1, 9, none⟩ (.slice a7 s.n.M.length q7)).setCell ⟨w.heap.size + 1, 10, none⟩ (.slice a8 s.n.C.length q8)).setCell ⟨w.heap.size + 1, 11, none⟩ (.int .i64 s.s0)).heap[w.heap.size + 1]? = some (.cells #[.int .i64 s.ep, .int .i64 s.a.e, .int .i64 s.a.b, .int .i64 s.a.k, .slice a5 s.a.M.length q5, .slice a6 s.a.C.length q6, .int .i64 s.n.e, .int .i64 s.n.b, .int .i64 s.n.k, .slice a7 s.n.M.length q7, .slice a8 s.n.C.length q8, .int .i64 s.s0, .int .i64 0] 50) := heap_set_self g11 11 _
  have g13 : (((((((((((((w5.setCell ⟨w.heap.size + 1, 0, none⟩ (.int .i64 s.ep)).setCell ⟨w.heap.size + 1, 1, none⟩ (.int .i64 s.a.e)).setCell ⟨w.heap.size + 1, 2, none⟩ (.int .i64 s.a.b)).setCell ⟨w.heap.size + 1, 3, none⟩ (.int .i64 s.a.k)).setCell ⟨w.heap.size + 1, 4, none⟩ (.slice a5 s.a.M.length q5)).setCell ⟨w.heap.size + 1, 5, none⟩ (.slice a6 s.a.C.length q6)).setCell ⟨w.heap.size + 1, 6, none⟩ (.int .i64 s.n.e)).setCell ⟨w.heap.size + 1, 7, none⟩ (.int .i64 s.n.b)).setCell ⟨w.heap.size + 1, 8, none⟩ (.int .i64 s.n.k)).setCell ⟨w.heap.size + 1, 9, none⟩ (.slice a7 s.n.M.length q7)).setCell ⟨w.heap.size + 1, 10, none⟩ (.slice a8 s.n.C.length q8)).setCell ⟨w.heap.size + 1, 11, none⟩ (.int .i64 s.s0)).setCell ⟨w.heap.size + 1, 12, none⟩ (.int .i64 s.s1)).heap[w.heap.size + 1]? = some (.cells #[.int .i64 s.ep, .int .i64 s.a.e, .int .i64 s.a.b, .int .i64 s.a.k, .slice a5 s.a.M.length q5, .slice a6 s.a.C.length q6, .int .i64 s.n.e, .int .i64 s.n.b, .int .i64 s.n.k, .slice a7 s.n.M.length q7, .slice a8 s.n.C.length q8, .int .i64 s.s0, .int .i64 s.s1] 50) := heap_set_self g12 12 _
  have GI := Lib.hid g13
  clear g1 g2 g3 g4 g5 g6 g7 g8 g9 g10 g11 g12 g13
  have GO := Lib.hid (show Only (w.heap.size + 1) w5 (((((((((((((w5.setCell ⟨w.heap.size + 1, 0, none⟩ (.int .i64 s.ep)).setCell ⟨w.heap.size + 1, 1, none⟩ (.int .i64 s.a.e)).setCell ⟨w.heap.size + 1, 2, none⟩ (.int .i64 s.a.b)).setCell ⟨w.heap.size + 1, 3, none⟩ (.int .i64 s.a.k)).setCell ⟨w.heap.size + 1, 4, none⟩ (.slice a5 s.a.M.length q5)).setCell ⟨w.heap.size + 1, 5, none⟩ (.slice a6 s.a.C.length q6)).setCell ⟨w.heap.size + 1, 6, none⟩ (.int .i64 s.n.e)).setCell ⟨w.heap.size + 1, 7, none⟩ (.int .i64 s.n.b)).setCell ⟨w.heap.size + 1, 8, none⟩ (.int .i64 s.n.k)).setCell ⟨w.heap.size + 1, 9, none⟩ (.slice a7 s.n.M.length q7)).setCell ⟨w.heap.size + 1, 10, none⟩ (.slice a8 s.n.C.length q8)).setCell ⟨w.heap.size + 1, 11, none⟩ (.int .i64 s.s0)).setCell ⟨w.heap.size + 1, 12, none⟩ (.int .i64 s.s1)) from ((((((((((((((Only.refl _ _).set 0 _).set 1 _).set 2 _).set 3 _).set 4 _).set 5 _).set 6 _).set 7 _).set 8 _).set 9 _).set 10 _).set 11 _).set 12 _))
  have HZ := Lib.hid (And.intro hb (And.intro hs5 (And.intro ho7 ho8)))
  clear hy4 hbb hs4 ho5 ho6 hx hy hb ho7 ho8 hs5 FI FO HY
  go_wp2_with fail
  generalize (((((((((((((w5.setCell ⟨w.heap.size + 1, 0, none⟩ (.int .i64 s.ep)).setCell ⟨w.heap.size + 1, 1, none⟩ (.int .i64 s.a.e)).setCell ⟨w.heap.size + 1, 2, none⟩ (.int .i64 s.a.b)).setCell ⟨w.heap.size + 1, 3, none⟩ (.int .i64 s.a.k)).setCell ⟨w.heap.size + 1, 4, none⟩ (.slice a5 s.a.M.length q5)).setCell ⟨w.heap.size + 1, 5, none⟩ (.slice a6 s.a.C.length q6)).setCell ⟨w.heap.size + 1, 6, none⟩ (.int .i64 s.n.e)).setCell ⟨w.heap.size + 1, 7, none⟩ (.int .i64 s.n.b)).setCell ⟨w.heap.size + 1, 8, none⟩ (.int .i64 s.n.k)).setCell ⟨w.heap.size + 1, 9, none⟩ (.slice a7 s.n.M.length q7)).setCell ⟨w.heap.size + 1, 10, none⟩ (.slice a8 s.n.C.length q8)).setCell ⟨w.heap.size + 1, 11, none⟩ (.int .i64 s.s0)).setCell ⟨w.heap.size + 1, 12, none⟩ (.int .i64 s.s1)) = wf at *
  have fi := GI.out
  have s0 := cell_atD fi 0 (v := .int .i64 s.ep) rfl
  have s1 := cell_atD fi 1 (v := .int .i64 s.a.e) rfl
  have s2 := cell_atD fi 2 (v := .int .i64 s.a.b) rfl
  have s3 := cell_atD fi 3 (v := .int .i64 s.a.k) rfl
  have s4 := cell_atD fi 4 (v := .slice a5 s.a.M.length q5) rfl
  have s5 := cell_atD fi 5 (v := .slice a6 s.a.C.length q6) rfl
  have s6 := cell_atD fi 6 (v := .int .i64 s.n.e) rfl
  have s7 := cell_atD fi 7 (v := .int .i64 s.n.b) rfl
  have s8 := cell_atD fi 8 (v := .int .i64 s.n.k) rfl
  have s9 := cell_atD fi 9 (v := .slice a7 s.n.M.length q7) rfl
  have s10 := cell_atD fi 10 (v := .slice a8 s.n.C.length q8) rfl
  have s11 := cell_atD fi 11 (v := .int .i64 s.s0) rfl
  have s12 := cell_atD fi 12 (v := .int .i64 s.s1) rfl
  clear fi
  refine bodyPost_ret (v := .agg #[.int .i64 s.ep, .int .i64 s.a.e, .int .i64 s.a.b, .int .i64 s.a.k, .slice a5 s.a.M.length q5, .slice a6 s.a.C.length q6, .int .i64 s.n.e, .int .i64 s.n.b, .int .i64 s.n.k, .slice a7 s.n.M.length q7, .slice a8 s.n.C.length q8, .int .i64 s.s0, .int .i64 s.s1]) (by simp [results, Try.results97, go_sem, s0, s1, s2, s3, s4, s5, s6, s7, s8, s9, s10, s11, s12]) rfl ?_
  obtain ⟨hb, hs5, ho7, ho8⟩ := HZ.out
  exact ⟨_, rfl, ⟨_, _, _, _, rfl, (ho7.only GO.out (by omega)).base (by omega), (ho8.only GO.out (by omega)).base (by omega), h3, h4⟩, hb.trans (GO.out.below (B := w.heap.size) (by omega) (by omega))⟩
end Go.Proofs.Ytbjjfidjggagnaa
