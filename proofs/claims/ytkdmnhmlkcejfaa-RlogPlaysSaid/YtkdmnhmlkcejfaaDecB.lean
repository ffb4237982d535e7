/-
  States copied: own.State.
-/
import Derived.Test.YtkdmnhmlkcejfaaDec
namespace Go.Proofs.Ytkdmnhmlkcejfaa
open Go.RowKit
set_option linter.unusedVariables false
set_option linter.unusedSimpArgs false

/-- a configuration's numbers and lists -/
structure CF where
  e : Int
  b : Int
  k : Int
  M : List Int
  C : List Int
def CF.z : CF := ⟨0, 0, 0, [], []⟩
/-- a state: its epoch, what is seen, the configuration that works, the next one -/
structure DS where
  ep : Int
  s0 : Int
  s1 : Int
  a : CF
  n : CF
def DS.z : DS := ⟨0, 0, 0, .z, .z⟩
/-- the two lists of a configuration lie so -/
def CFat (c : CF) (w : World) (v1 v2 : Value) : Prop := SR w v1 1 c.M.length (nCells c.M) ∧ SR w v2 1 c.C.length (nCells c.C)
theorem CFat.below {c : CF} {w w' : World} {v1 v2 : Value} (h : CFat c w v1 v2) (hb : Below w.heap.size w w') : CFat c w' v1 v2 := ⟨h.1.below hb, h.2.below hb⟩
theorem CFat.form {c : CF} {w : World} {v1 v2 : Value} (h : CFat c w v1 v2) : ∃ a1 q1 a2 q2, v1 = .slice a1 c.M.length q1 ∧ v2 = .slice a2 c.C.length q2 := by
  obtain ⟨a1, q1, e1, -⟩ := h.1.form
  obtain ⟨a2, q2, e2, -⟩ := h.2.form
  exact ⟨a1, q1, a2, q2, e1, e2⟩
def stA (ep : Int) (a : CF) (v1 v2 : Value) (n : CF) (v3 v4 : Value) (s0 s1 : Int) : Array Value :=
  #[.int .i64 ep, .int .i64 a.e, .int .i64 a.b, .int .i64 a.k, v1, v2, .int .i64 n.e, .int .i64 n.b, .int .i64 n.k, v3, v4, .int .i64 s0, .int .i64 s1]
def short (c : CF) : Prop := c.M.length ≤ 1000 ∧ c.C.length ≤ 1000
/-- a value is a state in this world -/
def SV (s : DS) (w : World) (v : Value) : Prop :=
  ∃ v1 v2 v3 v4, v = .agg (stA s.ep s.a v1 v2 s.n v3 v4 s.s0 s.s1) ∧ CFat s.a w v1 v2 ∧ CFat s.n w v3 v4 ∧ short s.a ∧ short s.n
theorem SV.below {s : DS} {w w' : World} {v : Value} (h : SV s w v) (hb : Below w.heap.size w w') : SV s w' v := by
  obtain ⟨v1, v2, v3, v4, rfl, h1, h2, h3⟩ := h
  exact ⟨v1, v2, v3, v4, rfl, h1.below hb, h2.below hb, h3⟩
def CFO (c : CF) (base : Nat) (w : World) (v1 v2 : Value) : Prop := CO c.M c.C base w v1 v2
theorem CFO.at_ {c : CF} {base : Nat} {w : World} {v1 v2 : Value} (h : CFO c base w v1 v2) : CFat c w v1 v2 := ⟨SR.owns h.1, SR.owns h.2⟩
theorem CFO.only {c : CF} {base y : Nat} {w w' : World} {v1 v2 : Value} (h : CFO c base w v1 v2) (ho : Only y w w') (hy : y < base) : CFO c base w' v1 v2 := ⟨own_onlyD h.1 ho hy, own_onlyD h.2 ho hy⟩
theorem CFO.below {c : CF} {base : Nat} {w w' : World} {v1 v2 : Value} (h : CFO c base w v1 v2) (hb : Below w.heap.size w w') : CFO c base w' v1 v2 := ⟨owns_below h.1 hb, owns_below h.2 hb⟩
/-- the same, its lists in rows from so far on -/
def SVB (s : DS) (base : Nat) (w : World) (v : Value) : Prop :=
  ∃ v1 v2 v3 v4, v = .agg (stA s.ep s.a v1 v2 s.n v3 v4 s.s0 s.s1) ∧ CFO s.a base w v1 v2 ∧ CFO s.n base w v3 v4 ∧ short s.a ∧ short s.n
theorem SVB.sv {s : DS} {base : Nat} {w : World} {v : Value} (h : SVB s base w v) : SV s w v := by
  obtain ⟨v1, v2, v3, v4, rfl, h1, h2, h3⟩ := h
  exact ⟨v1, v2, v3, v4, rfl, h1.at_, h2.at_, h3⟩
theorem SVB.below {s : DS} {base : Nat} {w w' : World} {v : Value} (h : SVB s base w v) (hb : Below w.heap.size w w') : SVB s base w' v := by
  obtain ⟨v1, v2, v3, v4, rfl, h1, h2, h3⟩ := h
  exact ⟨v1, v2, v3, v4, rfl, h1.below hb, h2.below hb, h3⟩
theorem SVB.only {s : DS} {base y : Nat} {w w' : World} {v : Value} (h : SVB s base w v) (ho : Only y w w') (hy : y < base) : SVB s base w' v := by
  obtain ⟨v1, v2, v3, v4, rfl, h1, h2, h3⟩ := h
  exact ⟨v1, v2, v3, v4, rfl, h1.only ho hy, h2.only ho hy, h3⟩
theorem CFO.base {c : CF} {base base' : Nat} {w : World} {v1 v2 : Value} (h : CFO c base w v1 v2) (hb : base' ≤ base) : CFO c base' w v1 v2 := ⟨owns_baseD h.1 hb, owns_baseD h.2 hb⟩
theorem oconf' (c : CF) (v1 v2 : Value) (w : World) (h : CFat c w v1 v2) (hs : short c) :
    Calls Try.prog 45 #[.agg #[.int .i64 c.e, .int .i64 c.b, .int .i64 c.k, v1, v2]] w fun ev w' => ∃ a1 q1 a2 q2, ev = .returned (.agg #[.int .i64 c.e, .int .i64 c.b, .int .i64 c.k, .slice a1 c.M.length q1, .slice a2 c.C.length q2]) ∧ CFO c w.heap.size w' (.slice a1 c.M.length q1) (.slice a2 c.C.length q2) ∧ Below w.heap.size w w' := by
  refine (oconf c.e c.b c.k v1 v2 c.M c.C w h.1 h.2 hs.1 hs.2).mono ?_
  rintro ev w' ⟨u1, u2, rfl, h1, hb⟩
  obtain ⟨a1, q1, rfl⟩ := owns_form h1.1
  obtain ⟨a2, q2, rfl⟩ := owns_form h1.2
  exact ⟨a1, q1, a2, q2, rfl, h1, hb⟩
end Go.Proofs.Ytkdmnhmlkcejfaa
