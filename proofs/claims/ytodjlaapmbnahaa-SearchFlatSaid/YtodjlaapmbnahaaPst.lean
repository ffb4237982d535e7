/-
  past: what was told first; the map of answers.
-/
import Derived.Test.YtodjlaapmbnahaaHeld
import Derived.Test.YtodjlaapmbnahaaElts
import Derived.Maps.Own
import Derived.Maps.OwnSet
import Derived.Maps.Views
namespace Go.Proofs.Ytodjlaapmbnahaa
open Go.RowKit
open Go.Maps (Keyed)
set_option linter.unusedVariables false
set_option linter.unusedSimpArgs false

/-- an event -/
structure Ev where
  ans : Bool
  id : Int
  gate : Int
  what : Int
  at_ : Int
  len : Int
  data : ByteArray
  sure : Bool
  err : Int
  txt : ByteArray
def Ev.c (e : Ev) : List Value := [.bool e.ans, .int .i64 e.id, .int .i64 e.gate, .int .i64 e.what, .int .i64 e.at_, .int .i64 e.len, .string e.data, .bool e.sure, .int .i64 e.err, .string e.txt]
/-- the event that is told of something -/
def isTold (z : Int) (e : Ev) : Bool := e.ans && decide (e.id = z)
/-- where it was told first -/
def told (l : List Ev) (z : Int) : Option Nat := l.findIdx? (isTold z)
def tolV : Option Nat → Value
  | none => .agg #[.int .i64 0, .bool false]
  | some i => .agg #[.int .i64 i, .bool true]
def tolD : Option Nat → DataW Unit
  | none => .agg [.lit (.int .i64 0), .lit (.bool false)]
  | some i => .agg [.lit (.int .i64 i), .lit (.bool true)]
def anR : Value → Option (DataW Unit × List MemPlace)
  | .agg a => match a.toList with
    | [.int .i64 x, .bool o] => some (.agg [.lit (.int .i64 x), .lit (.bool o)], [])
    | _ => none
  | _ => none
theorem anR_tol (o : Option Nat) : anR (tolV o) = some (tolD o, []) := by cases o <;> rfl
theorem anR_inv {v : Value} {o : Option Nat} {ps : List MemPlace} (h : anR v = some (tolD o, ps)) : v = tolV o := by
  unfold anR at h
  split at h
  · next a =>
    split at h
    · next x b e =>
      have h3 : a = #[.int .i64 x, .bool b] := by rw [← Array.toArray_toList (xs := a), e]
      rw [h3]
      cases o <;> simp [tolD, tolV] at h ⊢ <;> exact h.1
    · cases h
  · cases h
theorem told_next (l : List Ev) (e : Ev) (z : Int) : told (l ++ [e]) z = match told l z with
    | some k => some k
    | none => if isTold z e then some l.length else none := by
  unfold told
  rw [List.findIdx?_append]
  cases h : l.findIdx? (isTold z) <;> simp [List.findIdx?_cons] <;> split <;> simp_all
theorem keyP : Keyed Try.prog 3 := Go.Maps.int_keyed Try.underlying3
/-- the map at b is what a history's events told -/
def Told (w : World) (b n : Nat) (l : List Ev) : Prop := ∃ D, w.ownsMap Try.prog 3 anR b n D ∧ ∀ z, D.atKey (.int .i64 z) (tolD none) = tolD (told l z)
theorem Told.lt {w : World} {b n : Nat} {l : List Ev} (h : Told w b n l) : b < w.heap.size := let ⟨_, h, _⟩ := h; h.lt
theorem Told.move {w w' : World} {b n : Nat} {l : List Ev} (h : Told w b n l) (e : w'.heap[b]? = w.heap[b]?) : Told w' b n l := by
  obtain ⟨D, ⟨es, clock, hb, F⟩, hD⟩ := h
  exact ⟨D, ⟨es, clock, e.trans hb, F⟩, hD⟩
theorem Told.below {w w' : World} {b n : Nat} {l : List Ev} (h : Told w b n l) (hb : Below w.heap.size w w') : Told w' b n l := h.move (hb.block b h.lt)
theorem Told.mono {w : World} {b n m : Nat} {l : List Ev} (h : Told w b n l) (hn : n ≤ m) : Told w b m l := let ⟨D, h, hD⟩ := h; ⟨D, h.mono hn, hD⟩
theorem told_made (w : World) : Told (w.alloc (.map #[] 0)) w.heap.size 0 [] := ⟨_, World.ownsMap_made (H := Unit) w Try.prog 3 anR, fun z => rfl⟩
theorem Told.look {w : World} {b n : Nat} {l : List Ev} (h : Told w b n l) (z : Int) (hz : (Lit.int .i64 z).wf = true) : (Instr.lookup 84 (.map (some b)) (.int .i64 z) false).run Try.prog w = .ok (tolV (told l z)) w := by
  obtain ⟨D, hm, hD⟩ := h
  obtain ⟨v, ps, h1, h2⟩ := hm.lookup keyP Try.underlying84 (z := tolV none) (by kernel_rfl) (anR_tol none) (Go.Maps.keyOf_int_mk Try.underlying3 hz)
  rw [hD z] at h2
  rw [anR_inv h2] at h1
  exact h1
/-- nothing new is told -/
theorem Told.skip {w : World} {b n : Nat} {l : List Ev} (h : Told w b n l) (e : Ev) (hn : e.ans = true → told l e.id ≠ none) : Told w b n (l ++ [e]) := by
  obtain ⟨D, hm, hD⟩ := h
  refine ⟨D, hm, fun z => (hD z).trans ?_⟩
  rw [told_next]
  cases h : told l z with
  | some k => rfl
  | none =>
    simp only
    rw [if_neg]
    intro q
    simp only [isTold, Bool.and_eq_true, decide_eq_true_eq] at q
    exact hn q.1 (by rw [q.2]; exact h)
theorem Told.store {w : World} {b n : Nat} {l : List Ev} (h : Told w b n l) (e : Ev) (ha : e.ans = true) (hno : told l e.id = none) (hn : n < maxLen) (hz : (Lit.int .i64 e.id).wf = true) :
    ∃ w', (Instr.mapUpdate 84 (.map (some b)) (.int .i64 e.id) (.agg #[.int .i64 l.length, .bool true])).run Try.prog w = .ok () w' ∧ Told w' b (n + 1) (l ++ [e]) ∧ w.grownBy w' (some b) := by
  obtain ⟨D, hm, hD⟩ := h
  obtain ⟨w', h1, h2, h3⟩ := hm.update keyP Try.underlying84 hn (Go.Maps.keyOf_int_mk Try.underlying3 hz) (anR_tol (some l.length))
  refine ⟨w', h1, ⟨_, h2, fun z => ?_⟩, h3⟩
  rw [told_next]
  by_cases q : z = e.id
  · subst q
    rw [Maps.atKey_put_same hm.isMap (by trivial), hno]
    simp [isTold, ha]
  · rw [Maps.atKey_put_other (by intro e; injection e with _ e; exact q e), hD z]
    cases h : told l z with
    | some k => rfl
    | none =>
      simp only
      rw [if_neg]
      intro r
      simp only [isTold, Bool.and_eq_true, decide_eq_true_eq] at r
      exact q r.2.symm
end Go.Proofs.Ytodjlaapmbnahaa
