/-
  Lists of nodes, as the document has them: has, nodes, Lists.
-/
import Derived.Test.YtodjlaapmbnahaaSR
import Derived.Test.YtodjlaapmbnahaaMask
import Derived.WalkSpells
import Derived.WalkLawsBesides
import Derived.BigQuiet
import Derived.BigRegion
import Derived.Deep.QuietTactic
import Derived.Deep.RegionWith
import Derived.Deep.RegionHeld3
import Derived.StillTailTactics
import Derived.Deep.DeepCutAuto
import Derived.Handy
import Derived.IntWalk
namespace Go.Proofs.Ytodjlaapmbnahaa
open Go.RowKit
set_option linter.unusedVariables false

theorem mem_take_succ (l : List Int) (k : Nat) (hk : k < l.length) (n : Int) : n ∈ l.take (k + 1) ↔ n ∈ l.take k ∨ n = l.getD k 0 := by
  have e : l.getD k 0 = l[k] := by simp [List.getD, hk]
  rw [List.take_succ_eq_append_getElem hk, e]
  simp only [List.mem_append, List.mem_singleton]
def NotIn (n : Int) (l : List Int) : Prop := n ∉ l
/-- the first k are nodes, each once -/
def okK (l : List Int) : Nat → Bool
  | 0 => true
  | k + 1 => okK l k && decide (0 ≤ l.getD k 0 ∧ l.getD k 0 ≤ 4) && !decide (l.getD k 0 ∈ l.take k)
theorem okK_le (l : List Int) (k j : Nat) (hj : j ≤ k) (h : okK l k = true) : okK l j = true := by
  induction k with
  | zero => rw [show j = 0 by omega]; rfl
  | succ k ih =>
    by_cases e : j = k + 1
    · rw [e]; exact h
    · simp only [okK, Bool.and_eq_true] at h
      exact ih (by omega) h.1.1
def nodesB (l : List Int) (least : Nat) : Bool := okK l l.length && decide (least ≤ l.length) && decide (l.length ≤ 3)
theorem bad_nodes (l : List Int) (least k : Nat) (hk : k < l.length) (h : okK l (k + 1) = false) : nodesB l least = false := by
  have : okK l l.length = false := by
    cases e : okK l l.length
    · rfl
    · rw [okK_le l l.length (k + 1) (by omega) e] at h; exact h
  simp [nodesB, this]
def OkAt (l : List Int) (k : Nat) : Prop := okK l k = true
def SameHeap (w wr : World) : Prop := wr.heap = w.heap ∧ wr.os = w.os ∧ wr.tape = w.tape ∧ wr.output = w.output
theorem SameHeap.drew {w wr : World} (h : SameHeap w wr) (n : Nat) : SameHeap w (wr.drewN n) := h
theorem SameHeap.drew1 {w wr : World} (h : SameHeap w wr) : SameHeap w wr.drew := h
theorem cell_same {w wr : World} (h : SameHeap w wr) (b o : Nat) : wr.cell? ⟨b, o, none⟩ = w.cell? ⟨b, o, none⟩ := by simp only [World.cell?, h.1]
theorem SameHeap.below {w wr : World} (h : SameHeap w wr) : Below w.heap.size w wr := ⟨h.2.1, h.2.2.1, h.2.2.2, by rw [h.1]; exact Nat.le_refl _, fun k _ => by rw [h.1]⟩
theorem below_same {B : Nat} {x w wr : World} (h : Below B x w) (hs : SameHeap w wr) : Below B x wr :=
  ⟨hs.2.1.trans h.os, hs.2.2.1.trans h.tape, hs.2.2.2.trans h.output, by rw [hs.1]; exact h.size, fun k hk => by rw [hs.1]; exact h.block k hk⟩
theorem SR.same {w wr : World} {v : Value} {size n : Nat} {xs : List Value} (h : SR w v size n xs) (hs : SameHeap w wr) : SR wr v size n xs := h.below hs.below
theorem same_trans {a b c : World} (h : SameHeap a b) (k : SameHeap b c) : SameHeap a c := ⟨k.1.trans h.1, k.2.1.trans h.2.1, k.2.2.1.trans h.2.2.1, k.2.2.2.trans h.2.2.2⟩
def BoolPost (r : Bool) (w : World) (e : Ending) (w' : World) : Prop := e = .returned (.bool r) ∧ ∃ n, w' = w.drewN n
theorem BoolPost.heap {r : Bool} {w w' : World} {e : Ending} (h : BoolPost r w e w') : e = .returned (.bool r) ∧ SameHeap w w' := by
  obtain ⟨he, n, rfl⟩ := h
  exact ⟨he, rfl, rfl, rfl, rfl⟩
theorem quiet_l {P : Program} {f : FuncId} {args : Array Value} {w : World} {a n : Nat} {v : Value} (h : Calls P f args (w.drewN (a + n)) fun e w' => e = .returned v ∧ w.drewN (a + n) = w') :
    Calls P f args (w.drewN (a + n)) fun e w'' => e = .returned v ∧ ∃ m, w'' = w.drewN (a + m) := h.mono fun _ _ ⟨he, hm⟩ => ⟨he, n, hm.symm⟩
end Go.Proofs.Ytodjlaapmbnahaa
