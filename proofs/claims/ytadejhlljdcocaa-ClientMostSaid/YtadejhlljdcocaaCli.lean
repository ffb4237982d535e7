/-
  A history of what clients asked and were told, in memory: its events, and the numbers that are open.
-/
import Derived.Test.YtadejhlljdcocaaHeld
import Derived.Test.YtadejhlljdcocaaEq
import Derived.Test.YtadejhlljdcocaaFits
import Derived.Test.YtadejhlljdcocaaShelf
import Derived.Maps.Own
import Derived.Maps.OwnSet
import Derived.Maps.RangeWalk
namespace Go.Proofs.Ytadejhlljdcocaa
open Go.RowKit
open Go.Maps (Keyed)
set_option linter.unusedVariables false
set_option linter.unusedSimpArgs false

/-- an event -/
structure EV where
  ans : Bool
  id : Int
  gate : Int
  what : Int
  at_ : Int
  len : Int
  data : ByteArray
  sure : Bool
  err : Int
  txt : ByteArray
def EV.c (e : EV) : List Value := [.bool e.ans, .int .i64 e.id, .int .i64 e.gate, .int .i64 e.what, .int .i64 e.at_, .int .i64 e.len, .string e.data, .bool e.sure, .int .i64 e.err, .string e.txt]
def evC (l : List EV) : List Value := l.flatMap EV.c
theorem evC_append (a b : List EV) : evC (a ++ b) = evC a ++ evC b := by simp [evC]
theorem evC_length (l : List EV) : (evC l).length = l.length * 10 := by
  induction l with
  | nil => rfl
  | cons x t ih => simp only [evC, List.flatMap_cons, List.length_append] at ih ⊢; rw [ih]; simp [EV.c]; omega
theorem evC_one (l : List EV) : ∀ y ∈ evC l, y.oneCell' = true := by
  intro y hy
  simp only [evC, List.mem_flatMap] at hy
  obtain ⟨u, hu, hy⟩ := hy
  simp only [EV.c, List.mem_cons, List.not_mem_nil, or_false] at hy
  rcases hy with rfl | rfl | rfl | rfl | rfl | rfl | rfl | rfl | rfl | rfl <;> rfl
theorem evC_get : ∀ (l : List EV) (j : Nat) (x : EV), l[j]? = some x → ∀ k v, x.c[k]? = some v → k < 10 → (evC l)[j * 10 + k]? = some v
  | [], j, t, h, _, _, _, _ => by simp at h
  | x :: r, 0, t, h, k, v, hv, hk => by
    simp at h
    subst h
    simp only [evC, List.flatMap_cons]
    rw [List.getElem?_append_left (by simp [EV.c]; omega)]
    simpa using hv
  | x :: r, j + 1, t, h, k, v, hv, hk => by
    simp only [evC, List.flatMap_cons]
    rw [List.getElem?_append_right (by simp [EV.c]; omega)]
    have := evC_get r j t (by simpa using h) k v hv hk
    simp only [evC] at this
    rw [← this]
    congr 1
    simp [EV.c]
    omega
noncomputable abbrev plI : Value → Option (DataW Unit × List MemPlace) := plainElem Try.prog 3
theorem keyI : Keyed Try.prog 3 := Go.Maps.int_keyed Try.underlying3
/-- a history at p, its map at b: its events, how many were asked, which are open -/
structure Hist (w : World) (N p b : Nat) (sv : Value) (E : List EV) (n : Nat) (op : List Int) : Prop where
  obj : w.heap[p]? = some (.cells #[sv, .int .i64 n, .map (some b)] 171)
  ev : w.ownsRow N 104 10 sv E.length (evC E)
  map : ∃ D, w.ownsMap Try.prog 3 plI b n D ∧ ∀ x, Maps.has D (.int .i64 x) = decide (x ∈ op)
  low : N ≤ p ∧ N ≤ b
  up : op.Pairwise (· < ·)
  rng : ∀ x ∈ op, 1 ≤ x ∧ x ≤ n
theorem own_type {w : World} {base g : Nat} {e : TypeId} {size n : Nat} {v : Value} {xs : List Value} (h : w.ownsRow base e size v n xs) (hv : v.ownBlock = some g) : ∃ cur, w.heap[g]? = some (.cells cur e (0, 0)) := by
  rcases h.2 with ⟨rfl, -⟩ | ⟨b, cap, cur, rfl, hb, hg, -⟩
  · cases hv
  · injection hv with hv
    subst hv
    exact ⟨cur, hg⟩
theorem own_move {w w' : World} {base : Nat} {e : TypeId} {size n : Nat} {v : Value} {xs : List Value} (h : w.ownsRow base e size v n xs) (hk : ∀ g, v.ownBlock = some g → w'.heap[g]? = w.heap[g]?) : w'.ownsRow base e size v n xs := by
  refine ⟨h.1, ?_⟩
  rcases h.2 with hn | ⟨g, cap, cur, rfl, hb, hg, rest⟩
  · exact .inl hn
  · exact .inr ⟨g, cap, cur, rfl, hb, (hk g rfl).trans hg, rest⟩
theorem Hist.ne {w : World} {N p b : Nat} {sv : Value} {E : List EV} {n : Nat} {op : List Int} (h : Hist w N p b sv E n op) : p ≠ b ∧ sv.ownBlock ≠ some p ∧ sv.ownBlock ≠ some b := by
  obtain ⟨D, ⟨es, clock, hm, -⟩, -⟩ := h.map
  refine ⟨fun e => ?_, fun e => ?_, fun e => ?_⟩
  · have := h.obj; rw [e, hm] at this; cases this
  · obtain ⟨cur, hc⟩ := own_type h.ev e
    rw [h.obj] at hc
    injection hc with hc
    injection hc with _ hc
    exact absurd hc (by decide)
  · obtain ⟨cur, hc⟩ := own_type h.ev e
    rw [hm] at hc
    cases hc
/-- what a change of it leaves -/
structure HKept (w w' : World) (p b : Nat) (sv sv' : Value) : Prop where
  os : w'.os = w.os
  tape : w'.tape = w.tape
  output : w'.output = w.output
  size : w.heap.size ≤ w'.heap.size
  block : ∀ k, k < w.heap.size → k ≠ p → k ≠ b → some k ≠ sv.ownBlock → w'.heap[k]? = w.heap[k]?
  new : ∀ k, sv'.ownBlock = some k → sv.ownBlock = some k ∨ w.heap.size ≤ k
theorem Hist.below {w w' : World} {N p b : Nat} {sv : Value} {E : List EV} {n : Nat} {op : List Int} (h : Hist w N p b sv E n op) (hb : Below w.heap.size w w') : Hist w' N p b sv E n op := by
  obtain ⟨D, hm, hh⟩ := h.map
  refine ⟨below_at hb (lt_heap h.obj) h.obj, owns_below h.ev hb, ⟨D, ?_, hh⟩, h.low, h.up, h.rng⟩
  have hlt := hm.lt
  obtain ⟨es, clock, h1, F⟩ := hm
  exact ⟨es, clock, (hb.block b hlt).trans h1, F⟩
theorem HKept.of_below {w w' : World} {p b : Nat} {sv : Value} (hb : Below w.heap.size w w') : HKept w w' p b sv sv := ⟨hb.os, hb.tape, hb.output, hb.size, fun k hk _ _ _ => hb.block k hk, fun k e => .inl e⟩
theorem HKept.trans {w x y : World} {p b : Nat} {s1 s2 s3 : Value} (h : HKept w x p b s1 s2) (k : HKept x y p b s2 s3) : HKept w y p b s1 s3 := by
  refine ⟨k.os.trans h.os, k.tape.trans h.tape, k.output.trans h.output, Nat.le_trans h.size k.size, fun i hi h1 h2 h3 => ?_, fun i e => ?_⟩
  · refine (k.block i (Nat.lt_of_lt_of_le hi h.size) h1 h2 fun e => ?_).trans (h.block i hi h1 h2 h3)
    rcases h.new i e.symm with q | q
    · exact h3 q.symm
    · omega
  · rcases k.new i e with q | q
    · exact h.new i q
    · exact .inr (Nat.le_trans h.size q)
/-- blocks below the history's own stay -/
theorem HKept.below {w w' : World} {N p b : Nat} {sv sv' : Value} {E : List EV} {n : Nat} {op : List Int} (h : Hist w N p b sv E n op) (k : HKept w w' p b sv sv') (hN : N ≤ w.heap.size) : Below N w w' :=
  ⟨k.os, k.tape, k.output, k.size, fun i hi => k.block i (by omega) (by have := h.low.1; omega) (by have := h.low.2; omega) (fun e => by have := (h.ev.lt i e.symm).1; omega)⟩
/-- a list that lies apart from it -/
def HApart (u sv : Value) (p b : Nat) : Prop := ∀ k, u.ownBlock = some k → k ≠ p ∧ k ≠ b ∧ sv.ownBlock ≠ some k
theorem own_hkept {w w' : World} {base p b : Nat} {e : TypeId} {size n : Nat} {u sv sv' : Value} {xs : List Value} (h : w.ownsRow base e size u n xs) (k : HKept w w' p b sv sv') (ha : HApart u sv p b) : w'.ownsRow base e size u n xs ∧ HApart u sv' p b := by
  have hlt : ∀ g, u.ownBlock = some g → g < w.heap.size := fun g eg => by
    obtain ⟨cur, hc⟩ := own_type h eg
    exact lt_heap hc
  refine ⟨own_move h fun g eg => k.block g (hlt g eg) (ha g eg).1 (ha g eg).2.1 (fun q => (ha g eg).2.2 q.symm), fun g eg => ⟨(ha g eg).1, (ha g eg).2.1, fun q => ?_⟩⟩
  rcases k.new g q with r | r
  · exact (ha g eg).2.2 r
  · have := hlt g eg; omega
end Go.Proofs.Ytadejhlljdcocaa
