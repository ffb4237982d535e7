/-
  Rows of elements of several cells that are the call's own: copy within them, clear, what becomes of them. Of no program.
-/
import Derived.Test.YtgnnijpfkgmomaaGreatDoorHeld
import Derived.Laws.IdiomCopy
import Derived.Lib.Overlaps
import Derived.Deep.AppendLies
namespace Go.Proofs.YtgnnijpfkgmomaaGreatDoor
open Go.RowKit
set_option linter.unusedVariables false
set_option linter.unusedSimpArgs false

section
variable {P : Program}
/-- copy into a block of the call's own: the cells from o on become cs -/
theorem run_copy_own (w : World) (dT sT ty elem : TypeId) (size : Nat) (hu : P.underlying dT = some (.slice elem)) (hs : (P.info? elem).map (·.size) = some size)
    (b o dLen dCap : Nat) (e : TypeId) (cur : Array Value) (hb : w.heap[b]? = some (.cells cur e (0, 0)))
    (a : Addr) (sLen sCap : Nat) (cs : List Value) (k : Nat) (hk : Nat.min sLen dLen = k) (hn : cs.length = k * size) (hsrc : ∀ j v, cs[j]? = some v → w.cell? (a.add j) = some v)
    (hfit : o + cs.length ≤ cur.size) (h1 : ∀ v ∈ cs, v.oneCell' = true) :
    (Builtin.copy_ #[dT, sT] ty #[.slice (some ⟨b, o, none⟩) dLen dCap, .slice (some a) sLen sCap]).run P w = .ok (goInt k) (w.setRow b (cur.toList.take o ++ cs ++ cur.toList.drop (o + cs.length)).toArray) := by
  subst hk
  have hf := run_firstCells_some (P := P) w size (Nat.min sLen dLen) a sLen sCap cs hn hsrc
  have hst := run_storeCells_at P b o e cs 0 cur w hb (by simpa using hfit) h1
  simp only [Nat.add_zero] at hst
  cases hq : P.info? elem with
  | none => simp [hq] at hs
  | some i =>
    have hi : i.size = size := by simpa [hq] using hs
    simp [Builtin.copy_, run_underlying hu, Builtin.lenOf, sizeOf, typeInfo, hq, hi, hf, hst]
/-- clear of a part of a block of the call's own -/
theorem run_clear_own (w : World) (t e ty : TypeId) (z : Value) (ht : P.underlying t = some (.slice e)) (hv : ∀ w, (zeroValue e).run P w = .ok z w) (b o n c : Nat) (hn : 0 < n) (e' : TypeId) (cur : Array Value)
    (hb : w.heap[b]? = some (.cells cur e' (0, 0))) (zs : List Value) (hz : (Builtin.zeroCells z.cells n).toList = zs) (hfit : o + zs.length ≤ cur.size) (h1 : ∀ v ∈ zs, v.oneCell' = true) :
    (Builtin.clear_ #[t] ty #[.slice (some ⟨b, o, none⟩) n c]).run P w = .ok (.tuple #[]) (w.setRow b (cur.toList.take o ++ zs ++ cur.toList.drop (o + zs.length)).toArray) := by
  have hst := run_storeCells_at P b o e' zs 0 cur w hb (by simpa using hfit) h1
  simp only [Nat.add_zero] at hst
  obtain ⟨m, rfl⟩ : ∃ m, n = m + 1 := ⟨n - 1, by omega⟩
  simp [Builtin.clear_, run_underlying ht, hv, hz, hst]
end

theorem heap_size_setRow (w : World) (g : Nat) (cs : Array Value) : (w.setRow g cs).heap.size = w.heap.size := by simp
theorem grown_setRow {w w' : World} {row : Option Nat} {g : Nat} (h : w.grownBy w' row) (hg : row = some g ∨ w.heap.size ≤ g) (cs : Array Value) : w.grownBy (w'.setRow g cs) row := by
  refine ⟨h.os, h.tape, h.output, by simpa using h.size, fun k hk hr => ?_⟩
  rw [setRow_other _ _ _ _ (fun e => ?_)]
  · exact h.block k hk hr
  · subst e
    rcases hg with hg | hg
    · exact hr hg.symm
    · omega
theorem grown_setRow_drew {w : World} {g : Nat} {cs : Array Value} {row : Option Nat} (h : w.grownBy (w.setRow g cs) row) : w.grownBy (w.setRow g cs).drew row := ⟨h.os, h.tape, h.output, h.size, h.block⟩
/-- a row is a list of cells in its block -/
theorem own_of {w : World} {N g n cap size : Nat} {e : TypeId} {cur : Array Value} {xs : List Value} (hN : N ≤ g) (hg : w.heap[g]? = some (.cells cur e (0, 0))) (hnc : n ≤ cap) (hcm : cap ≤ maxLen) (hcs : cur.size = cap * size)
    (hx : xs.length = n * size) (ht : cur.toList.take (n * size) = xs) : w.ownsRow N e size (.slice (some ⟨g, 0, none⟩) n cap) n xs :=
  ⟨hx, .inr ⟨g, cap, cur, rfl, hN, hg, hnc, hcm, hcs, ht⟩⟩
theorem own_size {w : World} {base n size : Nat} {e : TypeId} {v : Value} {xs : List Value} (h : w.ownsRow base e size v n xs) {p : Nat} {e' : TypeId} {cs : Array Value} {fr : Nat × Nat} (hp : w.heap[p]? = some (.cells cs e' fr)) (hne : e' ≠ e) : v.ownBlock ≠ some p := by
  rcases h.2 with ⟨rfl, _⟩ | ⟨g, cap, cur, rfl, hb, hg, _⟩
  · intro he; cases he
  · intro he
    injection he with he
    simp only at he
    subst he
    rw [hg] at hp
    injection hp with hp
    injection hp with _ h2
    exact hne h2.symm
/-- a row stays where it is, or lies in a block that is new -/
def NewRow (w : World) (v v' : Value) : Prop := v'.ownBlock = v.ownBlock ∨ ∀ k, v'.ownBlock = some k → w.heap.size ≤ k
theorem newrow_new {w : World} {v : Value} {b n c : Nat} (h : w.heap.size ≤ b) : NewRow w v (.slice (some ⟨b, 0, none⟩) n c) := .inr fun k e => by cases e; exact h
theorem NewRow.trans {a b : World} {u v x : Value} (h : NewRow a u v) (g : NewRow b v x) (hs : a.heap.size ≤ b.heap.size) : NewRow a u x := by
  rcases g with g | g
  · rcases h with h | h
    · exact .inl (g.trans h)
    · exact .inr fun k e => h k (g.symm.trans e)
  · exact .inr fun k e => Nat.le_trans hs (g k e)
theorem obj_cell {w : World} {p : Nat} {v : Value} {t : TypeId} (h : w.heap[p]? = some (.cells #[v] t)) : w.cell? ⟨p, 0, none⟩ = some v := by simp [World.cell?, h]
theorem obj_frozen {w : World} {p : Nat} {v : Value} {t : TypeId} (h : w.heap[p]? = some (.cells #[v] t)) (o : Nat) : w.frozen? ⟨p, o, none⟩ = false := by simp [World.frozen?, h]
theorem grown_of_drew {w w' : World} {row : Option Nat} (h : w.drew.grownBy w' row) : w.grownBy w' row := ⟨h.os, h.tape, h.output, h.size, h.block⟩
theorem grown_below {w w' : World} (h : Below w.heap.size w w') (row : Option Nat) : w.grownBy w' row := ⟨h.os, h.tape, h.output, h.size, fun k hk _ => h.block k hk⟩
theorem grown_then {a b c : World} {row : Option Nat} (h : a.grownBy b row) (g : Below b.heap.size b c) : a.grownBy c row := ⟨g.os.trans h.os, g.tape.trans h.tape, g.output.trans h.output, Nat.le_trans h.size g.size, fun k hk hr => (g.block k (Nat.lt_of_lt_of_le hk h.size)).trans (h.block k hk hr)⟩

/-- an object of one cell at p, which leads to a row of its own: what a change of it leaves -/
structure OKept (w w' : World) (N p : Nat) (v v' : Value) : Prop where
  below : Below N w w'
  size : w.heap.size ≤ w'.heap.size
  block : ∀ k, k < w.heap.size → k ≠ p → some k ≠ v.ownBlock → w'.heap[k]? = w.heap[k]?
  new : NewRow w v v'
theorem OKept.refl (w : World) (N p : Nat) (v : Value) : OKept w w N p v v := ⟨Below.refl _ _, Nat.le_refl _, fun _ _ _ _ => rfl, .inl rfl⟩
theorem OKept.trans {a b c : World} {N p : Nat} {u v x : Value} (h : OKept a b N p u v) (g : OKept b c N p v x) : OKept a c N p u x := by
  refine ⟨h.below.trans g.below, Nat.le_trans h.size g.size, fun k hk hp hu => ?_, h.new.trans g.new h.size⟩
  refine (g.block k (Nat.lt_of_lt_of_le hk h.size) hp fun e => ?_).trans (h.block k hk hp hu)
  rcases h.new with hn | hn
  · exact hu (e.trans hn)
  · exact absurd (hn k e.symm) (by omega)
theorem OKept.of_below {w w' : World} {N p : Nat} {v : Value} (h : Below w.heap.size w w') (hN : N ≤ w.heap.size) : OKept w w' N p v v := ⟨h.mono hN, h.size, fun k hk _ _ => h.block k hk, .inl rfl⟩
/-- a slice whose block is neither the object's nor its row's reads as it did -/
def Apart (mv ov : Value) (p : Nat) : Prop := ∀ b, mv.ownBlock = some b → b ≠ p ∧ some b ≠ ov.ownBlock
theorem sr_kept {w w' : World} {N p size n : Nat} {mv v v' : Value} {xs : List Value} (h : SR w mv size n xs) (ha : Apart mv v p) (hk : OKept w w' N p v v') : SR w' mv size n xs := by
  obtain ⟨a, cap, rfl, h1, h2, h3, h4⟩ := h
  refine ⟨a, cap, rfl, h1, h2, h3, h4.imp id ?_⟩
  rintro ⟨b, off, rfl, hb, hc⟩
  obtain ⟨n1, n2⟩ := ha b rfl
  refine ⟨b, off, rfl, Nat.lt_of_lt_of_le hb hk.size, fun j u hj => ?_⟩
  have := hk.block b hb n1 n2
  have hcu := hc j u hj
  simp only [World.cell?] at hcu ⊢
  rw [this]
  exact hcu
theorem apart_kept {w w' : World} {N p : Nat} {mv v v' : Value} (ha : Apart mv v p) (hb : ∀ b, mv.ownBlock = some b → b < w.heap.size) (hk : OKept w w' N p v v') : Apart mv v' p := by
  intro b e
  obtain ⟨n1, n2⟩ := ha b e
  refine ⟨n1, fun e2 => ?_⟩
  rcases hk.new with hn | hn
  · exact n2 (e2.trans hn)
  · exact absurd (hn b e2.symm) (by have := hb b e; omega)
end Go.Proofs.YtgnnijpfkgmomaaGreatDoor
