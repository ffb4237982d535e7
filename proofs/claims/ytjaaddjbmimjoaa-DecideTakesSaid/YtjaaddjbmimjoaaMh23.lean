/-
  Several texts, laid together.
-/
import Derived.Test.YtjaaddjbmimjoaaMh16
import Derived.Test.YtjaaddjbmimjoaaMh22
import Derived.Deep.RegionLawGrows
/-
  A log of given entries: rlog.New.
-/


namespace Go.Proofs.Ytjaaddjbmimjoaa
open Go.RowKit
set_option linter.unusedVariables false
set_option linter.unusedSimpArgs false

/-- what an entry says -/
def EN.k (e : EN) : Int × Int × CF := (e.t, e.x, e.c)
theorem EN.at_.below {e : EN} {w w' : World} (h : e.at_ w) (hb : Below w.heap.size w w') : e.at_ w' := CFat.below h hb
end Go.Proofs.Ytjaaddjbmimjoaa
/-
  A log whose entries fill their row: Add, where what is laid goes into a new row.
-/


namespace Go.Proofs.Ytjaaddjbmimjoaa
open Go.RowKit
set_option linter.unusedVariables false
set_option linter.unusedSimpArgs false

/-- a log behind no place whose slice has no room -/
structure LogF (w : World) (N g : Nat) (ao : Option Addr) (n : Nat) (es : List EN) : Prop where
  low : N ≤ g
  obj : w.heap[g]? = some (.cells #[.int .i64 0, .int .i64 0, .slice ao n n] 124)
  nn : ao = none → n = 0
  rd : ao = none ∨ ∃ b off, ao = some ⟨b, off, none⟩ ∧ b < w.heap.size ∧ ∀ (j : Nat) u, (enCells es)[j]? = some u → w.cell? ⟨b, off + j, none⟩ = some u
  lists : ∀ e ∈ es, e.own N w
theorem LogF.below {w w' : World} {N g n : Nat} {ao : Option Addr} {ts : List EN} (h : LogF w N g ao n ts) (hb : Below w.heap.size w w') : LogF w' N g ao n ts :=
  ⟨h.low, below_at hb (lt_heap h.obj) h.obj, h.nn, h.rd.imp id fun ⟨b, off, e, hl, hc⟩ => ⟨b, off, e, Nat.lt_of_lt_of_le hl hb.size, fun j u hj => (hb.cell (p := ⟨b, off + j, none⟩) hl).trans (hc j u hj)⟩, fun e he => CFO.below (h.lists e he) hb⟩
theorem LogF.cells {w : World} {N g n : Nat} {ao : Option Addr} {ts : List EN} (h : LogF w N g ao n ts) : w.cell? ⟨g, 0, none⟩ = some (.int .i64 0) ∧ w.cell? ⟨g, 1, none⟩ = some (.int .i64 0) ∧ w.cell? ⟨g, 2, none⟩ = some (.slice ao n n) ∧ w.frozen? ⟨g, 2, none⟩ = false :=
  ⟨cell_atD h.obj 0 rfl, cell_atD h.obj 1 rfl, cell_atD h.obj 2 rfl, by have := h.obj; simp [World.frozen?, this]⟩
end Go.Proofs.Ytjaaddjbmimjoaa
