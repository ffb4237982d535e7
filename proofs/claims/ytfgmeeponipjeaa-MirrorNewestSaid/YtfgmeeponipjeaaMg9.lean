/-
  Several texts, laid together.
-/
import Derived.Test.YtfgmeeponipjeaaMg8
import Derived.Test.YtfgmeeponipjeaaMg1
import Derived.WalkSpells
import Derived.WalkLawsBesides
import Derived.BigQuiet
import Derived.Deep.QuietTactic
/-
  item: Of; Block: a block's bytes.
-/


namespace Go.Proofs.Ytfgmeeponipjeaa
open Go.RowKit
set_option linter.unusedVariables false
set_option linter.unusedSimpArgs false

theorem bCells_set (l : List UInt8) (i : Nat) (c : UInt8) : (bCells l).toArray.setIfInBounds i (.int .u8 c.toNat) = (bCells (l.set i c)).toArray := by
  simp [bCells, List.map_set]
theorem block_step {w wr : World} {G j : Nat} {l : List UInt8} {c : UInt8} {t : TypeId} (hl : l.length = 32) (hx : wr.heap[G]? = some (.cells (bCells l).toArray t)) (hb : Below G w wr) :
    ∃ l' : List UInt8, l'.length = 32 ∧ (wr.setCell ⟨G, j, none⟩ (.int .u8 c.toNat)).heap[G]? = some (.cells (bCells l').toArray t) ∧ Below G w (wr.setCell ⟨G, j, none⟩ (.int .u8 c.toNat)) :=
  ⟨l.set j c, by rw [List.length_set]; exact hl, by rw [heap_set_self hx, bCells_set], hb.setCell (Nat.le_refl _) _⟩
theorem conv_block {P : Program} {src dst e : TypeId} (hs : P.underlying src = some (.slice e)) (he : P.underlying e = some (.int .u8)) (hd : P.underlying dst = some .string) {w : World} {g n : Nat} {l : List UInt8} {t : TypeId} {fr : Nat × Nat} (c : Nat) (hn : n = l.length)
    (h : w.heap[g]? = some (.cells (bCells l).toArray t fr)) : (convert src dst (.slice (some ⟨g, 0, none⟩) n c)).run P w = .ok (.string ⟨l.toArray⟩) w := by
  subst hn
  refine run_convert_bytes_back w src dst e ⟨g, 0, none⟩ c l hs he hd fun j hj => ?_
  have e1 : (⟨g, 0, none⟩ : Addr).add j = ⟨g, j, none⟩ := by unfold Addr.add; split <;> simp_all
  rw [e1]
  simp [World.cell?, h, bCells, hj]
end Go.Proofs.Ytfgmeeponipjeaa
/-
  The waking call of layer 8; ItemOf.
-/

namespace Go.Proofs.Ytfgmeeponipjeaa
open Go.RowKit
set_option linter.unusedVariables false
set_option linter.unusedSimpArgs false

theorem itemkey : Try.prog.keyTypeAt 4 54 = true := by kernel_rfl
theorem itemguard : Try.prog.eqGuardType Try.prog.depth 54 = false := by kernel_rfl
theorem item_formed (x : Int) (s : ByteArray) : (Value.agg #[.int .u64 x, .string s]).formed Try.prog 54 = true := by kernel_rfl
theorem item_lits (x : Int) (s : ByteArray) (hx : (Lit.int .u64 x).wf = true) (hs : s.size ≤ maxLen) : Try.prog.keyLits 4 54 [.int .u64 x, .string s] = some [.int .u64 x, .string s.data.toList] := by
  have c1 : Try.prog.cellsOf 54 = 2 := by kernel_rfl
  have c2 : Try.prog.cellsOf 51 = 1 := by kernel_rfl
  have c4 : Try.prog.cellsOf 9 = 1 := by kernel_rfl
  simp [Program.keyLits, Try.underlying54, Try.underlying51, Try.underlying9, c1, c2, c4, hx, hs]
theorem item_same (x : Int) (s : ByteArray) (w : World) (hx : (Lit.int .u64 x).wf = true) (hs : s.size ≤ maxLen) :
    (binOp .eql 54 (.agg #[.int .u64 x, .string s]) (.agg #[.int .u64 x, .string s])).run Try.prog w = .ok (.bool true) w :=
  (eq_deep (m := 4) (D := 4) (D' := 4) itemkey (by decide) (item_formed x s) (item_formed x s) (item_lits x s hx hs) (item_lits x s hx hs) true (by simp) w).1
end Go.Proofs.Ytfgmeeponipjeaa
/-
  The contracts of a source's small calls: Err, Wrong, Left, Take. Condition: the source is a block of its own (two cells), or nil.
-/





namespace Go.Proofs.Ytfgmeeponipjeaa
open Go.RowKit
set_option linter.unusedVariables false

/-- bytes that are left, and the first error -/
structure RS where
  s : List UInt8
  e : Int
def RS.fail (r : RS) (n : Int) : RS := if r.e = 0 ∧ n ≠ 0 then ⟨[], n⟩ else r
def RS.takeS (r : RS) (n : Int) : RS := if r.e ≠ 0 then r else if n < 0 ∨ (r.s.length : Int) < n then r.fail 2 else ⟨r.s.drop n.toNat, r.e⟩
def RS.takeB (r : RS) (n : Int) : List UInt8 := if r.e ≠ 0 then [] else if n < 0 ∨ (r.s.length : Int) < n then [] else r.s.take n.toNat

end Go.Proofs.Ytfgmeeponipjeaa
