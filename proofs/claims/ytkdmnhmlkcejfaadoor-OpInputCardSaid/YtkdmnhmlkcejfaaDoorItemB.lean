/-
  item: Of; Block: a block's bytes.
-/
import Derived.Test.YtkdmnhmlkcejfaaDoorItem
import Derived.Test.YtkdmnhmlkcejfaaDoorBytes
namespace Go.Proofs.YtkdmnhmlkcejfaaDoor
open Go.RowKit
set_option linter.unusedVariables false
set_option linter.unusedSimpArgs false

theorem bCells_set (l : List UInt8) (i : Nat) (c : UInt8) : (bCells l).toArray.setIfInBounds i (.int .u8 c.toNat) = (bCells (l.set i c)).toArray := by
  simp [bCells, List.map_set]
theorem block_step {w wr : World} {G j : Nat} {l : List UInt8} {c : UInt8} {t : TypeId} (hl : l.length = 32) (hx : wr.heap[G]? = some (.cells (bCells l).toArray t)) (hb : Below G w wr) :
    ∃ l' : List UInt8, l'.length = 32 ∧ (wr.setCell ⟨G, j, none⟩ (.int .u8 c.toNat)).heap[G]? = some (.cells (bCells l').toArray t) ∧ Below G w (wr.setCell ⟨G, j, none⟩ (.int .u8 c.toNat)) :=
  ⟨l.set j c, by rw [List.length_set]; exact hl, by rw [heap_set_self hx, bCells_set], hb.setCell (Nat.le_refl _) _⟩
theorem conv_block {P : Program} {src dst e : TypeId} (hs : P.underlying src = some (.slice e)) (he : P.underlying e = some (.int .u8)) (hd : P.underlying dst = some .string) {w : World} {g n : Nat} {l : List UInt8} {t : TypeId} {fr : Nat × Nat} (c : Nat) (hn : n = l.length)
    (h : w.heap[g]? = some (.cells (bCells l).toArray t fr)) : (convert src dst (.slice (some ⟨g, 0, none⟩) n c)).run P w = .ok (.string ⟨l.toArray⟩) w := by
  subst hn
  refine run_convert_bytes_back w src dst e ⟨g, 0, none⟩ c l hs he hd fun j hj => ?_
  have e1 : (⟨g, 0, none⟩ : Addr).add j = ⟨g, j, none⟩ := by unfold Addr.add; split <;> simp_all
  rw [e1]
  simp [World.cell?, h, bCells, hj]
end Go.Proofs.YtkdmnhmlkcejfaaDoor
