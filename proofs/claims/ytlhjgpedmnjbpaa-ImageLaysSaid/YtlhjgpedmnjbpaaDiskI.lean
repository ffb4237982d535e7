/-
  The waking call of layer 4; DiskNone.
-/
import Derived.Test.YtlhjgpedmnjbpaaDiskC
import Derived.Test.YtlhjgpedmnjbpaaDiskD
import Derived.Test.YtlhjgpedmnjbpaaDiskG
import Derived.Test.YtlhjgpedmnjbpaaDiskH
namespace Go.Proofs.Ytlhjgpedmnjbpaa
open Go.RowKit
set_option linter.unusedVariables false
set_option linter.unusedSimpArgs false

theorem set_zeros (n j : Nat) : (List.replicate n (0 : UInt8)).set j 0 = List.replicate n 0 := by
  apply List.ext_getElem?
  intro i
  rw [List.getElem?_set]
  split
  · rename_i h
    subst h
    by_cases hj : j < n <;> simp [hj]
  · rfl
theorem sec_step {w wr : World} {G j : Nat} {l : List UInt8} {t : TypeId} (hl : l = List.replicate 64 0) (hx : wr.heap[G]? = some (.cells (bCells l).toArray t)) (hb : Below G w wr) :
    (wr.setCell ⟨G, j, none⟩ (.int .u8 0)).heap[G]? = some (.cells (bCells l).toArray t) ∧ Below G w (wr.setCell ⟨G, j, none⟩ (.int .u8 0)) := by
  refine ⟨?_, hb.setCell (Nat.le_refl _) _⟩
  have e := bCells_set l j 0
  simp only [UInt8.toNat_zero, Int.ofNat_eq_natCast] at e
  rw [heap_set_self hx]
  have e2 : l.set j 0 = l := by
    rw [hl]
    exact set_zeros 64 j
  rw [e2] at e
  exact congrArg some (congrArg (fun c => Obj.cells c t (0, 0)) e)
/-- a disk that has been read stays -/
theorem curD_nil (n k : Nat) (h : k < n) : curD (freshS n) [] k = zeroL 64 := by
  simp [curD, freshS, h]
theorem crash_zero (S : List ByteArray) (L : List (Nat × ByteArray)) : crashS 0 S L = S := by
  unfold crashS
  have : ∀ k, endS (fun j => (fateU 0 j : Nat)) k S L = S := by
    induction L generalizing S with
    | nil => intro k; rfl
    | cons x L ih =>
      intro k
      have h : fateS ((fateU 0 k : Nat) : Int) S x = S := by simp [fateU, fateS]
      show endS _ (k + 1) (fateS ((fateU 0 k : Nat) : Int) S x) L = S
      rw [h]
      exact ih S (k + 1)
  exact this 0
end Go.Proofs.Ytlhjgpedmnjbpaa
