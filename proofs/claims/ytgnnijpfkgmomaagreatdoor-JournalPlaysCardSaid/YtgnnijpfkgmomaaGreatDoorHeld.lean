/-
  Worlds in which the blocks below one stay as they were: for regions that call, load and draw. Of no program.
-/
import Derived.Test.YtgnnijpfkgmomaaGreatDoorMh3
import Derived.BigQuiet
import Derived.Handy
import Derived.WalkLawsBesides
import Derived.WalkSpells
import Derived.IntWalk
import Derived.Deep.DeepCutAuto
import Derived.Deep.QuietTactic
import Derived.Deep.RegionHeld3
import Derived.Deep.CutBlock
import Derived.Deep.RegionWith
import Derived.StillTailTactics
namespace Go.Proofs.YtgnnijpfkgmomaaGreatDoor
open Go.RowKit
set_option linter.unusedVariables false

/-- nothing of what was there has turned -/
def Stays (N : Nat) (w w' : World) : Prop := N ≤ w'.heap.size ∧ Below N w w'
theorem stays_of {N : Nat} {w w' : World} (h : N ≤ w.heap.size) (hb : Below w.heap.size w w') : Stays N w w' := ⟨Nat.le_trans h hb.size, hb.mono h⟩
theorem stays_refl {N : Nat} {w : World} (h : N ≤ w.heap.size) : Stays N w w := ⟨h, Below.refl _ _⟩
/-- what a drawn region keeps -/
def Keeps (N : Nat) (w w' : World) : Prop := N ≤ w'.heap.size ∧ Below N w w' ∧ ∀ b o, b < N → w'.cell? ⟨b, o, none⟩ = w.cell? ⟨b, o, none⟩
theorem keeps_start {N : Nat} {w : World} (h : w.heap.size = N) : N ≤ w.drew.heap.size ∧ Below N w w.drew ∧ ∀ b o, b < N → w.drew.cell? ⟨b, o, none⟩ = w.cell? ⟨b, o, none⟩ :=
  ⟨by rw [← h]; exact Nat.le_refl _, below_drew' (Below.refl _ _), fun _ _ _ => rfl⟩
theorem keeps_next {N : Nat} {w w' w'' : World} {X : Prop} (h1 : N ≤ w'.heap.size ∧ Below N w w' ∧ X) (h : Stays N w' w'') : N ≤ w''.heap.size ∧ Below N w w'' ∧ ∀ b o, b < N → w''.cell? ⟨b, o, none⟩ = w.cell? ⟨b, o, none⟩ :=
  ⟨h.1, h1.2.1.trans h.2, fun b o hb => (h1.2.1.trans h.2).cell (p := ⟨b, o, none⟩) hb⟩
theorem keeps_alloc {N : Nat} {w w' : World} {X : Prop} {o : Obj} (h1 : N ≤ w'.heap.size ∧ Below N w w' ∧ X) : N ≤ (w'.alloc o).heap.size ∧ Below N w (w'.alloc o) ∧ ∀ b k, b < N → (w'.alloc o).cell? ⟨b, k, none⟩ = w.cell? ⟨b, k, none⟩ :=
  keeps_next h1 ⟨by simp; exact Nat.le_succ_of_le h1.1, (Below.refl _ _).alloc h1.1 _⟩
theorem wf_le {z : Int} (h : (Lit.int .i64 z).wf = true) : -9223372036854775808 ≤ z ∧ z ≤ 9223372036854775807 := by
  simp [Lit.wf, IntKind.min, IntKind.max, IntKind.signed, IntKind.bits] at h
  omega
theorem wf_of {z : Int} (h : -9223372036854775808 ≤ z ∧ z ≤ 9223372036854775807) : (Lit.int .i64 z).wf = true := by
  simp [Lit.wf, IntKind.min, IntKind.max, IntKind.signed, IntKind.bits]
  omega
end Go.Proofs.YtgnnijpfkgmomaaGreatDoor
