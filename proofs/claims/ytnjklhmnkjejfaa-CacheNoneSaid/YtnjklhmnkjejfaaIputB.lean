/-
  Items there and back: what is put (layer 8).
-/
import Derived.Test.YtnjklhmnkjejfaaIput
namespace Go.Proofs.Ytnjklhmnkjejfaa
open Go.RowKit
set_option linter.unusedVariables false
set_option linter.unusedSimpArgs false

def MayT (b : Bool) (v : Int) (D : ByteArray) : Prop := (∀ w, Calls Try.prog 34 #[.agg (itemA v D)] w fun e w' => e = .returned (.bool b) ∧ Below w.heap.size w w') ∧ ∀ w, Calls Try.prog 55 #[.agg (itemA v D)] w fun e w' => e = .returned (.bool b) ∧ Below w.heap.size w w'
theorem may_cases (v : Int) (D : ByteArray) : ∃ b, MayT b v D ∧ (b = false → D ≠ ⟨#[]⟩) ∧ (b = true → D.size ≤ 32) := by
  by_cases h : D = ⟨#[]⟩
  · subst h
    exact ⟨true, ⟨imay_none v, rmay_none v⟩, by simp, fun _ => by decide⟩
  · by_cases h2 : D.size = 32
    · by_cases h3 : D = zeroL 32
      · exact ⟨false, ⟨fun w => imay_zero v D w h2 h3, fun w => rmay_zero v D w h2 h3⟩, fun _ => h, by simp⟩
      · exact ⟨true, ⟨fun w => imay_some v D w h2 h3, fun w => rmay_some v D w h2 h3⟩, by simp, fun _ => by omega⟩
    · exact ⟨false, ⟨fun w => imay_bad v D w h h2, fun w => rmay_bad v D w h h2⟩, fun _ => h, by simp⟩
def putI (v : Int) (l : List UInt8) : List UInt8 := putN v.toNat ++ (putN l.length ++ l)
end Go.Proofs.Ytnjklhmnkjejfaa
