/-
  The contracts of num's Word, Text, Bool, From, and of the document's own Put, High, Word, Text, Bool: the bytes that they make.
-/
import Derived.Test.YtnjklhmnkjejfaaNumB
import Derived.Deep.RegionWith
import Derived.Deep.RegionHeld3
namespace Go.Proofs.Ytnjklhmnkjejfaa
open Go.RowKit
set_option linter.unusedVariables false

theorem bcell {W w1 : World} (hb : Below W.heap.size W w1) : (∀ b o, b < W.heap.size → w1.cell? ⟨b, o, none⟩ = W.cell? ⟨b, o, none⟩) ∧ (∀ b o, b < W.heap.size → w1.frozen? ⟨b, o, none⟩ = W.frozen? ⟨b, o, none⟩) :=
  ⟨fun b o h => hb.cell (p := ⟨b, o, none⟩) h, fun b o h => hb.frozen (p := ⟨b, o, none⟩) h⟩

/-- a truth's letter -/
def boolB (b : Bool) : List UInt8 := if b then [121] else [110]
theorem wrap_u64_in (x : Int) (h : U64 x) : IntKind.u64.wrap x = x := by
  unfold U64 at h
  simp [IntKind.wrap, IntKind.signed, IntKind.bits]
  omega
theorem wrap_u8_in (x : Int) (h0 : 0 ≤ x) (h1 : x ≤ 255) : IntKind.u8.wrap x = x := by
  simp [IntKind.wrap, IntKind.signed, IntKind.bits]
  omega
end Go.Proofs.Ytnjklhmnkjejfaa
