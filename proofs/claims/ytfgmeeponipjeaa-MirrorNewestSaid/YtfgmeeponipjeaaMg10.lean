/-
  Several texts, laid together.
-/
import Derived.Test.YtfgmeeponipjeaaMg9
import Derived.Test.YtfgmeeponipjeaaShelf
import Derived.Deep.RegionWith
import Derived.Deep.RegionHeld3
import Derived.Test.YtfgmeeponipjeaaMg8
/-
  The contracts of num's Put, Word, Text, Bool: the bytes that they make.
-/


namespace Go.Proofs.Ytfgmeeponipjeaa
open Go.RowKit
set_option linter.unusedVariables false

def U64 (n : Int) : Prop := 0 ≤ n ∧ n ≤ 18446744073709551615
theorem info_u8 : (Try.prog.info? 5).map (fun i => (i.zero, i.size, i.bytes)) = some (some (.int .u8 0), 1, 1) := by kernel_rfl

end Go.Proofs.Ytfgmeeponipjeaa
/-
  The contracts of num's Word, Text, Bool, From, and of the document's own Put, High, Word, Text, Bool: the bytes that they make.
-/



namespace Go.Proofs.Ytfgmeeponipjeaa
open Go.RowKit
set_option linter.unusedVariables false

theorem bcell {W w1 : World} (hb : Below W.heap.size W w1) : (∀ b o, b < W.heap.size → w1.cell? ⟨b, o, none⟩ = W.cell? ⟨b, o, none⟩) ∧ (∀ b o, b < W.heap.size → w1.frozen? ⟨b, o, none⟩ = W.frozen? ⟨b, o, none⟩) :=
  ⟨fun b o h => hb.cell (p := ⟨b, o, none⟩) h, fun b o h => hb.frozen (p := ⟨b, o, none⟩) h⟩

/-- a truth's letter -/
def boolB (b : Bool) : List UInt8 := if b then [121] else [110]
theorem wrap_u64_in (x : Int) (h : U64 x) : IntKind.u64.wrap x = x := by
  unfold U64 at h
  simp [IntKind.wrap, IntKind.signed, IntKind.bits]
  omega
theorem wrap_u8_in (x : Int) (h0 : 0 ≤ x) (h1 : x ≤ 255) : IntKind.u8.wrap x = x := by
  simp [IntKind.wrap, IntKind.signed, IntKind.bits]
  omega
end Go.Proofs.Ytfgmeeponipjeaa
/-
  The contracts of the document's own Put, Word, Text, Bool and List, and of num's List.
-/


namespace Go.Proofs.Ytfgmeeponipjeaa
open Go.RowKit
set_option linter.unusedVariables false

theorem needN4 (n : Nat) (h : n ≤ 4294967295) : needN n ≤ 4 := by
  have := Lib.bitLen_le n 32 (by omega) (by omega)
  unfold needN; omega
theorem beN_zero_lead (k m n : Nat) (hk : k ≤ m) (h : n < 256 ^ k) : beN m n = List.replicate (m - k) 0 ++ beN k n := by
  induction m with
  | zero =>
    obtain rfl : k = 0 := by omega
    rfl
  | succ m ih =>
    by_cases e : k = m + 1
    · subst e; simp
    · rw [beN, ih (by omega), show m + 1 - k = (m - k) + 1 by omega, List.replicate_succ]
      have : n / 256 ^ m = 0 := Nat.div_eq_of_lt (Nat.lt_of_lt_of_le h (Nat.pow_le_pow_right (by omega) (by omega)))
      rw [this]; rfl
/-- a slice of ints that reads so: nil, or a row of cells -/
def Ints (w : World) (v : Value) (zs : List Int) : Prop :=
  ∃ a cap, v = .slice a zs.length cap ∧ zs.length ≤ 9223372036854775807 ∧ (zs = [] ∨ ∃ b off, a = some ⟨b, off, none⟩ ∧ b < w.heap.size ∧ ∀ j, j < zs.length → w.cell? ⟨b, off + j, none⟩ = some (.int .i64 (zs.getD j 0)))
def listN (l : List Int) : List UInt8 := putN l.length ++ l.flatMap fun x => putN x.toNat
theorem listN_snoc (n : Nat) (l : List Int) (k : Nat) (h : k < l.length) : putN n ++ ((l.take k).flatMap fun x => putN x.toNat) ++ putN (l.getD k 0).toNat = putN n ++ (l.take (k + 1)).flatMap fun x => putN x.toNat := by
  rw [List.take_succ_eq_append_getElem h, List.flatMap_append]
  simp [List.getD, h]
theorem flat_len (l : List Int) (hl : ∀ x ∈ l, x ≤ 9223372036854775807) : (l.flatMap fun x => putN x.toNat).length ≤ 9 * l.length := by
  induction l with
  | nil => simp
  | cons x l ih =>
    have := putN_length x.toNat (by have := hl x (by simp); omega)
    have := ih (fun y hy => hl y (by simp [hy]))
    simp at *; omega
end Go.Proofs.Ytfgmeeponipjeaa
