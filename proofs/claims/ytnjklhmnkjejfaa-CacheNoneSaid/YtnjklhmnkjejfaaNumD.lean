/-
  The contracts of the document's own Put, Word, Text, Bool and List, and of num's List.
-/
import Derived.Test.YtnjklhmnkjejfaaNumC
import Derived.Test.YtnjklhmnkjejfaaBytes
namespace Go.Proofs.Ytnjklhmnkjejfaa
open Go.RowKit
set_option linter.unusedVariables false

theorem needN4 (n : Nat) (h : n ≤ 4294967295) : needN n ≤ 4 := by
  have := Lib.bitLen_le n 32 (by omega) (by omega)
  unfold needN; omega
theorem beN_zero_lead (k m n : Nat) (hk : k ≤ m) (h : n < 256 ^ k) : beN m n = List.replicate (m - k) 0 ++ beN k n := by
  induction m with
  | zero =>
    obtain rfl : k = 0 := by omega
    rfl
  | succ m ih =>
    by_cases e : k = m + 1
    · subst e; simp
    · rw [beN, ih (by omega), show m + 1 - k = (m - k) + 1 by omega, List.replicate_succ]
      have : n / 256 ^ m = 0 := Nat.div_eq_of_lt (Nat.lt_of_lt_of_le h (Nat.pow_le_pow_right (by omega) (by omega)))
      rw [this]; rfl
/-- a slice of ints that reads so: nil, or a row of cells -/
def Ints (w : World) (v : Value) (zs : List Int) : Prop :=
  ∃ a cap, v = .slice a zs.length cap ∧ zs.length ≤ 9223372036854775807 ∧ (zs = [] ∨ ∃ b off, a = some ⟨b, off, none⟩ ∧ b < w.heap.size ∧ ∀ j, j < zs.length → w.cell? ⟨b, off + j, none⟩ = some (.int .i64 (zs.getD j 0)))
def listN (l : List Int) : List UInt8 := putN l.length ++ l.flatMap fun x => putN x.toNat
theorem listN_snoc (n : Nat) (l : List Int) (k : Nat) (h : k < l.length) : putN n ++ ((l.take k).flatMap fun x => putN x.toNat) ++ putN (l.getD k 0).toNat = putN n ++ (l.take (k + 1)).flatMap fun x => putN x.toNat := by
  rw [List.take_succ_eq_append_getElem h, List.flatMap_append]
  simp [List.getD, h]
theorem flat_len (l : List Int) (hl : ∀ x ∈ l, x ≤ 9223372036854775807) : (l.flatMap fun x => putN x.toNat).length ≤ 9 * l.length := by
  induction l with
  | nil => simp
  | cons x l ih =>
    have := putN_length x.toNat (by have := hl x (by simp); omega)
    have := ih (fun y hy => hl y (by simp [hy]))
    simp at *; omega
end Go.Proofs.Ytnjklhmnkjejfaa
