/-
  Several texts, laid together.
-/
import Derived.Test.YtadejhlljdcocaaMg5
import Derived.Deep.RegionWith
import Derived.Deep.RegionHeld3
import Derived.Test.YtadejhlljdcocaaMg4
/-
  The contracts of num's Word, Text, Bool, From, and of the document's own Put, High, Word, Text, Bool: the bytes that they make.
-/



namespace Go.Proofs.Ytadejhlljdcocaa
open Go.RowKit
set_option linter.unusedVariables false

theorem bcell {W w1 : World} (hb : Below W.heap.size W w1) : (∀ b o, b < W.heap.size → w1.cell? ⟨b, o, none⟩ = W.cell? ⟨b, o, none⟩) ∧ (∀ b o, b < W.heap.size → w1.frozen? ⟨b, o, none⟩ = W.frozen? ⟨b, o, none⟩) :=
  ⟨fun b o h => hb.cell (p := ⟨b, o, none⟩) h, fun b o h => hb.frozen (p := ⟨b, o, none⟩) h⟩

/-- a truth's letter -/
def boolB (b : Bool) : List UInt8 := if b then [121] else [110]
theorem wrap_u64_in (x : Int) (h : U64 x) : IntKind.u64.wrap x = x := by
  unfold U64 at h
  simp [IntKind.wrap, IntKind.signed, IntKind.bits]
  omega
theorem wrap_u8_in (x : Int) (h0 : 0 ≤ x) (h1 : x ≤ 255) : IntKind.u8.wrap x = x := by
  simp [IntKind.wrap, IntKind.signed, IntKind.bits]
  omega
end Go.Proofs.Ytadejhlljdcocaa
/-
  The contracts of the document's own Put, Word, Text, Bool and List, and of num's List.
-/


namespace Go.Proofs.Ytadejhlljdcocaa
open Go.RowKit
set_option linter.unusedVariables false

theorem needN4 (n : Nat) (h : n ≤ 4294967295) : needN n ≤ 4 := by
  have := Lib.bitLen_le n 32 (by omega) (by omega)
  unfold needN; omega
theorem beN_zero_lead (k m n : Nat) (hk : k ≤ m) (h : n < 256 ^ k) : beN m n = List.replicate (m - k) 0 ++ beN k n := by
  induction m with
  | zero =>
    obtain rfl : k = 0 := by omega
    rfl
  | succ m ih =>
    by_cases e : k = m + 1
    · subst e; simp
    · rw [beN, ih (by omega), show m + 1 - k = (m - k) + 1 by omega, List.replicate_succ]
      have : n / 256 ^ m = 0 := Nat.div_eq_of_lt (Nat.lt_of_lt_of_le h (Nat.pow_le_pow_right (by omega) (by omega)))
      rw [this]; rfl
/-- a slice of ints that reads so: nil, or a row of cells -/
def Ints (w : World) (v : Value) (zs : List Int) : Prop :=
  ∃ a cap, v = .slice a zs.length cap ∧ zs.length ≤ 9223372036854775807 ∧ (zs = [] ∨ ∃ b off, a = some ⟨b, off, none⟩ ∧ b < w.heap.size ∧ ∀ j, j < zs.length → w.cell? ⟨b, off + j, none⟩ = some (.int .i64 (zs.getD j 0)))
def listN (l : List Int) : List UInt8 := putN l.length ++ l.flatMap fun x => putN x.toNat
theorem listN_snoc (n : Nat) (l : List Int) (k : Nat) (h : k < l.length) : putN n ++ ((l.take k).flatMap fun x => putN x.toNat) ++ putN (l.getD k 0).toNat = putN n ++ (l.take (k + 1)).flatMap fun x => putN x.toNat := by
  rw [List.take_succ_eq_append_getElem h, List.flatMap_append]
  simp [List.getD, h]
theorem flat_len (l : List Int) (hl : ∀ x ∈ l, x ≤ 9223372036854775807) : (l.flatMap fun x => putN x.toNat).length ≤ 9 * l.length := by
  induction l with
  | nil => simp
  | cons x l ih =>
    have := putN_length x.toNat (by have := hl x (by simp); omega)
    have := ih (fun y hy => hl y (by simp [hy]))
    simp at *; omega
end Go.Proofs.Ytadejhlljdcocaa
/-
  The contract of a source's Num.
-/

namespace Go.Proofs.Ytadejhlljdcocaa
open Go.RowKit
set_option linter.unusedVariables false

def numS2 (q : RS) (b : List UInt8) (limit : Nat) : RS := if b = [] then q else if b.getD 0 0 = 0 ∨ limit < valN b then q.fail 3 else q
def numV2 (b : List UInt8) (limit : Nat) : Nat := if b = [] then 0 else if b.getD 0 0 = 0 ∨ limit < valN b then 0 else valN b
def numS1 (p : RS) (h : List UInt8) (limit : Nat) : RS := if h = [] then p else if 8 < (h.getD 0 0).toNat then p.fail 3 else numS2 (p.takeS (h.getD 0 0).toNat) (p.takeB (h.getD 0 0).toNat) limit
def numV1 (p : RS) (h : List UInt8) (limit : Nat) : Nat := if h = [] then 0 else if 8 < (h.getD 0 0).toNat then 0 else numV2 (p.takeB (h.getD 0 0).toNat) limit
def RS.numS (r : RS) (limit : Nat) : RS := numS1 (r.takeS 1) (r.takeB 1) limit
def RS.numV (r : RS) (limit : Nat) : Nat := numV1 (r.takeS 1) (r.takeB 1) limit
theorem str_idx (l : List UInt8) (k : Nat) (h : k < (⟨l.toArray⟩ : ByteArray).size) : (⟨l.toArray⟩ : ByteArray)[k] = l.getD k 0 := by
  have hk : k < l.length := by simpa [ByteArray.size] using h
  show l.toArray[k] = _
  simp [List.getD, hk]

theorem or_byte (x : Nat) (c : UInt8) (h : x < 72057594037927936) : bits .or .u64 (IntKind.u64.wrap ((x : Int) * 256)) (IntKind.u64.wrap (c.toNat : Int)) = ((x * 256 + c.toNat : Nat) : Int) := by
  have hc := c.toNat_lt
  rw [wrap_u64_in _ ⟨by omega, by omega⟩, wrap_u64_in _ ⟨by omega, by omega⟩, show ((x : Int) * 256) = ((x * 256 : Nat) : Int) by simp, u64_or_nat _ _ (by omega) (by omega)]
  have := Nat.two_pow_add_eq_or_of_lt (i := 8) (b := c.toNat) (by omega) x
  rw [Nat.mul_comm x 256]
  exact congrArg _ this.symm
theorem valN_take (l : List UInt8) (k : Nat) (h : k < l.length) : valN (l.take (k + 1)) = valN (l.take k) * 256 + (l.getD k 0).toNat := by
  rw [List.take_succ_eq_append_getElem h, valN_snoc]
  simp [List.getD, h]
theorem valN_small (l : List UInt8) (k : Nat) (h : k ≤ 7) : valN (l.take k) < 72057594037927936 := by
  have h1 := valN_lt (l.take k)
  have h2 : (l.take k).length ≤ 7 := Nat.le_trans (List.length_take_le _ _) h
  exact Nat.lt_of_lt_of_le h1 (Nat.le_trans (Nat.pow_le_pow_right (by omega) h2) (by decide))

theorem takeB_len (r : RS) (n : Int) : (r.takeB n).length ≤ n.toNat := by
  unfold RS.takeB
  split
  · simp
  · split
    · simp
    · exact List.length_take_le _ _

theorem numV_le (r : RS) (limit : Nat) : r.numV limit ≤ limit := by
  unfold RS.numV numV1 numV2
  repeat' split
  all_goals omega
theorem numS_err (r : RS) (limit : Nat) (h : r.e ≠ 0) : r.numS limit = r := by
  simp [RS.numS, numS1, RS.takeB, RS.takeS, h]
theorem numV_err (r : RS) (limit : Nat) (h : r.e ≠ 0) : r.numV limit = 0 := by
  simp [RS.numV, numV1, RS.takeB, h]
end Go.Proofs.Ytadejhlljdcocaa
