/-
  The contract of a source's Num.
-/
import Derived.Test.YtnjklhmnkjejfaaNumD
namespace Go.Proofs.Ytnjklhmnkjejfaa
open Go.RowKit
set_option linter.unusedVariables false

def numS2 (q : RS) (b : List UInt8) (limit : Nat) : RS := if b = [] then q else if b.getD 0 0 = 0 ∨ limit < valN b then q.fail 3 else q
def numV2 (b : List UInt8) (limit : Nat) : Nat := if b = [] then 0 else if b.getD 0 0 = 0 ∨ limit < valN b then 0 else valN b
def numS1 (p : RS) (h : List UInt8) (limit : Nat) : RS := if h = [] then p else if 8 < (h.getD 0 0).toNat then p.fail 3 else numS2 (p.takeS (h.getD 0 0).toNat) (p.takeB (h.getD 0 0).toNat) limit
def numV1 (p : RS) (h : List UInt8) (limit : Nat) : Nat := if h = [] then 0 else if 8 < (h.getD 0 0).toNat then 0 else numV2 (p.takeB (h.getD 0 0).toNat) limit
def RS.numS (r : RS) (limit : Nat) : RS := numS1 (r.takeS 1) (r.takeB 1) limit
def RS.numV (r : RS) (limit : Nat) : Nat := numV1 (r.takeS 1) (r.takeB 1) limit
theorem str_idx (l : List UInt8) (k : Nat) (h : k < (⟨l.toArray⟩ : ByteArray).size) : (⟨l.toArray⟩ : ByteArray)[k] = l.getD k 0 := by
  have hk : k < l.length := by simpa [ByteArray.size] using h
  show l.toArray[k] = _
  simp [List.getD, hk]

theorem or_byte (x : Nat) (c : UInt8) (h : x < 72057594037927936) : bits .or .u64 (IntKind.u64.wrap ((x : Int) * 256)) (IntKind.u64.wrap (c.toNat : Int)) = ((x * 256 + c.toNat : Nat) : Int) := by
  have hc := c.toNat_lt
  rw [wrap_u64_in _ ⟨by omega, by omega⟩, wrap_u64_in _ ⟨by omega, by omega⟩, show ((x : Int) * 256) = ((x * 256 : Nat) : Int) by simp, u64_or_nat _ _ (by omega) (by omega)]
  have := Nat.two_pow_add_eq_or_of_lt (i := 8) (b := c.toNat) (by omega) x
  rw [Nat.mul_comm x 256]
  exact congrArg _ this.symm
theorem valN_take (l : List UInt8) (k : Nat) (h : k < l.length) : valN (l.take (k + 1)) = valN (l.take k) * 256 + (l.getD k 0).toNat := by
  rw [List.take_succ_eq_append_getElem h, valN_snoc]
  simp [List.getD, h]
theorem valN_small (l : List UInt8) (k : Nat) (h : k ≤ 7) : valN (l.take k) < 72057594037927936 := by
  have h1 := valN_lt (l.take k)
  have h2 : (l.take k).length ≤ 7 := Nat.le_trans (List.length_take_le _ _) h
  exact Nat.lt_of_lt_of_le h1 (Nat.le_trans (Nat.pow_le_pow_right (by omega) h2) (by decide))

theorem takeB_len (r : RS) (n : Int) : (r.takeB n).length ≤ n.toNat := by
  unfold RS.takeB
  split
  · simp
  · split
    · simp
    · exact List.length_take_le _ _

theorem numV_le (r : RS) (limit : Nat) : r.numV limit ≤ limit := by
  unfold RS.numV numV1 numV2
  repeat' split
  all_goals omega
theorem numS_err (r : RS) (limit : Nat) (h : r.e ≠ 0) : r.numS limit = r := by
  simp [RS.numS, numS1, RS.takeB, RS.takeS, h]
theorem numV_err (r : RS) (limit : Nat) (h : r.e ≠ 0) : r.numV limit = 0 := by
  simp [RS.numV, numV1, RS.takeB, h]
end Go.Proofs.Ytnjklhmnkjejfaa
