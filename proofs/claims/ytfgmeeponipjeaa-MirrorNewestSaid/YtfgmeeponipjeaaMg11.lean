/-
  Several texts, laid together.
-/
import Derived.Test.YtfgmeeponipjeaaMg10
/-
  The contract of a source's Num.
-/

namespace Go.Proofs.Ytfgmeeponipjeaa
open Go.RowKit
set_option linter.unusedVariables false

def numS2 (q : RS) (b : List UInt8) (limit : Nat) : RS := if b = [] then q else if b.getD 0 0 = 0 ∨ limit < valN b then q.fail 3 else q
def numV2 (b : List UInt8) (limit : Nat) : Nat := if b = [] then 0 else if b.getD 0 0 = 0 ∨ limit < valN b then 0 else valN b
def numS1 (p : RS) (h : List UInt8) (limit : Nat) : RS := if h = [] then p else if 8 < (h.getD 0 0).toNat then p.fail 3 else numS2 (p.takeS (h.getD 0 0).toNat) (p.takeB (h.getD 0 0).toNat) limit
def numV1 (p : RS) (h : List UInt8) (limit : Nat) : Nat := if h = [] then 0 else if 8 < (h.getD 0 0).toNat then 0 else numV2 (p.takeB (h.getD 0 0).toNat) limit
def RS.numS (r : RS) (limit : Nat) : RS := numS1 (r.takeS 1) (r.takeB 1) limit
def RS.numV (r : RS) (limit : Nat) : Nat := numV1 (r.takeS 1) (r.takeB 1) limit
theorem str_idx (l : List UInt8) (k : Nat) (h : k < (⟨l.toArray⟩ : ByteArray).size) : (⟨l.toArray⟩ : ByteArray)[k] = l.getD k 0 := by
  have hk : k < l.length := by simpa [ByteArray.size] using h
  show l.toArray[k] = _
  simp [List.getD, hk]

theorem or_byte (x : Nat) (c : UInt8) (h : x < 72057594037927936) : bits .or .u64 (IntKind.u64.wrap ((x : Int) * 256)) (IntKind.u64.wrap (c.toNat : Int)) = ((x * 256 + c.toNat : Nat) : Int) := by
  have hc := c.toNat_lt
  rw [wrap_u64_in _ ⟨by omega, by omega⟩, wrap_u64_in _ ⟨by omega, by omega⟩, show ((x : Int) * 256) = ((x * 256 : Nat) : Int) by simp, u64_or_nat _ _ (by omega) (by omega)]
  have := Nat.two_pow_add_eq_or_of_lt (i := 8) (b := c.toNat) (by omega) x
  rw [Nat.mul_comm x 256]
  exact congrArg _ this.symm
theorem valN_take (l : List UInt8) (k : Nat) (h : k < l.length) : valN (l.take (k + 1)) = valN (l.take k) * 256 + (l.getD k 0).toNat := by
  rw [List.take_succ_eq_append_getElem h, valN_snoc]
  simp [List.getD, h]
theorem valN_small (l : List UInt8) (k : Nat) (h : k ≤ 7) : valN (l.take k) < 72057594037927936 := by
  have h1 := valN_lt (l.take k)
  have h2 : (l.take k).length ≤ 7 := Nat.le_trans (List.length_take_le _ _) h
  exact Nat.lt_of_lt_of_le h1 (Nat.le_trans (Nat.pow_le_pow_right (by omega) h2) (by decide))

theorem takeB_len (r : RS) (n : Int) : (r.takeB n).length ≤ n.toNat := by
  unfold RS.takeB
  split
  · simp
  · split
    · simp
    · exact List.length_take_le _ _

theorem numV_le (r : RS) (limit : Nat) : r.numV limit ≤ limit := by
  unfold RS.numV numV1 numV2
  repeat' split
  all_goals omega
theorem numS_err (r : RS) (limit : Nat) (h : r.e ≠ 0) : r.numS limit = r := by
  simp [RS.numS, numS1, RS.takeB, RS.takeS, h]
theorem numV_err (r : RS) (limit : Nat) (h : r.e ≠ 0) : r.numV limit = 0 := by
  simp [RS.numV, numV1, RS.takeB, h]
end Go.Proofs.Ytfgmeeponipjeaa
/-
  The contracts of a source's Int, Text, Word, Bool, End, also of no source.
-/

namespace Go.Proofs.Ytfgmeeponipjeaa
open Go.RowKit
set_option linter.unusedVariables false

/-- Text(limit) -/
def RS.textS (r : RS) (limit : Int) : RS := (r.numS (min limit 65536).toNat).takeS (r.numV (min limit 65536).toNat)
def RS.textB (r : RS) (limit : Int) : List UInt8 := (r.numS (min limit 65536).toNat).takeB (r.numV (min limit 65536).toNat)
def RS.endS (r : RS) : RS := if r.s = [] then r else r.fail 3
/-- Word() -/
def RS.wordV (r : RS) : Nat := valN (r.takeB 4)
end Go.Proofs.Ytfgmeeponipjeaa
/-
  The contracts of a source's Word and List.
-/

namespace Go.Proofs.Ytfgmeeponipjeaa
open Go.RowKit
set_option linter.unusedVariables false

def word4 (a b c d : UInt8) : Int := ((valN [a, b, c, d] : Nat) : Int)
theorem word_or (x y z u : UInt8) : bits .or .u32 (bits .or .u32 (bits .or .u32 ((x.toNat : Int) % 4294967296 * 16777216 % 4294967296) ((y.toNat : Int) % 4294967296 * 65536 % 4294967296)) ((z.toNat : Int) % 4294967296 * 256 % 4294967296)) ((u.toNat : Int) % 4294967296) = ((valN [x, y, z, u] : Nat) : Int) := by
  have hx := x.toNat_lt
  have hy := y.toNat_lt
  have hz := z.toNat_lt
  have hu := u.toNat_lt
  rw [show ((x.toNat : Int) % 4294967296 * 16777216 % 4294967296) = ((2 ^ 24 * x.toNat : Nat) : Int) by omega, show ((y.toNat : Int) % 4294967296 * 65536 % 4294967296) = ((65536 * y.toNat : Nat) : Int) by omega,
    show ((z.toNat : Int) % 4294967296 * 256 % 4294967296) = ((256 * z.toNat : Nat) : Int) by omega, show ((u.toNat : Int) % 4294967296) = ((u.toNat : Nat) : Int) by omega]
  rw [u32_or_nat _ _ (by omega) (by omega), ← Nat.two_pow_add_eq_or_of_lt (i := 24) (b := 65536 * y.toNat) (by omega) x.toNat]
  rw [show 2 ^ 24 * x.toNat + 65536 * y.toNat = 2 ^ 16 * (256 * x.toNat + y.toNat) by omega, u32_or_nat _ _ (by omega) (by omega), ← Nat.two_pow_add_eq_or_of_lt (i := 16) (b := 256 * z.toNat) (by omega) _]
  rw [show 2 ^ 16 * (256 * x.toNat + y.toNat) + 256 * z.toNat = 2 ^ 8 * (256 * (256 * x.toNat + y.toNat) + z.toNat) by omega, u32_or_nat _ _ (by omega) (by omega), ← Nat.two_pow_add_eq_or_of_lt (i := 8) (b := u.toNat) (by omega) _]
  simp [valN]
  omega
/-- so many Ints, up to the first error -/
def intsR (q : RS) (limit : Nat) : Nat → RS × List Int
  | 0 => (q, [])
  | k + 1 => if (intsR q limit k).1.e ≠ 0 then intsR q limit k else ((intsR q limit k).1.numS limit, (intsR q limit k).2 ++ [((intsR q limit k).1.numV limit : Int)])
def RS.listS (r : RS) (many limit : Int) : RS := (intsR (r.numS many.toNat) limit.toNat (r.numV many.toNat)).1
def RS.listV (r : RS) (many limit : Int) : List Int := if (r.listS many limit).e ≠ 0 then [] else (intsR (r.numS many.toNat) limit.toNat (r.numV many.toNat)).2
theorem intsR_len (q : RS) (limit k : Nat) : (intsR q limit k).2.length ≤ k := by
  induction k with
  | zero => simp [intsR]
  | succ k ih =>
    rw [intsR]
    split
    · omega
    · simp; omega
theorem intsR_stop (q : RS) (limit k n : Nat) (h : (intsR q limit k).1.e ≠ 0) (hk : k ≤ n) : intsR q limit n = intsR q limit k := by
  induction n with
  | zero => obtain rfl : k = 0 := by omega
            rfl
  | succ n ih =>
    by_cases e : k = n + 1
    · subst e; rfl
    · rw [intsR, ih (by omega), if_pos h]
theorem info_int : (Try.prog.info? 3).map (fun i => (i.zero, i.size, i.bytes)) = some (some (.int .i64 0), 1, 8) := by kernel_rfl
def iCells (l : List Int) : List Value := l.map (Value.int .i64)
end Go.Proofs.Ytfgmeeponipjeaa
