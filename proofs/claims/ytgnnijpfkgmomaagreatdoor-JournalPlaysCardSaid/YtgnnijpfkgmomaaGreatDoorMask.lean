/-
  Masks of signed numbers: remainders.
-/
import Derived.Test.YtgnnijpfkgmomaaGreatDoorRows
import Derived.WalkKit
import Derived.Lib.BitFns
namespace Go.Proofs.YtgnnijpfkgmomaaGreatDoor
open Go.RowKit
theorem mask_mod (x : Int) (k : Nat) (m : Int) (hm : (BitVec.ofInt 64 m).toNat = 2 ^ k - 1) (hk : k ≤ 62) : bits .and .i64 x m = x % ((2 ^ k : Nat) : Int) := by
  have h : (BitVec.ofInt 64 x &&& BitVec.ofInt 64 m).toNat = (x % ((2 ^ 64 : Nat) : Int)).toNat % 2 ^ k := by
    rw [BitVec.toNat_and, BitVec.toNat_ofInt, hm, Nat.and_two_pow_sub_one_eq_mod]
  have hp : 2 ^ k ≤ 2 ^ 62 := Nat.pow_le_pow_right (by omega) hk
  have hd : 2 ^ k ∣ 2 ^ 64 := Nat.pow_dvd_pow 2 (by omega)
  have h0 : 0 < 2 ^ k := Nat.two_pow_pos k
  have hx : (((x % ((2 ^ 64 : Nat) : Int)).toNat % 2 ^ k : Nat) : Int) = x % ((2 ^ k : Nat) : Int) := by
    rw [Int.natCast_emod, Int.toNat_of_nonneg (Int.emod_nonneg _ (by decide)), Int.emod_emod_of_dvd _ (Int.natCast_dvd_natCast.2 hd)]
  have hl := Nat.mod_lt ((x % ((2 ^ 64 : Nat) : Int)).toNat) h0
  show IntKind.i64.wrap ((BitVec.ofInt 64 x &&& BitVec.ofInt 64 m).toNat : Nat) = _
  rw [h, IntKind.wrap_i64, ← hx]
  omega
theorem mask3 (x : Int) : bits .and .i64 x 3 = x % 4 := mask_mod x 2 3 (by decide) (by decide)
theorem mask7 (x : Int) : bits .and .i64 x 7 = x % 8 := mask_mod x 3 7 (by decide) (by decide)
theorem mask15 (x : Int) : bits .and .i64 x 15 = x % 16 := mask_mod x 4 15 (by decide) (by decide)
theorem mask31 (x : Int) : bits .and .i64 x 31 = x % 32 := mask_mod x 5 31 (by decide) (by decide)
theorem mask20 (x : Int) : bits .and .i64 x 1048575 = x % 1048576 := mask_mod x 20 1048575 (by decide) (by decide)
end Go.Proofs.YtgnnijpfkgmomaaGreatDoor
