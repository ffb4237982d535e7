/-
  The document's own check, bit by bit; both checks of bytes; no two bytes shift out alike.
-/
import Derived.Test.YtkdmnhmlkcejfaaDoorCrc
namespace Go.Proofs.YtkdmnhmlkcejfaaDoor
open Go.RowKit
set_option linter.unusedVariables false

theorem bits_pol (v : Nat) (h : v < 4294967296) : bits .xor .u32 (v : Int) 3988292384 = ((v ^^^ polN : Nat) : Int) := by
  rw [show (3988292384 : Int) = ((3988292384 : Nat) : Int) from rfl, u32_xor_nat _ _ h (by decide)]; rfl
set_option maxHeartbeats 1600000 in
theorem refmore_any (c : Nat) (l : List UInt8) (w : World) (hc : c < 4294967296) (hl : l.length ≤ 9223372036854775807) :
    Calls Tryd.prog 87 #[.int .u32 c, .string ⟨l.toArray⟩] w fun e w' => e = .returned (.int .u32 (moreN c l)) ∧ w = w' := by
  have HC := Lib.hid hc
  clear hc
  go_enter Tryd.func87, Tryd.ntmps87
  go_wp2_with fail
  go_loop [0, 5] (fun v i => ∃ k : Nat, k ≤ l.length ∧ i = .int .i64 k ∧ v = .int .u32 (moreN c (l.take k))) (fun _ i => l.length - (intOf i).toNat)
  case atStart => exact ⟨0, Nat.zero_le _, rfl, rfl⟩
  case round =>
    obtain ⟨k, hk, rfl, rfl⟩ := hrel
    by_cases hlt : k < l.length
    · have hix := str_idx l k
      have hmt := more_take c l k hlt
      have hv := more_lt c (l.take k) HC.out
      obtain ⟨x, hx⟩ : ∃ x, l.getD k 0 = x := ⟨_, rfl⟩
      rw [hx] at hix hmt
      have HM := Lib.hid hmt
      clear hmt hx
      generalize moreN c (l.take k) = v at *
      have hb := x.toNat_lt
      obtain ⟨v1, hv1⟩ : ∃ v1, v ^^^ x.toNat = v1 := ⟨_, rfl⟩
      have hl1 : v1 < 4294967296 := by rw [← hv1]; exact Nat.xor_lt_two_pow (n := 32) hv (by omega)
      have hx1 : bits .xor .u32 (v : Int) (x.toNat : Int) = (v1 : Int) := by
        rw [u32_xor_nat _ _ hv (by omega), hv1]
      have hfin : byteN v x = stepsN 8 v1 := by rw [← hv1]; rfl
      have HF := Lib.hid hfin
      clear hfin hv1
      go_wp2_with fail
      go_loop [0, 6] (fun v i => ∃ j : Nat, j ≤ 8 ∧ i = .int .i64 j ∧ v = .int .u32 (stepsN j v1)) (fun _ i => 8 - (intOf i).toNat)
      case atStart => exact ⟨0, by omega, rfl, rfl⟩
      case round =>
        obtain ⟨j, hj, rfl, rfl⟩ := hrel
        by_cases hjt : j < 8
        · have hlj := steps_lt j v1 hl1
          have hst : stepsN (j + 1) v1 = stepN (stepsN j v1) := rfl
          have HST := Lib.hid hst
          clear hst
          generalize stepsN j v1 = y at *
          have hpol := bits_pol (y / 2) (by omega)
          by_cases hodd : y % 2 = 1
          · have hob : ((y : Int) % 2 == 1) = true := by simp; omega
            have hsy : stepN y = y / 2 ^^^ polN := by rw [stepN, if_pos hodd]
            have HSY := Lib.hid hsy
            clear hsy hodd
            go_wp2
            go_round
            case rel => exact ⟨j + 1, by omega, by go_num, by rw [HST.out, HSY.out, ← hpol]; rfl⟩
            case measure => simp [intOf]; omega
          · have hob : ((y : Int) % 2 == 1) = false := by simp; omega
            have hsy : stepN y = y / 2 := by rw [stepN, if_neg hodd]
            have HSY := Lib.hid hsy
            clear hsy hodd hpol
            go_wp2
            go_round
            case rel => exact ⟨j + 1, by omega, by go_num, by rw [HST.out, HSY.out]; simp⟩
            case measure => simp [intOf]; omega
        · obtain rfl : j = 8 := by omega
          go_wp2
          go_round
          case rel => exact ⟨k + 1, by omega, by go_num, by rw [HM.out, HF.out]⟩
          case measure => simp [intOf]; omega
    · go_wp2
      go_ret
      exact ⟨ret_int (by rw [List.take_of_length_le (by omega)]), rfl⟩
theorem not_nat (m : Nat) (h : m < 4294967296) : 4294967295 ^^^ m = 4294967295 - m := by
  have e := congrArg BitVec.toNat (BitVec.not_def (x := BitVec.ofNat 32 m))
  rw [BitVec.toNat_not, BitVec.toNat_xor, BitVec.toNat_allOnes, BitVec.toNat_ofNat, Nat.mod_eq_of_lt h] at e
  simpa using e.symm
theorem not_u32 (m : Nat) (h : m < 4294967296) : bits .xor .u32 IntKind.u32.max (m : Int) = ((4294967295 - m : Nat) : Int) := by
  rw [show IntKind.u32.max = ((4294967295 : Nat) : Int) from rfl, u32_xor_nat _ _ (by decide) h, not_nat m h]
/-- Of -/
def ofN (l : List UInt8) : Nat := 4294967295 - moreN 4294967295 l
theorem of_any (l : List UInt8) (w : World) (hl : l.length ≤ 9223372036854775807) (hT : Tab w) :
    Calls Tryd.prog 78 #[.string ⟨l.toArray⟩] w fun e w' => e = .returned (.int .u32 (ofN l)) ∧ w = w' := by
  have HT := Lib.hid hT
  have hlt := more_lt 4294967295 l (by decide)
  clear hT
  go_enter Tryd.func78, Tryd.ntmps78
  go_wp2_with (go_at_call 94; refine (more_any 4294967295 l _ (by decide) hl HT.out).mono ?_; rintro e w' ⟨rfl, rfl⟩)
  go_ret
  exact ⟨ret_int (not_u32 _ hlt), rfl⟩
theorem refof_any (l : List UInt8) (w : World) (hl : l.length ≤ 9223372036854775807) :
    Calls Tryd.prog 61 #[.string ⟨l.toArray⟩] w fun e w' => e = .returned (.int .u32 (ofN l)) ∧ w = w' := by
  have hlt := more_lt 4294967295 l (by decide)
  go_enter Tryd.func61, Tryd.ntmps61
  go_wp2_with (go_at_call 87; refine (refmore_any 4294967295 l _ (by decide) hl).mono ?_; rintro e w' ⟨rfl, rfl⟩)
  go_ret
  exact ⟨ret_int (by unfold ofN; omega), rfl⟩
theorem more_append (c : Nat) (a b : List UInt8) : moreN (moreN c a) b = moreN c (a ++ b) := by simp [moreN]
end Go.Proofs.YtkdmnhmlkcejfaaDoor
