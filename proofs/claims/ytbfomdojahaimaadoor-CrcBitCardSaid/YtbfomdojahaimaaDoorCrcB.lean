/-
  The document's own check, bit by bit; both checks of bytes; no two bytes shift out alike.
-/
import Derived.Test.YtbfomdojahaimaaDoorCrc
namespace Go.Proofs.YtbfomdojahaimaaDoor
open Go.RowKit
set_option linter.unusedVariables false

theorem bits_pol (v : Nat) (h : v < 4294967296) : bits .xor .u32 (v : Int) 3988292384 = ((v ^^^ polN : Nat) : Int) := by
  rw [show (3988292384 : Int) = ((3988292384 : Nat) : Int) from rfl, u32_xor_nat _ _ h (by decide)]; rfl
set_option maxHeartbeats 1600000 in
theorem refmore_any (c : Nat) (l : List UInt8) (w : World) (hc : c < 4294967296) (hl : l.length ≤ 9223372036854775807) :
    Calls Tryd.prog 12 #[.int .u32 c, .string ⟨l.toArray⟩] w fun e w' => e = .returned (.int .u32 (moreN c l)) ∧ w = w' := by
  have HC := Lib.hid hc
  clear hc
  go_enter Tryd.func12, Tryd.ntmps12
  go_wp2_with fail
  go_loop [0, 5] (fun v i => ∃ k : Nat, k ≤ l.length ∧ i = .int .i64 k ∧ v = .int .u32 (moreN c (l.take k))) (fun _ i => l.length - (intOf i).toNat)
  case atStart => exact ⟨0, Nat.zero_le _, rfl, rfl⟩
  case round =>
    obtain ⟨k, hk, rfl, rfl⟩ := hrel
    by_cases hlt : k < l.length
    · have hix := str_idx l k
      have hmt := more_take c l k hlt
      have hv := more_lt c (l.take k) HC.out
      obtain ⟨x, hx⟩ : ∃ x, l.getD k 0 = x := ⟨_, rfl⟩
      rw [hx] at hix hmt
      have HM := Lib.hid hmt
      clear hmt hx
      generalize moreN c (l.take k) = v at *
      have hb := x.toNat_lt
      obtain ⟨v1, hv1⟩ : ∃ v1, v ^^^ x.toNat = v1 := ⟨_, rfl⟩
      have hl1 : v1 < 4294967296 := by rw [← hv1]; exact Nat.xor_lt_two_pow (n := 32) hv (by omega)
      have hx1 : bits .xor .u32 (v : Int) (x.toNat : Int) = (v1 : Int) := by
        rw [u32_xor_nat _ _ hv (by omega), hv1]
      have hfin : byteN v x = stepsN 8 v1 := by rw [← hv1]; rfl
      have HF := Lib.hid hfin
      clear hfin hv1
      go_wp2_with fail
      go_loop [0, 6] (fun v i => ∃ j : Nat, j ≤ 8 ∧ i = .int .i64 j ∧ v = .int .u32 (stepsN j v1)) (fun _ i => 8 - (intOf i).toNat)
      case atStart => exact ⟨0, by omega, rfl, rfl⟩
      case round =>
        obtain ⟨j, hj, rfl, rfl⟩ := hrel
        by_cases hjt : j < 8
        · have hlj := steps_lt j v1 hl1
          have hst : stepsN (j + 1) v1 = stepN (stepsN j v1) := rfl
          have HST := Lib.hid hst
          clear hst
          generalize stepsN j v1 = y at *
          have hpol := bits_pol (y / 2) (by omega)
          by_cases hodd : y % 2 = 1
          · have hob : ((y : Int) % 2 == 1) = true := by simp; omega
            have hsy : stepN y = y / 2 ^^^ polN := by rw [stepN, if_pos hodd]
            have HSY := Lib.hid hsy
            clear hsy hodd
            go_wp2
            go_round
            case rel => exact ⟨j + 1, by omega, by go_num, by rw [HST.out, HSY.out, ← hpol]; rfl⟩
            case measure => simp [intOf]; omega
          · have hob : ((y : Int) % 2 == 1) = false := by simp; omega
            have hsy : stepN y = y / 2 := by rw [stepN, if_neg hodd]
            have HSY := Lib.hid hsy
            clear hsy hodd hpol
            go_wp2
            go_round
            case rel => exact ⟨j + 1, by omega, by go_num, by rw [HST.out, HSY.out]; simp⟩
            case measure => simp [intOf]; omega
        · obtain rfl : j = 8 := by omega
          go_wp2
          go_round
          case rel => exact ⟨k + 1, by omega, by go_num, by rw [HM.out, HF.out]⟩
          case measure => simp [intOf]; omega
    · go_wp2
      go_ret
      exact ⟨ret_int (by rw [List.take_of_length_le (by omega)]), rfl⟩
theorem not_nat (m : Nat) (h : m < 4294967296) : 4294967295 ^^^ m = 4294967295 - m := by
  have e := congrArg BitVec.toNat (BitVec.not_def (x := BitVec.ofNat 32 m))
  rw [BitVec.toNat_not, BitVec.toNat_xor, BitVec.toNat_allOnes, BitVec.toNat_ofNat, Nat.mod_eq_of_lt h] at e
  simpa using e.symm
theorem not_u32 (m : Nat) (h : m < 4294967296) : bits .xor .u32 IntKind.u32.max (m : Int) = ((4294967295 - m : Nat) : Int) := by
  rw [show IntKind.u32.max = ((4294967295 : Nat) : Int) from rfl, u32_xor_nat _ _ (by decide) h, not_nat m h]
/-- Of -/
def ofN (l : List UInt8) : Nat := 4294967295 - moreN 4294967295 l
theorem of_any (l : List UInt8) (w : World) (hl : l.length ≤ 9223372036854775807) (hT : Tab w) :
    Calls Tryd.prog 9 #[.string ⟨l.toArray⟩] w fun e w' => e = .returned (.int .u32 (ofN l)) ∧ w = w' := by
  have HT := Lib.hid hT
  have hlt := more_lt 4294967295 l (by decide)
  clear hT
  go_enter Tryd.func9, Tryd.ntmps9
  go_wp2_with (go_at_call 11; refine (more_any 4294967295 l _ (by decide) hl HT.out).mono ?_; rintro e w' ⟨rfl, rfl⟩)
  go_ret
  exact ⟨ret_int (not_u32 _ hlt), rfl⟩
theorem refof_any (l : List UInt8) (w : World) (hl : l.length ≤ 9223372036854775807) :
    Calls Tryd.prog 10 #[.string ⟨l.toArray⟩] w fun e w' => e = .returned (.int .u32 (ofN l)) ∧ w = w' := by
  have hlt := more_lt 4294967295 l (by decide)
  go_enter Tryd.func10, Tryd.ntmps10
  go_wp2_with (go_at_call 12; refine (refmore_any 4294967295 l _ (by decide) hl).mono ?_; rintro e w' ⟨rfl, rfl⟩)
  go_ret
  exact ⟨ret_int (by unfold ofN; omega), rfl⟩
theorem crc_awake (w : World) (hT : Tab w) : Calls Tryd.prog 8 #[] w fun e w' => e = .returned (.bool true) ∧ w = w' := by
  have HT := Lib.hid hT
  have hv : ((ofN [49, 50, 51, 52, 53, 54, 55, 56, 57] : Nat) : Int) = 3421780262 := by
    have : ofN [49, 50, 51, 52, 53, 54, 55, 56, 57] = 3421780262 := by decide +kernel
    rw [this]; rfl
  clear hT
  go_enter Tryd.func8, Tryd.ntmps8
  go_wp2_with (go_at_call 9; refine (of_any [49, 50, 51, 52, 53, 54, 55, 56, 57] _ (by decide) HT.out).mono ?_; rw [hv]; rintro e w' ⟨rfl, rfl⟩)
  go_ret
  exact ⟨rfl, rfl⟩
theorem crcof_law (s : ByteArray) (w : World) (hs : s.size ≤ maxLen) (hT : Tab w) :
    Calls Tryd.prog 3 #[.string s] w fun e w' => e = .returned (.bool true) ∧ Below w.heap.size w w' := by
  obtain ⟨t, ht⟩ : ∃ t, s.data.toList = t := ⟨_, rfl⟩
  have hst : s = ⟨t.toArray⟩ := by rw [← ht]
  have htl : t.length ≤ maxLen := ht ▸ hs
  subst hst
  unfold maxLen at htl
  have HT := Lib.hid hT
  clear hs ht hT
  go_enter Tryd.func3, Tryd.ntmps3
  go_wp2_with fail
  all_goals
    refine (crc_awake _ HT.out).mono ?_
    rintro e w' ⟨rfl, rfl⟩
    simp only [str_take]
    go_wp2_with (first | (go_at_call 9; refine (of_any _ _ (by first | omega | (rw [List.length_take]; omega)) HT.out).mono ?_; rintro e w' ⟨rfl, rfl⟩) | (go_at_call 10; refine (refof_any _ _ (by first | omega | (rw [List.length_take]; omega))).mono ?_; rintro e w' ⟨rfl, rfl⟩))
    go_ret
    exact ⟨rfl, Below.refl _ _⟩
theorem more_append (c : Nat) (a b : List UInt8) : moreN (moreN c a) b = moreN c (a ++ b) := by simp [moreN]
set_option maxHeartbeats 800000 in
theorem crcmore_law (c : Int) (s u : ByteArray) (w : World) (hc : (Lit.int .u32 c).wf = true) (hs : s.size ≤ maxLen) (hu : u.size ≤ maxLen) (hT : Tab w) :
    Calls Tryd.prog 4 #[.int .u32 c, .string s, .string u] w fun e w' => e = .returned (.bool true) ∧ Below w.heap.size w w' := by
  obtain ⟨t, ht⟩ : ∃ t, s.data.toList = t := ⟨_, rfl⟩
  have hst : s = ⟨t.toArray⟩ := by rw [← ht]
  have htl : t.length ≤ maxLen := ht ▸ hs
  subst hst
  obtain ⟨v, hv⟩ : ∃ t, u.data.toList = t := ⟨_, rfl⟩
  have huv : u = ⟨v.toArray⟩ := by rw [← hv]
  have hvl : v.length ≤ maxLen := hv ▸ hu
  subst huv
  unfold maxLen at htl hvl
  have HT := Lib.hid hT
  obtain ⟨n, rfl, hn⟩ : ∃ n : Nat, c = (n : Int) ∧ n < 4294967296 := by
    simp [Lit.wf, IntKind.min, IntKind.max, IntKind.signed, IntKind.bits] at hc
    exact ⟨c.toNat, by omega, by omega⟩
  have hnot : ∀ l : List UInt8, bits .xor .u32 IntKind.u32.max ((moreN 4294967295 l : Nat) : Int) = ((ofN l : Nat) : Int) := fun l => not_u32 _ (more_lt _ l (by decide))
  have hnn : ∀ l : List UInt8, moreN n l < 4294967296 := fun l => more_lt n l hn
  have hma : ∀ a b : List UInt8, moreN (moreN n a) b = moreN n (a ++ b) := more_append n
  have hsa := str_append
  have HNN := Lib.hid hnn
  have HMA := Lib.hid hma
  clear hs hu ht hv hT hc hnn hma
  go_enter Tryd.func4, Tryd.ntmps4
  go_wp2
  go_quiet (fail)
  have hT2 : Tab (w.drewN nq) := HT.out
  have HT2 := Lib.hid hT2
  have hb0 : Below w.heap.size w (w.drewN nq) := below_drewN' (Below.refl _ _) nq
  generalize w.drewN nq = w0 at *
  clear hT2
  go_wp2_with fail
  all_goals
    refine (crc_awake _ HT2.out).mono ?_
    rintro e w' ⟨rfl, rfl⟩
    simp only [str_take]
    go_wp2_with fail
    refine (more_any n _ _ hn (by first | omega | (simp; omega)) HT2.out).mono ?_
    rintro e w' ⟨rfl, rfl⟩
    go_wp2_with fail
    refine (refmore_any n _ _ hn (by first | omega | (simp; omega))).mono ?_
    rintro e w' ⟨rfl, rfl⟩
    go_wp2_with fail
    refine (more_any n _ _ hn (by first | omega | (simp; omega)) HT2.out).mono ?_
    rintro e w' ⟨rfl, rfl⟩
    go_wp2_with fail
    refine (more_any _ _ _ (HNN.out _) (by first | omega | (simp; omega)) HT2.out).mono ?_
    rintro e w' ⟨rfl, rfl⟩
    rw [HMA.out]
    go_wp2_with fail
    refine (more_any n _ _ hn (by first | omega | (simp; omega)) HT2.out).mono ?_
    rintro e w' ⟨rfl, rfl⟩
    go_wp2_with fail
    refine (more_any 4294967295 _ _ (by decide) (by first | omega | (simp; omega)) HT2.out).mono ?_
    rintro e w' ⟨rfl, rfl⟩
    go_wp2_with fail
    refine (of_any _ _ (by first | omega | (simp; omega)) HT2.out).mono ?_
    rintro e w' ⟨rfl, rfl⟩
    go_wp2
    go_ret
    exact ⟨rfl, hb0⟩
end Go.Proofs.YtbfomdojahaimaaDoor
