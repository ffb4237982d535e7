/-
  Checks of bytes: plain facts on shifting out, four bits and one; the walks of More and of the document's own. Condition: the table of four bits holds its numbers.
-/
import Derived.Test.YtkdmnhmlkcejfaaDoorBase
import Derived.WalkSpells
import Derived.WalkLawsBesides
import Derived.BigQuiet
import Derived.Deep.QuietTactic
import Derived.Deep.RegionWith
import Derived.Deep.RegionHeld3
namespace Go.Proofs.YtkdmnhmlkcejfaaDoor
open Go.RowKit
set_option linter.unusedVariables false

def polN : Nat := 3988292384
def tabN : List Nat := [0, 498536548, 997073096, 651767980, 1994146192, 1802195444, 1303535960, 1342533948, 3988292384, 4027552580, 3604390888, 3412177804, 2607071920, 2262029012, 2685067896, 3183342108]
def stepN (c : Nat) : Nat := if c % 2 = 1 then (c / 2) ^^^ polN else c / 2
def stepsN : Nat → Nat → Nat
  | 0, c => c
  | k + 1, c => stepN (stepsN k c)
def nibN (c : Nat) : Nat := (c / 16) ^^^ tabN.getD (c % 16) 0
def byteN (c : Nat) (x : UInt8) : Nat := stepsN 8 (c ^^^ x.toNat)
def moreN (c : Nat) (l : List UInt8) : Nat := l.foldl byteN c

theorem xor_half (a b : Nat) : (a ^^^ b) / 2 = a / 2 ^^^ b / 2 := by
  have := Nat.shiftRight_xor_distrib (a := a) (b := b) (i := 1)
  simpa [Nat.shiftRight_eq_div_pow] using this
theorem stepK (A a K b e : Nat) (hA : A = 2 * a + e) (he : e < 2) (hK : K = 2 * b) : stepN (A ^^^ K) = a ^^^ (b ^^^ (e * polN)) := by
  have hm := Nat.xor_mod_two_pow (a := A) (b := K) (n := 1)
  have h2 : (A / 2 ^^^ K / 2) = a ^^^ b := by
    congr 1
    · omega
    · omega
  have hz : K % 2 ^ 1 = 0 := by omega
  rw [hz, Nat.xor_zero] at hm
  rcases (by omega : e = 0 ∨ e = 1) with rfl | rfl
  · rw [stepN, if_neg (by omega), xor_half, h2]; simp
  · rw [stepN, if_pos (by omega), xor_half, h2, Nat.xor_assoc]; simp
theorem nib_steps (c : Nat) : nibN c = stepsN 4 c := by
  obtain ⟨q, e0, e1, e2, e3, h0, h1, h2, h3, rfl⟩ : ∃ q e0 e1 e2 e3, e0 < 2 ∧ e1 < 2 ∧ e2 < 2 ∧ e3 < 2 ∧ c = 16 * q + 8 * e3 + 4 * e2 + 2 * e1 + e0 :=
    ⟨c / 16, c % 2, c / 2 % 2, c / 4 % 2, c / 8 % 2, by omega, by omega, by omega, by omega, by omega⟩
  have hd : (16 * q + 8 * e3 + 4 * e2 + 2 * e1 + e0) / 16 = q := by omega
  have hm : (16 * q + 8 * e3 + 4 * e2 + 2 * e1 + e0) % 16 = 8 * e3 + 4 * e2 + 2 * e1 + e0 := by omega
  rw [nibN, hd, hm]
  have ez : 16 * q + 8 * e3 + 4 * e2 + 2 * e1 + e0 = (16 * q + 8 * e3 + 4 * e2 + 2 * e1 + e0) ^^^ (2 * 0) := by simp
  show _ = stepN (stepN (stepN (stepN (16 * q + 8 * e3 + 4 * e2 + 2 * e1 + e0))))
  rw [ez]
  have two : ∀ (e : Nat), e < 2 → e = 0 ∨ e = 1 := by omega
  have k1 : 0 ^^^ e0 * polN = 2 * ((0 ^^^ e0 * polN) / 2) := by rcases two e0 h0 with rfl | rfl <;> decide
  have k2 : (0 ^^^ e0 * polN) / 2 ^^^ e1 * polN = 2 * (((0 ^^^ e0 * polN) / 2 ^^^ e1 * polN) / 2) := by
    rcases two e0 h0 with rfl | rfl <;> rcases two e1 h1 with rfl | rfl <;> decide
  have k3 : ((0 ^^^ e0 * polN) / 2 ^^^ e1 * polN) / 2 ^^^ e2 * polN = 2 * ((((0 ^^^ e0 * polN) / 2 ^^^ e1 * polN) / 2 ^^^ e2 * polN) / 2) := by
    rcases two e0 h0 with rfl | rfl <;> rcases two e1 h1 with rfl | rfl <;> rcases two e2 h2 with rfl | rfl <;> decide
  rw [stepK _ (8 * q + 4 * e3 + 2 * e2 + e1) _ 0 e0 (by omega) h0 rfl, stepK _ (4 * q + 2 * e3 + e2) _ _ e1 (by omega) h1 k1, stepK _ (2 * q + e3) _ _ e2 (by omega) h2 k2, stepK _ q _ _ e3 (by omega) h3 k3]
  congr 1
  rcases two e0 h0 with rfl | rfl <;> rcases two e1 h1 with rfl | rfl <;> rcases two e2 h2 with rfl | rfl <;> rcases two e3 h3 with rfl | rfl <;> decide
theorem step_lt (c : Nat) (h : c < 4294967296) : stepN c < 4294967296 := by
  unfold stepN
  split
  · exact Nat.xor_lt_two_pow (n := 32) (by omega) (by decide)
  · omega
theorem steps_lt (k c : Nat) (h : c < 4294967296) : stepsN k c < 4294967296 := by
  induction k with
  | zero => exact h
  | succ k ih => exact step_lt _ ih
theorem byte_lt (c : Nat) (x : UInt8) (h : c < 4294967296) : byteN c x < 4294967296 :=
  steps_lt 8 _ (Nat.xor_lt_two_pow (n := 32) h (by have := x.toNat_lt; omega))
theorem more_lt (c : Nat) (l : List UInt8) (h : c < 4294967296) : moreN c l < 4294967296 := by
  induction l generalizing c with
  | nil => exact h
  | cons x l ih => exact ih _ (byte_lt c x h)
theorem more_take (c : Nat) (l : List UInt8) (k : Nat) (h : k < l.length) : moreN c (l.take (k + 1)) = byteN (moreN c (l.take k)) (l.getD k 0) := by
  rw [List.take_succ_eq_append_getElem h, moreN, List.foldl_append]
  simp [moreN, List.getD, h]
theorem steps_add (a b c : Nat) : stepsN (a + b) c = stepsN a (stepsN b c) := by
  induction a with
  | zero => simp [stepsN]
  | succ a ih => rw [show a + 1 + b = (a + b) + 1 by omega, stepsN, ih, stepsN]
theorem byte_nibs (c : Nat) (x : UInt8) : byteN c x = nibN (nibN (c ^^^ x.toNat)) := by
  rw [nib_steps, nib_steps, ← steps_add]; rfl
theorem str_idx (l : List UInt8) (k : Nat) (h : k < (⟨l.toArray⟩ : ByteArray).size) : (⟨l.toArray⟩ : ByteArray)[k] = l.getD k 0 := by
  have hk : k < l.length := by simpa [ByteArray.size] using h
  show l.toArray[k] = _
  simp [List.getD, hk]
theorem and15 (v : Nat) (h : v < 4294967296) : bits .and .u32 (v : Int) 15 = ((v % 16 : Nat) : Int) := by
  rw [show (15 : Int) = ((15 : Nat) : Int) from rfl, u32_and_nat _ _ h (by decide)]
  exact congrArg _ (Nat.and_two_pow_sub_one_eq_mod v 4)
theorem tab_lt (j : Nat) : tabN.getD j 0 < 4294967296 := by
  by_cases h : j < 16
  · have : ∀ j : Fin 16, tabN.getD j.val 0 < 4294967296 := by decide
    exact this ⟨j, h⟩
  · rw [List.getD, List.getElem?_eq_none (by show 16 ≤ j; omega)]; decide
/-- the table's cells -/
def Tab (w : World) : Prop := ∀ j, j < 16 → w.cell? ⟨2, j, none⟩ = some (.int .u32 ((tabN.getD j 0 : Nat) : Int))

set_option maxHeartbeats 800000 in
theorem more_any (c : Nat) (l : List UInt8) (w : World) (hc : c < 4294967296) (hl : l.length ≤ 9223372036854775807) (hT : Tab w) :
    Calls Tryd.prog 94 #[.int .u32 c, .string ⟨l.toArray⟩] w fun e w' => e = .returned (.int .u32 (moreN c l)) ∧ w = w' := by
  have HT := Lib.hid hT
  have HC := Lib.hid hc
  clear hT hc
  go_enter Tryd.func94, Tryd.ntmps94
  go_wp2_with fail
  go_loop [0, 8] (fun v i => ∃ k : Nat, k ≤ l.length ∧ i = .int .i64 k ∧ v = .int .u32 (moreN c (l.take k))) (fun _ i => l.length - (intOf i).toNat)
  case atStart => exact ⟨0, Nat.zero_le _, rfl, rfl⟩
  case round =>
    obtain ⟨k, hk, rfl, rfl⟩ := hrel
    by_cases hlt : k < l.length
    · have hix := str_idx l k
      have hmt := more_take c l k hlt
      have hv := more_lt c (l.take k) HC.out
      obtain ⟨x, hx⟩ : ∃ x, l.getD k 0 = x := ⟨_, rfl⟩
      rw [hx] at hix hmt
      have HM := Lib.hid hmt
      clear hmt hx
      generalize moreN c (l.take k) = v at *
      have hb := x.toNat_lt
      obtain ⟨v1, hv1⟩ : ∃ v1, v ^^^ x.toNat = v1 := ⟨_, rfl⟩
      have hl1 : v1 < 4294967296 := by rw [← hv1]; exact Nat.xor_lt_two_pow (n := 32) hv (by omega)
      have hx1 : bits .xor .u32 (v : Int) (x.toNat : Int) = (v1 : Int) := by
        rw [u32_xor_nat _ _ hv (by omega), hv1]
      obtain ⟨v2, hv2⟩ : ∃ v2, nibN v1 = v2 := ⟨_, rfl⟩
      have hl2 : v2 < 4294967296 := by rw [← hv2, nib_steps]; exact steps_lt 4 _ hl1
      obtain ⟨v3, hv3⟩ : ∃ v3, nibN v2 = v3 := ⟨_, rfl⟩
      have hfin : byteN v x = v3 := by rw [byte_nibs, hv1, hv2, hv3]
      have ha1 := and15 v1 hl1
      have ha2 := and15 v2 hl2
      have hc1 := HT.out (v1 % 16) (by omega)
      have hc2 := HT.out (v2 % 16) (by omega)
      have hn1 : bits .xor .u32 ((v1 : Int) / 16) ((tabN.getD (v1 % 16) 0 : Nat) : Int) = (v2 : Int) := by
        rw [show ((v1 : Int) / 16) = ((v1 / 16 : Nat) : Int) by simp, u32_xor_nat _ _ (by omega) (tab_lt _), ← hv2]; rfl
      have hn2 : bits .xor .u32 ((v2 : Int) / 16) ((tabN.getD (v2 % 16) 0 : Nat) : Int) = (v3 : Int) := by
        rw [show ((v2 : Int) / 16) = ((v2 / 16 : Nat) : Int) by simp, u32_xor_nat _ _ (by omega) (tab_lt _), ← hv3]; rfl
      have HF := Lib.hid hfin
      generalize tabN.getD (v1 % 16) 0 = t1 at *
      generalize tabN.getD (v2 % 16) 0 = t2 at *
      have hm1 : v1 % 16 < 16 := by omega
      have hm2 : v2 % 16 < 16 := by omega
      generalize v1 % 16 = m1 at *
      generalize v2 % 16 = m2 at *
      clear hv1 hv2 hv3 hfin
      go_wp2
      go_round
      case rel => exact ⟨k + 1, by omega, by go_num, by rw [HM.out, HF.out]⟩
      case measure => simp [intOf]; omega
    · go_wp2
      go_ret
      exact ⟨ret_int (by rw [List.take_of_length_le (by omega)]), rfl⟩
end Go.Proofs.YtkdmnhmlkcejfaaDoor
