/-
  Bytes of which one is another one have another check; CrcBit's walk.
-/
import Derived.Test.YtkdmnhmlkcejfaaDoorCrcB
import Derived.Test.YtkdmnhmlkcejfaaDoorBytes
namespace Go.Proofs.YtkdmnhmlkcejfaaDoor
open Go.RowKit
set_option linter.unusedVariables false

theorem xor_right (a b x : Nat) (h : a ^^^ x = b ^^^ x) : a = b := by
  have := congrArg (· ^^^ x) h
  simpa [Nat.xor_assoc] using this
theorem xor_left (a b x : Nat) (h : x ^^^ a = x ^^^ b) : a = b := xor_right a b x (by rw [Nat.xor_comm a, Nat.xor_comm b]; exact h)
theorem step_high (c : Nat) (h : c < 4294967296) : (2147483648 ≤ stepN c ↔ c % 2 = 1) := by
  unfold stepN
  split
  · rename_i h1
    have hb : (c / 2).testBit 31 = false := Nat.testBit_lt_two_pow (by omega)
    have hp : polN.testBit 31 = true := by decide
    have ht : (c / 2 ^^^ polN).testBit 31 = true := by rw [Nat.testBit_xor, hb, hp]; rfl
    have := Nat.ge_two_pow_of_testBit ht
    exact ⟨fun _ => h1, fun _ => this⟩
  · rename_i h1
    constructor
    · intro h2; omega
    · intro h2; exact absurd h2 h1
theorem step_inj (c d : Nat) (hc : c < 4294967296) (hd : d < 4294967296) (h : stepN c = stepN d) : c = d := by
  have h1 := step_high c hc
  have h2 := step_high d hd
  rw [h] at h1
  have hp : c % 2 = 1 ↔ d % 2 = 1 := h1.symm.trans h2
  unfold stepN at h
  by_cases ho : c % 2 = 1
  · rw [if_pos ho, if_pos (hp.1 ho)] at h
    have : c / 2 = d / 2 := xor_right _ _ _ h
    omega
  · rw [if_neg ho, if_neg (fun e => ho (hp.2 e))] at h
    omega
theorem steps_inj (k : Nat) : ∀ c d : Nat, c < 4294967296 → d < 4294967296 → stepsN k c = stepsN k d → c = d := by
  induction k with
  | zero => intro c d _ _ h; exact h
  | succ k ih =>
    intro c d hc hd h
    exact ih c d hc hd (step_inj _ _ (steps_lt k c hc) (steps_lt k d hd) h)
theorem byte_inj (c d : Nat) (x y : UInt8) (hc : c < 4294967296) (hd : d < 4294967296) (h : byteN c x = byteN d y) : c ^^^ x.toNat = d ^^^ y.toNat :=
  steps_inj 8 _ _ (Nat.xor_lt_two_pow (n := 32) hc (by have := x.toNat_lt; omega)) (Nat.xor_lt_two_pow (n := 32) hd (by have := y.toNat_lt; omega)) h
theorem more_inj (l : List UInt8) : ∀ c d : Nat, c < 4294967296 → d < 4294967296 → moreN c l = moreN d l → c = d := by
  induction l with
  | nil => intro c d _ _ h; exact h
  | cons x l ih =>
    intro c d hc hd h
    have h1 := byte_inj c d x x hc hd (ih _ _ (byte_lt c x hc) (byte_lt d x hd) h)
    exact xor_right _ _ _ h1
theorem more_bit (a b : List UInt8) (x y : UInt8) (hne : x ≠ y) (c : Nat) (hc : c < 4294967296) : moreN c (a ++ x :: b) ≠ moreN c (a ++ y :: b) := by
  intro h
  rw [← more_append, ← more_append] at h
  have ha := more_lt c a hc
  have h1 := more_inj b _ _ (byte_lt _ x ha) (byte_lt _ y ha) h
  have h2 := byte_inj _ _ x y ha ha h1
  have h3 : x.toNat = y.toNat := xor_left _ _ _ h2
  exact hne (UInt8.toNat.inj h3)
theorem of_bit (l : List UInt8) (i : Nat) (hi : i < l.length) (y : UInt8) (hne : l.getD i 0 ≠ y) : ofN (l.set i y) ≠ ofN l := by
  intro h
  have e1 : l = l.take i ++ l.getD i 0 :: l.drop (i + 1) := by
    have : l.getD i 0 = l[i] := by simp [List.getD, hi]
    rw [this, ← List.drop_eq_getElem_cons hi, List.take_append_drop]
  have e2 : l.set i y = l.take i ++ y :: l.drop (i + 1) := by rw [List.set_eq_take_append_cons_drop, if_pos hi]
  have l1 := more_lt 4294967295 l (by decide)
  have l2 := more_lt 4294967295 (l.set i y) (by decide)
  have h2 : moreN 4294967295 l = moreN 4294967295 (l.set i y) := by unfold ofN at h; omega
  rw [e2] at h2
  have h3 := more_bit (l.take i) (l.drop (i + 1)) (l.getD i 0) y hne 4294967295 (by decide)
  exact h3 (by rw [← e1]; exact h2)
theorem and_mask (x : Int) (k : Nat) (m : Int) (hm : (BitVec.ofInt 64 m).toNat = 2 ^ k - 1) (hk : k ≤ 62) : bits .and .i64 x m = x % ((2 ^ k : Nat) : Int) := by
  have h : (BitVec.ofInt 64 x &&& BitVec.ofInt 64 m).toNat = (x % ((2 ^ 64 : Nat) : Int)).toNat % 2 ^ k := by
    rw [BitVec.toNat_and, BitVec.toNat_ofInt, hm, Nat.and_two_pow_sub_one_eq_mod]
  have hp : 2 ^ k ≤ 2 ^ 62 := Nat.pow_le_pow_right (by omega) hk
  have hd : 2 ^ k ∣ 2 ^ 64 := Nat.pow_dvd_pow 2 (by omega)
  have h0 : 0 < 2 ^ k := Nat.two_pow_pos k
  have hx : (((x % ((2 ^ 64 : Nat) : Int)).toNat % 2 ^ k : Nat) : Int) = x % ((2 ^ k : Nat) : Int) := by
    rw [Int.natCast_emod, Int.toNat_of_nonneg (Int.emod_nonneg _ (by decide)), Int.emod_emod_of_dvd _ (Int.natCast_dvd_natCast.2 hd)]
  have hl := Nat.mod_lt ((x % ((2 ^ 64 : Nat) : Int)).toNat) h0
  show IntKind.i64.wrap ((BitVec.ofInt 64 x &&& BitVec.ofInt 64 m).toNat : Nat) = _
  rw [h, IntKind.wrap_i64, ← hx]
  omega
theorem and16 (x : Int) : bits .and .i64 x 65535 = x % 65536 := and_mask x 16 65535 (by decide) (by decide)
theorem and3 (x : Int) : bits .and .i64 x 7 = x % 8 := and_mask x 3 7 (by decide) (by decide)
theorem flip_bit (x : UInt8) (a : Int) : ∃ y : UInt8, bits .xor .u8 (x.toNat : Int) (2 ^ min (IntKind.u64.wrap (bits .and .i64 a 7)).toNat 8 % 256) = (y.toNat : Int) ∧ x ≠ y := by
  rw [and3]
  obtain ⟨k, hk, hk8⟩ : ∃ k : Nat, a % 8 = (k : Int) ∧ k < 8 := ⟨(a % 8).toNat, by omega, by omega⟩
  have hw : IntKind.u64.wrap (a % 8) = (k : Int) := by
    rw [hk]
    simp [IntKind.wrap, IntKind.signed, IntKind.bits]
    omega
  rw [hw, Int.toNat_natCast, show min k 8 = k by omega]
  have hx := x.toNat_lt
  have hp : 2 ^ k < 256 := Nat.lt_of_lt_of_le (Nat.pow_lt_pow_right (by omega) hk8) (by decide)
  have e : (2 : Int) ^ k % 256 = ((2 ^ k : Nat) : Int) := by
    have : ∀ k : Fin 8, (2 : Int) ^ k.val % 256 = ((2 ^ k.val : Nat) : Int) := by decide
    exact this ⟨k, hk8⟩
  rw [e, u8_xor_nat _ _ hx hp]
  have hlt : x.toNat ^^^ 2 ^ k < 2 ^ 8 := Nat.xor_lt_two_pow hx hp
  have hu : (UInt8.ofNat (x.toNat ^^^ 2 ^ k)).toNat = x.toNat ^^^ 2 ^ k := by
    generalize x.toNat ^^^ 2 ^ k = m at hlt
    simp; omega
  refine ⟨UInt8.ofNat (x.toNat ^^^ 2 ^ k), by rw [hu], fun h => ?_⟩
  have h2 := congrArg UInt8.toNat h
  rw [hu] at h2
  have h3 : x.toNat ^^^ 0 = x.toNat ^^^ 2 ^ k := by rw [Nat.xor_zero]; exact h2
  have h4 := xor_left _ _ _ h3
  have := Nat.two_pow_pos k
  omega
/-- a store into an owned row -/
theorem OwnB.set {w : World} {base : Nat} {e : TypeId} {g cap : Nat} {l : List UInt8} (h : OwnB w base e (.slice (some ⟨g, 0, none⟩) l.length cap) l) (i : Nat) (hi : i < l.length) (y : UInt8) :
    OwnB (w.setCell ⟨g, i, none⟩ (.int .u8 y.toNat)) base e (.slice (some ⟨g, 0, none⟩) l.length cap) (l.set i y) := by
  rcases h with ⟨h, _⟩ | ⟨g', cap', cur, fz, hv, hb, hg, hf, hnc, hcm, hcs, ht⟩
  · cases h
  · simp at hv
    obtain ⟨rfl, rfl⟩ := hv
    refine .inr ⟨g, cap, _, fz, by simp, hb, heap_set_self hg i _, by simpa using hf, by simpa using hnc, hcm, by simpa using hcs, ?_⟩
    simp only [Array.toList_setIfInBounds, List.length_set]
    rw [List.take_set, ht]
    simp [bCells, List.map_set]
theorem OwnB.free {w : World} {base : Nat} {e : TypeId} {g cap : Nat} {l : List UInt8} (h : OwnB w base e (.slice (some ⟨g, 0, none⟩) l.length cap) l) (i : Nat) (hi : i < l.length) : w.frozen? ⟨g, i, none⟩ = false := by
  rcases h with ⟨h, _⟩ | ⟨g', cap', cur, fz, hv, hb, hg, hf, hnc, hcm, hcs, ht⟩
  · cases h
  · simp at hv
    obtain ⟨rfl, rfl⟩ := hv
    have := hf.not (j := i) (by omega)
    obtain ⟨lo, hi'⟩ := fz
    simpa [World.frozen?, hg] using this
end Go.Proofs.YtkdmnhmlkcejfaaDoor
