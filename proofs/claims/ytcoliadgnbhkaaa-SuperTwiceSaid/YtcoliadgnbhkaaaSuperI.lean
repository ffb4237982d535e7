/-
  A pair of sectors that words are laid in, one behind the other, whole or torn: what the last whole word is, and the next number. The law's own half and next.
-/
import Derived.Test.YtcoliadgnbhkaaaSuperH
namespace Go.Proofs.Ytcoliadgnbhkaaa
open Go.RowKit
set_option linter.unusedVariables false
set_option linter.unusedSimpArgs false

/-- the greatest number that any half of two sectors says -/
def top4 (a b : ByteArray) : Nat := hiJ a b true true 2
theorem top4_def (a b : ByteArray) : top4 a b = max (max (max (max 0 (num8 a)) (num8 (a.extract 32 64))) (num8 b)) (num8 (b.extract 32 64)) := rfl
/-- a pair whose last whole word is of the number at; all numbers are below M -/
structure Pair (a b : ByteArray) (at' : Nat) (last : ByteArray) (M : Nat) : Prop where
  sa : a.size = 64
  sb : b.size = 64
  most : top4 a b ≤ M
  zero : at' = 0 → wholeB a = false ∧ wholeB b = false ∧ last = ⟨#[]⟩
  even : at' ≠ 0 → at' % 2 = 0 → wholeB a = true ∧ num8 a = at' ∧ wordS a = last ∧ (wholeB b = true → num8 b < at')
  odd : at' % 2 = 1 → wholeB b = true ∧ num8 b = at' ∧ wordS b = last ∧ (wholeB a = true → num8 a < at')
theorem Pair.last {a b last : ByteArray} {at' M : Nat} (h : Pair a b at' last M) : lastS a b = (at', last, at' % 2) := by
  by_cases h0 : at' = 0
  · obtain ⟨x, y, z⟩ := h.zero h0
    rw [last_none a b x y, z, h0]
  · by_cases he : at' % 2 = 0
    · obtain ⟨x, y, z, u⟩ := h.even h0 he
      unfold lastS
      rw [show stepL a 0 (0, ⟨#[]⟩, 0) = (at', last, 0) by unfold stepL; rw [if_pos ⟨x, by rw [y]; show 0 < at'; omega⟩, y, z], he]
      unfold stepL
      rw [if_neg (fun hh => by have := u hh.1; have h2 := hh.2; simp only at h2; omega)]
    · obtain ⟨x, y, z, u⟩ := h.odd (by omega)
      unfold lastS
      have hlt : (stepL a 0 (0, ⟨#[]⟩, 0)).1 < num8 b := by
        unfold stepL
        split
        · rename_i hh
          rw [y]
          exact u hh.1
        · rw [y]; show 0 < at'; omega
      generalize stepL a 0 (0, ⟨#[]⟩, 0) = q at hlt
      unfold stepL
      rw [if_pos ⟨x, hlt⟩, y, z, show at' % 2 = 1 by omega]
/-- the number that comes next -/
def nextP (a b : ByteArray) (at' : Nat) : Nat := if 0 < at' ∧ (top4 a b + 1) % 2 = at' % 2 then top4 a b + 2 else top4 a b + 1
theorem Pair.next {a b last : ByteArray} {at' M : Nat} (h : Pair a b at' last M) (hM : M ≤ 2000000000) : nextS a b true true = nextP a b at' := by
  have hm := h.most
  unfold nextS nextM nextP
  rw [h.last]
  show (if 0 < at' ∧ (top4 a b + 1) % 18446744073709551616 ≠ 0 ∧ (top4 a b + 1) % 18446744073709551616 % 2 = at' % 2 then ((top4 a b + 1) % 18446744073709551616 + 1) % 18446744073709551616 else (top4 a b + 1) % 18446744073709551616) = _
  generalize top4 a b = T at *
  rw [Nat.mod_eq_of_lt (show T + 1 < 18446744073709551616 by omega)]
  by_cases hc : 0 < at' ∧ (T + 1) % 2 = at' % 2
  · rw [if_pos ⟨hc.1, by omega, hc.2⟩, if_pos hc]
    omega
  · rw [if_neg (fun hh => hc ⟨hh.1, hh.2.2⟩), if_neg hc]
theorem nextP_gt (a b : ByteArray) (at' : Nat) : top4 a b < nextP a b at' ∧ nextP a b at' ≤ top4 a b + 2 ∧ (0 < at' → nextP a b at' % 2 ≠ at' % 2) := by
  unfold nextP
  generalize top4 a b = T
  split <;> omega
/-- one of the pair is another one -/
def setP (k : Nat) (x a b : ByteArray) : ByteArray × ByteArray := if k = 0 then (x, b) else (a, x)
theorem top4_le {a b : ByteArray} {n : Nat} (h : num8 a ≤ n ∧ num8 (a.extract 32 64) ≤ n ∧ num8 b ≤ n ∧ num8 (b.extract 32 64) ≤ n) : top4 a b ≤ n := by
  rw [top4_def]; omega
theorem le_top4 (a b : ByteArray) : num8 a ≤ top4 a b ∧ num8 (a.extract 32 64) ≤ top4 a b ∧ num8 b ≤ top4 a b ∧ num8 (b.extract 32 64) ≤ top4 a b := by
  rw [top4_def]; omega
theorem Pair.at_le {a b last : ByteArray} {at' M : Nat} (h : Pair a b at' last M) : at' ≤ top4 a b := by
  have hl := le_top4 a b
  by_cases h0 : at' = 0
  · omega
  · by_cases he : at' % 2 = 0
    · have := (h.even h0 he).2.1; omega
    · have := (h.odd (by omega)).2.1; omega
/-- the next word is laid, and kept -/
theorem Pair.kept {a b last w : ByteArray} {at' M n : Nat} (h : Pair a b at' last M) (hn : top4 a b < n) (hl : n < 18446744073709551616) (hw : w.size ≤ 48) : Pair (setP (n % 2) (putS n w) a b).1 (setP (n % 2) (putS n w) a b).2 n (padS w) n := by
  have hle := le_top4 a b
  have z := putS_size n w hw
  have e1 := put_num n w hl hw
  have e2 := put_back n w hl hw
  have e3 := put_whole n w (by omega) hl hw
  have e4 := put_word n w hw
  unfold setP
  by_cases hk : n % 2 = 0
  · rw [if_pos hk]
    exact ⟨z, h.sb, top4_le ⟨by simp only; omega, by simp only; omega, by simp only; omega, by simp only; omega⟩, fun h0 => by omega, fun _ _ => ⟨e3, e1, e4, fun _ => by simp only; omega⟩, fun ho => by omega⟩
  · rw [if_neg hk]
    exact ⟨h.sa, z, top4_le ⟨by simp only; omega, by simp only; omega, by simp only; omega, by simp only; omega⟩, fun h0 => by omega, fun _ he => by omega, fun _ => ⟨e3, e1, e4, fun _ => by simp only; omega⟩⟩
/-- a sector of two halves of two times is none -/
theorem Pair.torn {a b last T : ByteArray} {at' M n : Nat} (h : Pair a b at' last M) (hn : top4 a b < n) (hp : 0 < at' → n % 2 ≠ at' % 2) (hs : T.size = 64) (hT : wholeB T = false) (hT1 : num8 T ≤ n) (hT2 : num8 (T.extract 32 64) ≤ n) : Pair (setP (n % 2) T a b).1 (setP (n % 2) T a b).2 at' last n := by
  have hle := le_top4 a b
  unfold setP
  by_cases hk : n % 2 = 0
  · rw [if_pos hk]
    refine ⟨hs, h.sb, top4_le ⟨hT1, hT2, by simp only; omega, by simp only; omega⟩, fun h0 => ⟨hT, (h.zero h0).2.1, (h.zero h0).2.2⟩, fun h0 he => ?_, fun ho => ?_⟩
    · exact absurd (hk.trans he.symm) (hp (by omega))
    · obtain ⟨x, y, z, u⟩ := h.odd ho
      exact ⟨x, y, z, fun hh => by simp only at hh; rw [hT] at hh; cases hh⟩
  · rw [if_neg hk]
    refine ⟨h.sa, hs, top4_le ⟨by simp only; omega, by simp only; omega, hT1, hT2⟩, fun h0 => ⟨(h.zero h0).1, hT, (h.zero h0).2.2⟩, fun h0 he => ?_, fun ho => ?_⟩
    · obtain ⟨x, y, z, u⟩ := h.even h0 he
      exact ⟨x, y, z, fun hh => by simp only at hh; rw [hT] at hh; cases hh⟩
    · exact absurd (show n % 2 = at' % 2 by omega) (hp (by omega))
theorem Pair.more {a b last : ByteArray} {at' M n : Nat} (h : Pair a b at' last M) (hn : M ≤ n) : Pair a b at' last n := ⟨h.sa, h.sb, Nat.le_trans h.most hn, h.zero, h.even, h.odd⟩
theorem torn_not (x y : ByteArray) (m : Nat) (hx : x.size = 64) (hy : y.size = 64) (h : num8 x ≠ num8 (y.extract 32 64)) : wholeB (frontS x ++ backS y) = false := by
  unfold wholeB
  rw [torn_num x y hx, torn_back x y hx hy]
  simp [h]
/-- what a fate leaves of the pair -/
theorem Pair.fate {a b last w : ByteArray} {at' M n f : Nat} (h : Pair a b at' last M) (hn : top4 a b < n) (hl : n < 18446744073709551616) (hp : 0 < at' → n % 2 ≠ at' % 2) (hw : w.size ≤ 48) (hMn : M ≤ n) (S : List ByteArray) (hS0 : S[0]? = some a) (hS1 : S[1]? = some b) :
    ∃ a' b', (fateS (f : Nat) S (n % 2, putS n w))[0]? = some a' ∧ (fateS (f : Nat) S (n % 2, putS n w))[1]? = some b' ∧ (f = 1 ∧ Pair a' b' n (padS w) n ∨ f ≠ 1 ∧ Pair a' b' at' last n) := by
  have hle := le_top4 a b
  have z := putS_size n w hw
  have e1 := put_num n w hl hw
  have e2 := put_back n w hl hw
  have hset : ∀ x, (S.set (n % 2) x)[0]? = some (setP (n % 2) x a b).1 ∧ (S.set (n % 2) x)[1]? = some (setP (n % 2) x a b).2 := by
    intro x
    have hlen : 1 < S.length := by
      rcases Nat.lt_or_ge 1 S.length with h' | h'
      · exact h'
      · rw [List.getElem?_eq_none h'] at hS1; cases hS1
    rw [List.getElem?_set, List.getElem?_set]
    unfold setP
    by_cases hk : n % 2 = 0
    · have h0' : 0 < S.length := by omega
      rw [hk]
      exact ⟨by simp [h0'], by simp [hS1]⟩
    · rw [show n % 2 = 1 by omega]
      exact ⟨by simp [hS0], by simp [hlen]⟩
  have hold : S.getD (n % 2) ⟨#[]⟩ = if n % 2 = 0 then a else b := by
    rw [List.getD_eq_getElem?_getD]
    split
    · rename_i hk; rw [hk, hS0]; rfl
    · rename_i hk; rw [show n % 2 = 1 by omega, hS1]; rfl
  obtain ⟨O, hO⟩ : ∃ O, S.getD (n % 2) ⟨#[]⟩ = O := ⟨_, rfl⟩
  have hOs : O.size = 64 := by rw [← hO, hold]; split; exact h.sa; exact h.sb
  have hO1 : num8 O ≤ top4 a b := by rw [← hO, hold]; split <;> omega
  have hO2 : num8 (O.extract 32 64) ≤ top4 a b := by rw [← hO, hold]; split <;> omega
  unfold fateS
  simp only [hO]
  by_cases h1 : (f : Int) = 1
  · rw [if_pos h1]
    exact ⟨_, _, (hset _).1, (hset _).2, .inl ⟨by omega, h.kept hn hl hw⟩⟩
  · rw [if_neg h1]
    have hf : f ≠ 1 := by omega
    by_cases h2 : (f : Int) = 2
    · rw [if_pos h2]
      refine ⟨_, _, (hset _).1, (hset _).2, .inr ⟨hf, h.torn hn hp ?_ (torn_not _ _ 0 z hOs (by rw [e1]; omega)) ?_ ?_⟩⟩
      · rw [ByteArray.size_append, front_size z, back_size hOs]
      · rw [torn_num _ _ z]; omega
      · rw [torn_back _ _ z hOs]; omega
    · rw [if_neg h2]
      by_cases h3 : (f : Int) = 3
      · rw [if_pos h3]
        refine ⟨_, _, (hset _).1, (hset _).2, .inr ⟨hf, h.torn hn hp ?_ (torn_not _ _ 0 hOs z (by rw [e2]; omega)) ?_ ?_⟩⟩
        · rw [ByteArray.size_append, front_size hOs, back_size z]
        · rw [torn_num _ _ hOs]; omega
        · rw [torn_back _ _ hOs z]; omega
      · rw [if_neg h3]
        exact ⟨a, b, hS0, hS1, .inr ⟨hf, h.more hMn⟩⟩
end Go.Proofs.Ytcoliadgnbhkaaa
