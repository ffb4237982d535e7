/-
  Several texts, laid together.
-/
import Derived.Test.YtgnnijpfkgmomaaGreatDoorMh10
import Derived.Test.YtgnnijpfkgmomaaGreatDoorFits
/-
  SuperTorn.
-/


namespace Go.Proofs.YtgnnijpfkgmomaaGreatDoor
open Go.RowKit
set_option linter.unusedVariables false
set_option linter.unusedSimpArgs false

theorem or_one (a : Nat) (h : a < 18446744073709551616) : ∃ M : Nat, bits .or .u64 (a : Int) 1 = (M : Int) ∧ 0 < M ∧ M < 18446744073709551616 := by
  refine ⟨a ||| 1, ?_, Nat.lt_of_lt_of_le (by omega) Nat.right_le_or, Nat.or_lt_two_pow (n := 64) h (by omega)⟩
  have hl : a ||| 1 < 2 ^ 64 := Nat.or_lt_two_pow h (by omega)
  show IntKind.u64.wrap ((BitVec.ofInt 64 (a : Int) ||| BitVec.ofInt 64 1).toNat : Nat) = _
  rw [BitVec.toNat_or]
  rw [show (BitVec.ofInt 64 (a : Int)).toNat = a by rw [BitVec.toNat_ofInt]; omega, show (BitVec.ofInt 64 1).toNat = 1 by decide]
  rw [IntKind.wrap_u64]
  omega
theorem wf_u64S {n : Int} (hn : (Lit.int .u64 n).wf = true) : ∃ m : Nat, n = m ∧ m < 18446744073709551616 := by
  simp [Lit.wf, IntKind.min, IntKind.max, IntKind.signed, IntKind.bits] at hn
  exact ⟨n.toNat, by omega, by omega⟩
theorem fits_strs2 {w : World} {c : Array Value} (h : Fits w (Sh.rep .str 2) c.toList) : ∃ a b : ByteArray, c = #[.string a, .string b] ∧ a.size ≤ maxLen ∧ b.size ≤ maxLen := by
  obtain ⟨x, y, e, ⟨a, rfl, ha⟩, x2, y2, rfl, ⟨b, rfl, hb⟩, rfl⟩ := h
  exact ⟨a, b, by cases c; simp_all, ha, hb⟩
/-- the front of a text -/
theorem cut48 (s : ByteArray) (hs : s.size ≤ maxLen) : ∃ (t : Int) (E : ByteArray), min (s.size : Int) 48 = t ∧ 0 ≤ t ∧ t ≤ (s.size : Int) ∧ s.extract 0 t.toNat = E ∧ E.size ≤ 48 := by
  refine ⟨_, _, rfl, by omega, by omega, rfl, ?_⟩
  rw [ByteArray.size_extract]
  omega
theorem whole_torn (m n : Nat) (s t : ByteArray) (h0 : m ≠ 0) (hm : m < 18446744073709551616) (hn : n < 18446744073709551616) (hs : s.size ≤ 48) (ht : t.size ≤ 48) : wholeB ((putS m s).extract 0 32 ++ (putS n t).extract 32 64) = decide (m = n) ∧ num8 ((putS m s).extract 0 32 ++ (putS n t).extract 32 64) = m := by
  have e : (putS m s).extract 0 32 ++ (putS n t).extract 32 64 = frontS (putS m s) ++ backS (putS n t) := by
    unfold frontS backS
    rw [putS_size n t ht]
  have z1 := putS_size m s hs
  have z2 := putS_size n t ht
  have h1 := torn_num (putS m s) (putS n t) z1
  have h2 := torn_back (putS m s) (putS n t) z1 z2
  rw [e]
  refine ⟨?_, by rw [h1, put_num m s hm hs]⟩
  unfold wholeB
  rw [h1, h2, put_num m s hm hs, put_back n t hn ht, ByteArray.size_append, front_size z1, back_size z2]
  simp [h0]
end Go.Proofs.YtgnnijpfkgmomaaGreatDoor
/-
  A pair of sectors that words are laid in, one behind the other, whole or torn: what the last whole word is, and the next number. The law's own half and next.
-/

namespace Go.Proofs.YtgnnijpfkgmomaaGreatDoor
open Go.RowKit
set_option linter.unusedVariables false
set_option linter.unusedSimpArgs false

/-- the greatest number that any half of two sectors says -/
def top4 (a b : ByteArray) : Nat := hiJ a b true true 2
theorem top4_def (a b : ByteArray) : top4 a b = max (max (max (max 0 (num8 a)) (num8 (a.extract 32 64))) (num8 b)) (num8 (b.extract 32 64)) := rfl
/-- a pair whose last whole word is of the number at; all numbers are below M -/
structure Pair (a b : ByteArray) (at' : Nat) (last : ByteArray) (M : Nat) : Prop where
  sa : a.size = 64
  sb : b.size = 64
  most : top4 a b ≤ M
  zero : at' = 0 → wholeB a = false ∧ wholeB b = false ∧ last = ⟨#[]⟩
  even : at' ≠ 0 → at' % 2 = 0 → wholeB a = true ∧ num8 a = at' ∧ wordS a = last ∧ (wholeB b = true → num8 b < at')
  odd : at' % 2 = 1 → wholeB b = true ∧ num8 b = at' ∧ wordS b = last ∧ (wholeB a = true → num8 a < at')
theorem Pair.last {a b last : ByteArray} {at' M : Nat} (h : Pair a b at' last M) : lastS a b = (at', last, at' % 2) := by
  by_cases h0 : at' = 0
  · obtain ⟨x, y, z⟩ := h.zero h0
    rw [last_none a b x y, z, h0]
  · by_cases he : at' % 2 = 0
    · obtain ⟨x, y, z, u⟩ := h.even h0 he
      unfold lastS
      rw [show stepL a 0 (0, ⟨#[]⟩, 0) = (at', last, 0) by unfold stepL; rw [if_pos ⟨x, by rw [y]; show 0 < at'; omega⟩, y, z], he]
      unfold stepL
      rw [if_neg (fun hh => by have := u hh.1; have h2 := hh.2; simp only at h2; omega)]
    · obtain ⟨x, y, z, u⟩ := h.odd (by omega)
      unfold lastS
      have hlt : (stepL a 0 (0, ⟨#[]⟩, 0)).1 < num8 b := by
        unfold stepL
        split
        · rename_i hh
          rw [y]
          exact u hh.1
        · rw [y]; show 0 < at'; omega
      generalize stepL a 0 (0, ⟨#[]⟩, 0) = q at hlt
      unfold stepL
      rw [if_pos ⟨x, hlt⟩, y, z, show at' % 2 = 1 by omega]
/-- the number that comes next -/
def nextP (a b : ByteArray) (at' : Nat) : Nat := if 0 < at' ∧ (top4 a b + 1) % 2 = at' % 2 then top4 a b + 2 else top4 a b + 1
theorem Pair.next {a b last : ByteArray} {at' M : Nat} (h : Pair a b at' last M) (hM : M ≤ 2000000000) : nextS a b true true = nextP a b at' := by
  have hm := h.most
  unfold nextS nextM nextP
  rw [h.last]
  show (if 0 < at' ∧ (top4 a b + 1) % 18446744073709551616 ≠ 0 ∧ (top4 a b + 1) % 18446744073709551616 % 2 = at' % 2 then ((top4 a b + 1) % 18446744073709551616 + 1) % 18446744073709551616 else (top4 a b + 1) % 18446744073709551616) = _
  generalize top4 a b = T at *
  rw [Nat.mod_eq_of_lt (show T + 1 < 18446744073709551616 by omega)]
  by_cases hc : 0 < at' ∧ (T + 1) % 2 = at' % 2
  · rw [if_pos ⟨hc.1, by omega, hc.2⟩, if_pos hc]
    omega
  · rw [if_neg (fun hh => hc ⟨hh.1, hh.2.2⟩), if_neg hc]
theorem nextP_gt (a b : ByteArray) (at' : Nat) : top4 a b < nextP a b at' ∧ nextP a b at' ≤ top4 a b + 2 ∧ (0 < at' → nextP a b at' % 2 ≠ at' % 2) := by
  unfold nextP
  generalize top4 a b = T
  split <;> omega
/-- one of the pair is another one -/
def setP (k : Nat) (x a b : ByteArray) : ByteArray × ByteArray := if k = 0 then (x, b) else (a, x)
theorem top4_le {a b : ByteArray} {n : Nat} (h : num8 a ≤ n ∧ num8 (a.extract 32 64) ≤ n ∧ num8 b ≤ n ∧ num8 (b.extract 32 64) ≤ n) : top4 a b ≤ n := by
  rw [top4_def]; omega
theorem le_top4 (a b : ByteArray) : num8 a ≤ top4 a b ∧ num8 (a.extract 32 64) ≤ top4 a b ∧ num8 b ≤ top4 a b ∧ num8 (b.extract 32 64) ≤ top4 a b := by
  rw [top4_def]; omega
theorem Pair.at_le {a b last : ByteArray} {at' M : Nat} (h : Pair a b at' last M) : at' ≤ top4 a b := by
  have hl := le_top4 a b
  by_cases h0 : at' = 0
  · omega
  · by_cases he : at' % 2 = 0
    · have := (h.even h0 he).2.1; omega
    · have := (h.odd (by omega)).2.1; omega
/-- the next word is laid, and kept -/
theorem Pair.kept {a b last w : ByteArray} {at' M n : Nat} (h : Pair a b at' last M) (hn : top4 a b < n) (hl : n < 18446744073709551616) (hw : w.size ≤ 48) : Pair (setP (n % 2) (putS n w) a b).1 (setP (n % 2) (putS n w) a b).2 n (padS w) n := by
  have hle := le_top4 a b
  have z := putS_size n w hw
  have e1 := put_num n w hl hw
  have e2 := put_back n w hl hw
  have e3 := put_whole n w (by omega) hl hw
  have e4 := put_word n w hw
  unfold setP
  by_cases hk : n % 2 = 0
  · rw [if_pos hk]
    exact ⟨z, h.sb, top4_le ⟨by simp only; omega, by simp only; omega, by simp only; omega, by simp only; omega⟩, fun h0 => by omega, fun _ _ => ⟨e3, e1, e4, fun _ => by simp only; omega⟩, fun ho => by omega⟩
  · rw [if_neg hk]
    exact ⟨h.sa, z, top4_le ⟨by simp only; omega, by simp only; omega, by simp only; omega, by simp only; omega⟩, fun h0 => by omega, fun _ he => by omega, fun _ => ⟨e3, e1, e4, fun _ => by simp only; omega⟩⟩
/-- a sector of two halves of two times is none -/
theorem Pair.torn {a b last T : ByteArray} {at' M n : Nat} (h : Pair a b at' last M) (hn : top4 a b < n) (hp : 0 < at' → n % 2 ≠ at' % 2) (hs : T.size = 64) (hT : wholeB T = false) (hT1 : num8 T ≤ n) (hT2 : num8 (T.extract 32 64) ≤ n) : Pair (setP (n % 2) T a b).1 (setP (n % 2) T a b).2 at' last n := by
  have hle := le_top4 a b
  unfold setP
  by_cases hk : n % 2 = 0
  · rw [if_pos hk]
    refine ⟨hs, h.sb, top4_le ⟨hT1, hT2, by simp only; omega, by simp only; omega⟩, fun h0 => ⟨hT, (h.zero h0).2.1, (h.zero h0).2.2⟩, fun h0 he => ?_, fun ho => ?_⟩
    · exact absurd (hk.trans he.symm) (hp (by omega))
    · obtain ⟨x, y, z, u⟩ := h.odd ho
      exact ⟨x, y, z, fun hh => by simp only at hh; rw [hT] at hh; cases hh⟩
  · rw [if_neg hk]
    refine ⟨h.sa, hs, top4_le ⟨by simp only; omega, by simp only; omega, hT1, hT2⟩, fun h0 => ⟨(h.zero h0).1, hT, (h.zero h0).2.2⟩, fun h0 he => ?_, fun ho => ?_⟩
    · obtain ⟨x, y, z, u⟩ := h.even h0 he
      exact ⟨x, y, z, fun hh => by simp only at hh; rw [hT] at hh; cases hh⟩
    · exact absurd (show n % 2 = at' % 2 by omega) (hp (by omega))
theorem Pair.more {a b last : ByteArray} {at' M n : Nat} (h : Pair a b at' last M) (hn : M ≤ n) : Pair a b at' last n := ⟨h.sa, h.sb, Nat.le_trans h.most hn, h.zero, h.even, h.odd⟩
theorem torn_not (x y : ByteArray) (m : Nat) (hx : x.size = 64) (hy : y.size = 64) (h : num8 x ≠ num8 (y.extract 32 64)) : wholeB (frontS x ++ backS y) = false := by
  unfold wholeB
  rw [torn_num x y hx, torn_back x y hx hy]
  simp [h]
/-- what a fate leaves of the pair -/
theorem Pair.fate {a b last w : ByteArray} {at' M n f : Nat} (h : Pair a b at' last M) (hn : top4 a b < n) (hl : n < 18446744073709551616) (hp : 0 < at' → n % 2 ≠ at' % 2) (hw : w.size ≤ 48) (hMn : M ≤ n) (S : List ByteArray) (hS0 : S[0]? = some a) (hS1 : S[1]? = some b) :
    ∃ a' b', (fateS (f : Nat) S (n % 2, putS n w))[0]? = some a' ∧ (fateS (f : Nat) S (n % 2, putS n w))[1]? = some b' ∧ (f = 1 ∧ Pair a' b' n (padS w) n ∨ f ≠ 1 ∧ Pair a' b' at' last n) := by
  have hle := le_top4 a b
  have z := putS_size n w hw
  have e1 := put_num n w hl hw
  have e2 := put_back n w hl hw
  have hset : ∀ x, (S.set (n % 2) x)[0]? = some (setP (n % 2) x a b).1 ∧ (S.set (n % 2) x)[1]? = some (setP (n % 2) x a b).2 := by
    intro x
    have hlen : 1 < S.length := by
      rcases Nat.lt_or_ge 1 S.length with h' | h'
      · exact h'
      · rw [List.getElem?_eq_none h'] at hS1; cases hS1
    rw [List.getElem?_set, List.getElem?_set]
    unfold setP
    by_cases hk : n % 2 = 0
    · have h0' : 0 < S.length := by omega
      rw [hk]
      exact ⟨by simp [h0'], by simp [hS1]⟩
    · rw [show n % 2 = 1 by omega]
      exact ⟨by simp [hS0], by simp [hlen]⟩
  have hold : S.getD (n % 2) ⟨#[]⟩ = if n % 2 = 0 then a else b := by
    rw [List.getD_eq_getElem?_getD]
    split
    · rename_i hk; rw [hk, hS0]; rfl
    · rename_i hk; rw [show n % 2 = 1 by omega, hS1]; rfl
  obtain ⟨O, hO⟩ : ∃ O, S.getD (n % 2) ⟨#[]⟩ = O := ⟨_, rfl⟩
  have hOs : O.size = 64 := by rw [← hO, hold]; split; exact h.sa; exact h.sb
  have hO1 : num8 O ≤ top4 a b := by rw [← hO, hold]; split <;> omega
  have hO2 : num8 (O.extract 32 64) ≤ top4 a b := by rw [← hO, hold]; split <;> omega
  unfold fateS
  simp only [hO]
  by_cases h1 : (f : Int) = 1
  · rw [if_pos h1]
    exact ⟨_, _, (hset _).1, (hset _).2, .inl ⟨by omega, h.kept hn hl hw⟩⟩
  · rw [if_neg h1]
    have hf : f ≠ 1 := by omega
    by_cases h2 : (f : Int) = 2
    · rw [if_pos h2]
      refine ⟨_, _, (hset _).1, (hset _).2, .inr ⟨hf, h.torn hn hp ?_ (torn_not _ _ 0 z hOs (by rw [e1]; omega)) ?_ ?_⟩⟩
      · rw [ByteArray.size_append, front_size z, back_size hOs]
      · rw [torn_num _ _ z]; omega
      · rw [torn_back _ _ z hOs]; omega
    · rw [if_neg h2]
      by_cases h3 : (f : Int) = 3
      · rw [if_pos h3]
        refine ⟨_, _, (hset _).1, (hset _).2, .inr ⟨hf, h.torn hn hp ?_ (torn_not _ _ 0 hOs z (by rw [e2]; omega)) ?_ ?_⟩⟩
        · rw [ByteArray.size_append, front_size hOs, back_size z]
        · rw [torn_num _ _ hOs]; omega
        · rw [torn_back _ _ hOs z]; omega
      · rw [if_neg h3]
        exact ⟨a, b, hS0, hS1, .inr ⟨hf, h.more hMn⟩⟩
end Go.Proofs.YtgnnijpfkgmomaaGreatDoor
/-
  SuperPlays.
-/

namespace Go.Proofs.YtgnnijpfkgmomaaGreatDoor
open Go.RowKit
set_option linter.unusedVariables false
set_option linter.unusedSimpArgs false

theorem hiJ_le_top (a b : ByteArray) (j : Nat) (h : j ≤ 2) : hiJ a b true true j ≤ top4 a b := by
  have : j = 0 ∨ j = 1 ∨ j = 2 := by omega
  rw [top4_def]
  rcases this with rfl | rfl | rfl <;> simp [hiJ, hiS] <;> omega
theorem rAt_le_top (a b : ByteArray) (j : Nat) : num8 (rAt a b j) ≤ top4 a b ∧ num8 ((rAt a b j).extract 32 64) ≤ top4 a b := by
  have := le_top4 a b
  unfold rAt
  split <;> omega
end Go.Proofs.YtgnnijpfkgmomaaGreatDoor
/-
  A disk whose first two sectors are such a pair: what Next, Write, Sync, Crash, Read do. SuperPlays.
-/

namespace Go.Proofs.YtgnnijpfkgmomaaGreatDoor
open Go.RowKit
set_option linter.unusedVariables false
set_option linter.unusedSimpArgs false

/-- a disk that holds such a pair, and nothing that is not sure -/
structure PDsk (w : World) (N p : Nat) (sv : Value) (S : List ByteArray) (a b : ByteArray) (at' : Nat) (last : ByteArray) (M : Nat) : Prop where
  dsk : Dsk w N p sv (.slice none 0 0) S []
  s0 : S[0]? = some a
  s1 : S[1]? = some b
  pair : Pair a b at' last M
  small : M ≤ 1000000000
theorem PDsk.below {w w' : World} {N p at' M : Nat} {sv : Value} {S : List ByteArray} {a b last : ByteArray} (h : PDsk w N p sv S a b at' last M) (hb : Below w.heap.size w w') : PDsk w' N p sv S a b at' last M := ⟨h.dsk.below hb, h.s0, h.s1, h.pair, h.small⟩
theorem PDsk.len {w : World} {N p at' M : Nat} {sv : Value} {S : List ByteArray} {a b last : ByteArray} (h : PDsk w N p sv S a b at' last M) : 1 < S.length := by
  have := h.s1
  rcases Nat.lt_or_ge 1 S.length with h' | h'
  · exact h'
  · rw [List.getElem?_eq_none h'] at this; cases this
theorem PDsk.reads {w : World} {N p at' M : Nat} {sv : Value} {S : List ByteArray} {a b last : ByteArray} (h : PDsk w N p sv S a b at' last M) : Reads2 (.pointer (some ⟨p, 0, none⟩)) w 0 a b 0 0 := by
  have c := reads_of 0 w N p sv _ S [] h.dsk (by simp)
  have hl := h.len
  have e0 : rdI S [] (wrap64 0) = a := by
    rw [show wrap64 0 = ((0 : Nat) : Int) by unfold wrap64; omega, rdI_nat _ _ _ (by omega)]
    simp [curD, h.s0]
  have e1 : rdI S [] (wrap64 (0 + 1)) = b := by
    rw [show wrap64 (0 + 1) = ((1 : Nat) : Int) by unfold wrap64; omega, rdI_nat _ _ _ (by omega)]
    simp [curD, h.s1]
  have e2 : erI S (wrap64 0) = 0 := by
    unfold erI
    rw [show wrap64 0 = 0 by unfold wrap64; omega, if_pos ⟨by omega, by omega⟩]
  have e3 : erI S (wrap64 (0 + 1)) = 0 := by
    unfold erI
    rw [show wrap64 (0 + 1) = 1 by unfold wrap64; omega, if_pos ⟨by omega, by omega⟩]
  rw [e0, e1, e2, e3] at c
  exact c
theorem pnext {w : World} {N p at' M : Nat} {sv : Value} {S : List ByteArray} {a b last : ByteArray} (h : PDsk w N p sv S a b at' last M) : Calls Tryz.prog 66 #[.pointer (some ⟨p, 0, none⟩), .int .i64 0] w fun e w' => e = .returned (.int .u64 (nextP a b at')) ∧ Below w.heap.size w w' := by
  have hs := h.small
  have c := snext (.pointer (some ⟨p, 0, none⟩)) 0 a b true true w (by omega) h.reads (fun _ => h.pair.sa) (fun _ => h.pair.sb)
  rw [h.pair.next (by omega)] at c
  exact c
theorem pread {w : World} {N p at' M : Nat} {sv : Value} {S : List ByteArray} {a b last : ByteArray} (h : PDsk w N p sv S a b at' last M) : Calls Tryz.prog 25 #[.pointer (some ⟨p, 0, none⟩), .int .i64 0] w fun e w' => e = .returned (.tuple #[.int .u64 at', .string last, .bool (decide (0 < at'))]) ∧ Below w.heap.size w w' := by
  have c := sread (.pointer (some ⟨p, 0, none⟩)) 0 a b 0 0 w h.reads
  rw [h.pair.last] at c
  exact c
/-- a word that is laid, and not sure yet -/
structure PWr (w : World) (N p : Nat) (sv lv : Value) (S : List ByteArray) (a b : ByteArray) (at' : Nat) (last : ByteArray) (M n : Nat) (s : ByteArray) : Prop where
  dsk : Dsk w N p sv lv S [(n % 2, putS n s)]
  s0 : S[0]? = some a
  s1 : S[1]? = some b
  pair : Pair a b at' last M
  small : M ≤ 1000000000
  gt : top4 a b < n
  le : n ≤ M + 2
  other : 0 < at' → n % 2 ≠ at' % 2
  word : s.size ≤ 48
theorem pwrite {w : World} {N p at' M : Nat} {sv : Value} {S : List ByteArray} {a b last : ByteArray} (h : PDsk w N p sv S a b at' last M) (s : ByteArray) (hs : s.size ≤ 48) : Calls Tryz.prog 72 #[.pointer (some ⟨p, 0, none⟩), .int .i64 0, .int .u64 (nextP a b at'), .string s] w fun e w' => e = .returned (.int .i64 0) ∧ ∃ lv, PWr w' N p sv lv S a b at' last M (nextP a b at') s ∧ Below N w w' := by
  obtain ⟨g1, g2, g3⟩ := nextP_gt a b at'
  have hm := h.pair.most
  have hsm := h.small
  have hl := h.len
  have c := swrite 0 (nextP a b at') s w N p sv _ S [] h.dsk (by simp) (by omega) (by omega) hs (by omega) (by omega)
  refine c.mono fun e w' hh => ⟨hh.1, ?_⟩
  obtain ⟨v2, hd, hk⟩ := hh.2
  rw [List.nil_append, Nat.zero_add] at hd
  exact ⟨v2, ⟨hd, h.s0, h.s1, h.pair, hsm, g1, by omega, g3, hs⟩, hk.below⟩
/-- behind a word's fate: it is kept whole, or the last one is still there -/
def POut (w' : World) (N p : Nat) (sv : Value) (at' : Nat) (last : ByteArray) (M n : Nat) (s : ByteArray) (sure : Prop) : Prop :=
  ∃ S' a' b', PDsk w' N p sv S' a' b' n (padS s) (M + 2) ∨ ¬ sure ∧ PDsk w' N p sv S' a' b' at' last (M + 2)
theorem PWr.out {w w' : World} {N p at' M n f : Nat} {sv lv : Value} {S : List ByteArray} {a b last s : ByteArray} (h : PWr w N p sv lv S a b at' last M n s) (hM : M + 2 ≤ 1000000000) (hd : Dsk w' N p sv (.slice none 0 0) (fateS (f : Nat) S (n % 2, putS n s)) []) {sure : Prop} (hs : sure → f = 1) : POut w' N p sv at' last M n s sure := by
  have h1 := h.le
  have h2 := h.small
  by_cases hMn : M ≤ n
  · obtain ⟨a', b', e0, e1, hp⟩ := h.pair.fate (f := f) h.gt (by omega) h.other h.word hMn S h.s0 h.s1
    refine ⟨fateS (f : Nat) S (n % 2, putS n s), a', b', ?_⟩
    rcases hp with ⟨_, hp⟩ | ⟨hf, hp⟩
    · exact .inl ⟨hd, e0, e1, hp.more h1, hM⟩
    · exact .inr ⟨fun h => hf (hs h), hd, e0, e1, hp.more h1, hM⟩
  · have hp0 : Pair a b at' last (top4 a b) := ⟨h.pair.sa, h.pair.sb, Nat.le_refl _, h.pair.zero, h.pair.even, h.pair.odd⟩
    obtain ⟨a', b', e0, e1, hp⟩ := hp0.fate (f := f) h.gt (by omega) h.other h.word (Nat.le_of_lt h.gt) S h.s0 h.s1
    refine ⟨fateS (f : Nat) S (n % 2, putS n s), a', b', ?_⟩
    rcases hp with ⟨_, hp⟩ | ⟨hf, hp⟩
    · exact .inl ⟨hd, e0, e1, hp.more h1, hM⟩
    · exact .inr ⟨fun h => hf (hs h), hd, e0, e1, hp.more h1, hM⟩
theorem psync {w : World} {N p at' M n : Nat} {sv lv : Value} {S : List ByteArray} {a b last s : ByteArray} (h : PWr w N p sv lv S a b at' last M n s) (hM : M + 2 ≤ 1000000000) : Calls Tryz.prog 39 #[.pointer (some ⟨p, 0, none⟩)] w fun e w' => e = .returned (.tuple #[]) ∧ POut w' N p sv at' last M n s True ∧ Below N w w' := by
  refine (dsync w N p sv lv S _ h.dsk (by simp)).mono fun e w' hh => ⟨hh.1, ?_, hh.2.2.below⟩
  exact h.out (f := 1) hM hh.2.1 (fun _ => rfl)
theorem pcrash {w : World} {N p at' M n : Nat} {sv lv : Value} {S : List ByteArray} {a b last s : ByteArray} (h : PWr w N p sv lv S a b at' last M n s) (hM : M + 2 ≤ 1000000000) (u : Nat) (hu : u < 18446744073709551616) : Calls Tryz.prog 14 #[.pointer (some ⟨p, 0, none⟩), .int .u64 u] w fun e w' => e = .returned (.tuple #[]) ∧ POut w' N p sv at' last M n s False ∧ Below N w w' := by
  refine (dcrash u hu w N p sv lv S _ h.dsk (by simp)).mono fun e w' hh => ⟨hh.1, ?_, hh.2.2.below⟩
  exact h.out (f := fateU u 0) hM hh.2.1 (fun h => h.elim)
theorem mask_u64 (x : Nat) (k m : Nat) (hm : m = 2 ^ k - 1) (hk : k ≤ 60) (hx : x < 18446744073709551616) : bits .and .u64 (x : Int) (m : Int) = ((x % 2 ^ k : Nat) : Int) := by
  subst hm
  have hp : 2 ^ k ≤ 2 ^ 60 := Nat.pow_le_pow_right (by omega) hk
  have h0 : 0 < 2 ^ k := Nat.two_pow_pos k
  show IntKind.u64.wrap ((BitVec.ofInt 64 (x : Int) &&& BitVec.ofInt 64 ((2 ^ k - 1 : Nat) : Int)).toNat : Nat) = _
  rw [BitVec.toNat_and]
  rw [show (BitVec.ofInt 64 (x : Int)).toNat = x by rw [BitVec.toNat_ofInt]; omega, show (BitVec.ofInt 64 ((2 ^ k - 1 : Nat) : Int)).toNat = 2 ^ k - 1 by rw [BitVec.toNat_ofInt]; omega]
  rw [Nat.and_two_pow_sub_one_eq_mod, IntKind.wrap_u64]
  have := Nat.mod_lt x h0
  omega
end Go.Proofs.YtgnnijpfkgmomaaGreatDoor
/-
  SuperPlays.
-/

namespace Go.Proofs.YtgnnijpfkgmomaaGreatDoor
open Go.RowKit
set_option linter.unusedVariables false
set_option linter.unusedSimpArgs false

theorem zero_pair : Pair (zeroL 64) (zeroL 64) 0 ⟨#[]⟩ 0 :=
  ⟨zeroL_size 64, zeroL_size 64, by decide, fun _ => ⟨whole_zero, whole_zero, rfl⟩, fun h => absurd rfl h, fun h => by omega⟩
theorem fresh_pdsk {w : World} {N p n : Nat} {sv : Value} (h : Dsk w N p sv (.slice none 0 0) (freshS n) []) (hn : 2 ≤ n) : PDsk w N p sv (freshS n) (zeroL 64) (zeroL 64) 0 ⟨#[]⟩ 0 :=
  ⟨h, by simp [freshS, show 0 < n by omega], by simp [freshS, show 1 < n by omega], zero_pair, by omega⟩
/-- what the loop keeps -/
structure PlayR (w wr : World) (p i : Nat) (sv : Value) (S : List ByteArray) (a b : ByteArray) (at' : Nat) (last : ByteArray) : Prop where
  pd : PDsk wr w.heap.size p sv S a b at' last (16777218 + 2 * i)
  below : Below w.heap.size w wr
theorem POut.play {w w' : World} {p at' i n : Nat} {sv : Value} {last s : ByteArray} {sure : Prop} (h : POut w' w.heap.size p sv at' last (16777218 + 2 * i) n s sure) (hb : Below w.heap.size w w') :
    (∃ S' a' b', PlayR w w' p (i + 1) sv S' a' b' n (padS s)) ∨ ¬ sure ∧ ∃ S' a' b', PlayR w w' p (i + 1) sv S' a' b' at' last := by
  obtain ⟨S', a', b', hp | ⟨hs, hp⟩⟩ := h
  · exact .inl ⟨S', a', b', hp, hb⟩
  · exact .inr ⟨hs, S', a', b', hp, hb⟩
/-- a text of a slice of texts that came in -/
theorem str_at {w wr : World} {a : Option Addr} {len cap : Nat} (h : Fits w (.slice .str) [.slice a len cap]) (hb : Below w.heap.size w wr) (i : Nat) (hi : i < len) : ∃ b off s, a = some ⟨b, off, none⟩ ∧ wr.cell? ⟨b, off + i, none⟩ = some (.string s) ∧ s.size ≤ maxLen := by
  obtain ⟨_, _, h0 | ⟨b, off, rfl, hlt, hc⟩⟩ := h.slice
  · omega
  · obtain ⟨ys, _, hy, s, rfl, hs⟩ := hc i hi
    refine ⟨b, off, s, rfl, ?_, hs⟩
    have := hy 0 (.string s) rfl
    rw [show Sh.size .str = 1 from rfl, Nat.mul_one, Nat.add_zero] at this
    exact (hb.cell (p := ⟨b, off + i, none⟩) hlt).trans this
theorem u64_at {w wr : World} {a : Option Addr} {len cap : Nat} (h : Fits w (.slice (.int .u64)) [.slice a len cap]) (hb : Below w.heap.size w wr) (i : Nat) (hi : i < len) : ∃ b off x, a = some ⟨b, off, none⟩ ∧ wr.cell? ⟨b, off + i, none⟩ = some (.int .u64 (x : Nat)) ∧ x < 18446744073709551616 := by
  obtain ⟨_, _, h0 | ⟨b, off, rfl, hlt, hc⟩⟩ := h.slice
  · omega
  · obtain ⟨ys, _, hy, z, rfl, hz⟩ := hc i hi
    obtain ⟨x, rfl, hx⟩ := wf_u64S hz
    refine ⟨b, off, x, rfl, ?_, hx⟩
    have := hy 0 (.int .u64 (x : Nat)) rfl
    rw [show Sh.size (.int .u64) = 1 from rfl, Nat.mul_one, Nat.add_zero] at this
    exact (hb.cell (p := ⟨b, off + i, none⟩) hlt).trans this
theorem slice_len {w : World} {a : Option Addr} {len cap : Nat} {s : Sh} (h : Fits w (.slice s) [.slice a len cap]) : len ≤ 9223372036854775807 := by
  have := h.slice
  unfold maxLen at this
  omega
end Go.Proofs.YtgnnijpfkgmomaaGreatDoor
