/-
  A disk whose first two sectors are such a pair: what Next, Write, Sync, Crash, Read do. SuperPlays.
-/
import Derived.Test.YtcoliadgnbhkaaaSuperJ
namespace Go.Proofs.Ytcoliadgnbhkaaa
open Go.RowKit
set_option linter.unusedVariables false
set_option linter.unusedSimpArgs false

/-- a disk that holds such a pair, and nothing that is not sure -/
structure PDsk (w : World) (N p : Nat) (sv : Value) (S : List ByteArray) (a b : ByteArray) (at' : Nat) (last : ByteArray) (M : Nat) : Prop where
  dsk : Dsk w N p sv (.slice none 0 0) S []
  s0 : S[0]? = some a
  s1 : S[1]? = some b
  pair : Pair a b at' last M
  small : M ≤ 1000000000
theorem PDsk.below {w w' : World} {N p at' M : Nat} {sv : Value} {S : List ByteArray} {a b last : ByteArray} (h : PDsk w N p sv S a b at' last M) (hb : Below w.heap.size w w') : PDsk w' N p sv S a b at' last M := ⟨h.dsk.below hb, h.s0, h.s1, h.pair, h.small⟩
theorem PDsk.len {w : World} {N p at' M : Nat} {sv : Value} {S : List ByteArray} {a b last : ByteArray} (h : PDsk w N p sv S a b at' last M) : 1 < S.length := by
  have := h.s1
  rcases Nat.lt_or_ge 1 S.length with h' | h'
  · exact h'
  · rw [List.getElem?_eq_none h'] at this; cases this
theorem PDsk.reads {w : World} {N p at' M : Nat} {sv : Value} {S : List ByteArray} {a b last : ByteArray} (h : PDsk w N p sv S a b at' last M) : Reads2 (.pointer (some ⟨p, 0, none⟩)) w 0 a b 0 0 := by
  have c := reads_of 0 w N p sv _ S [] h.dsk (by simp)
  have hl := h.len
  have e0 : rdI S [] (wrap64 0) = a := by
    rw [show wrap64 0 = ((0 : Nat) : Int) by unfold wrap64; omega, rdI_nat _ _ _ (by omega)]
    simp [curD, h.s0]
  have e1 : rdI S [] (wrap64 (0 + 1)) = b := by
    rw [show wrap64 (0 + 1) = ((1 : Nat) : Int) by unfold wrap64; omega, rdI_nat _ _ _ (by omega)]
    simp [curD, h.s1]
  have e2 : erI S (wrap64 0) = 0 := by
    unfold erI
    rw [show wrap64 0 = 0 by unfold wrap64; omega, if_pos ⟨by omega, by omega⟩]
  have e3 : erI S (wrap64 (0 + 1)) = 0 := by
    unfold erI
    rw [show wrap64 (0 + 1) = 1 by unfold wrap64; omega, if_pos ⟨by omega, by omega⟩]
  rw [e0, e1, e2, e3] at c
  exact c
theorem pnext {w : World} {N p at' M : Nat} {sv : Value} {S : List ByteArray} {a b last : ByteArray} (h : PDsk w N p sv S a b at' last M) : Calls Try.prog 28 #[.pointer (some ⟨p, 0, none⟩), .int .i64 0] w fun e w' => e = .returned (.int .u64 (nextP a b at')) ∧ Below w.heap.size w w' := by
  have hs := h.small
  have c := snext (.pointer (some ⟨p, 0, none⟩)) 0 a b true true w (by omega) h.reads (fun _ => h.pair.sa) (fun _ => h.pair.sb)
  rw [h.pair.next (by omega)] at c
  exact c
theorem plnext {w : World} {N p at' M : Nat} {sv : Value} {S : List ByteArray} {a b last : ByteArray} (h : PDsk w N p sv S a b at' last M) : Calls Try.prog 29 #[.pointer (some ⟨p, 0, none⟩), .int .u64 at'] w fun e w' => e = .returned (.int .u64 (nextP a b at')) ∧ Below w.heap.size w w' := by
  have hs := h.small
  have hm := h.pair.most
  have ha := h.pair.at_le
  exact lnext _ a b at' w h.pair.sa h.pair.sb (by omega) (by omega) h.reads
theorem pread {w : World} {N p at' M : Nat} {sv : Value} {S : List ByteArray} {a b last : ByteArray} (h : PDsk w N p sv S a b at' last M) : Calls Try.prog 30 #[.pointer (some ⟨p, 0, none⟩), .int .i64 0] w fun e w' => e = .returned (.tuple #[.int .u64 at', .string last, .bool (decide (0 < at'))]) ∧ Below w.heap.size w w' := by
  have c := sread (.pointer (some ⟨p, 0, none⟩)) 0 a b 0 0 w h.reads
  rw [h.pair.last] at c
  exact c
/-- a word that is laid, and not sure yet -/
structure PWr (w : World) (N p : Nat) (sv lv : Value) (S : List ByteArray) (a b : ByteArray) (at' : Nat) (last : ByteArray) (M n : Nat) (s : ByteArray) : Prop where
  dsk : Dsk w N p sv lv S [(n % 2, putS n s)]
  s0 : S[0]? = some a
  s1 : S[1]? = some b
  pair : Pair a b at' last M
  small : M ≤ 1000000000
  gt : top4 a b < n
  le : n ≤ M + 2
  other : 0 < at' → n % 2 ≠ at' % 2
  word : s.size ≤ 48
theorem pwrite {w : World} {N p at' M : Nat} {sv : Value} {S : List ByteArray} {a b last : ByteArray} (h : PDsk w N p sv S a b at' last M) (s : ByteArray) (hs : s.size ≤ 48) : Calls Try.prog 27 #[.pointer (some ⟨p, 0, none⟩), .int .i64 0, .int .u64 (nextP a b at'), .string s] w fun e w' => e = .returned (.int .i64 0) ∧ ∃ lv, PWr w' N p sv lv S a b at' last M (nextP a b at') s ∧ Below N w w' := by
  obtain ⟨g1, g2, g3⟩ := nextP_gt a b at'
  have hm := h.pair.most
  have hsm := h.small
  have hl := h.len
  have c := swrite 0 (nextP a b at') s w N p sv _ S [] h.dsk (by simp) (by omega) (by omega) hs (by omega) (by omega)
  refine c.mono fun e w' hh => ⟨hh.1, ?_⟩
  obtain ⟨v2, hd, hk⟩ := hh.2
  rw [List.nil_append, Nat.zero_add] at hd
  exact ⟨v2, ⟨hd, h.s0, h.s1, h.pair, hsm, g1, by omega, g3, hs⟩, hk.below⟩
/-- behind a word's fate: it is kept whole, or the last one is still there -/
def POut (w' : World) (N p : Nat) (sv : Value) (at' : Nat) (last : ByteArray) (M n : Nat) (s : ByteArray) (sure : Prop) : Prop :=
  ∃ S' a' b', PDsk w' N p sv S' a' b' n (padS s) (M + 2) ∨ ¬ sure ∧ PDsk w' N p sv S' a' b' at' last (M + 2)
theorem PWr.out {w w' : World} {N p at' M n f : Nat} {sv lv : Value} {S : List ByteArray} {a b last s : ByteArray} (h : PWr w N p sv lv S a b at' last M n s) (hM : M + 2 ≤ 1000000000) (hd : Dsk w' N p sv (.slice none 0 0) (fateS (f : Nat) S (n % 2, putS n s)) []) {sure : Prop} (hs : sure → f = 1) : POut w' N p sv at' last M n s sure := by
  have h1 := h.le
  have h2 := h.small
  by_cases hMn : M ≤ n
  · obtain ⟨a', b', e0, e1, hp⟩ := h.pair.fate (f := f) h.gt (by omega) h.other h.word hMn S h.s0 h.s1
    refine ⟨fateS (f : Nat) S (n % 2, putS n s), a', b', ?_⟩
    rcases hp with ⟨_, hp⟩ | ⟨hf, hp⟩
    · exact .inl ⟨hd, e0, e1, hp.more h1, hM⟩
    · exact .inr ⟨fun h => hf (hs h), hd, e0, e1, hp.more h1, hM⟩
  · have hp0 : Pair a b at' last (top4 a b) := ⟨h.pair.sa, h.pair.sb, Nat.le_refl _, h.pair.zero, h.pair.even, h.pair.odd⟩
    obtain ⟨a', b', e0, e1, hp⟩ := hp0.fate (f := f) h.gt (by omega) h.other h.word (Nat.le_of_lt h.gt) S h.s0 h.s1
    refine ⟨fateS (f : Nat) S (n % 2, putS n s), a', b', ?_⟩
    rcases hp with ⟨_, hp⟩ | ⟨hf, hp⟩
    · exact .inl ⟨hd, e0, e1, hp.more h1, hM⟩
    · exact .inr ⟨fun h => hf (hs h), hd, e0, e1, hp.more h1, hM⟩
theorem psync {w : World} {N p at' M n : Nat} {sv lv : Value} {S : List ByteArray} {a b last s : ByteArray} (h : PWr w N p sv lv S a b at' last M n s) (hM : M + 2 ≤ 1000000000) : Calls Try.prog 17 #[.pointer (some ⟨p, 0, none⟩)] w fun e w' => e = .returned (.tuple #[]) ∧ POut w' N p sv at' last M n s True ∧ Below N w w' := by
  refine (dsync w N p sv lv S _ h.dsk (by simp)).mono fun e w' hh => ⟨hh.1, ?_, hh.2.2.below⟩
  exact h.out (f := 1) hM hh.2.1 (fun _ => rfl)
theorem pcrash {w : World} {N p at' M n : Nat} {sv lv : Value} {S : List ByteArray} {a b last s : ByteArray} (h : PWr w N p sv lv S a b at' last M n s) (hM : M + 2 ≤ 1000000000) (u : Nat) (hu : u < 18446744073709551616) : Calls Try.prog 18 #[.pointer (some ⟨p, 0, none⟩), .int .u64 u] w fun e w' => e = .returned (.tuple #[]) ∧ POut w' N p sv at' last M n s False ∧ Below N w w' := by
  refine (dcrash u hu w N p sv lv S _ h.dsk (by simp)).mono fun e w' hh => ⟨hh.1, ?_, hh.2.2.below⟩
  exact h.out (f := fateU u 0) hM hh.2.1 (fun h => h.elim)
theorem mask_u64 (x : Nat) (k m : Nat) (hm : m = 2 ^ k - 1) (hk : k ≤ 60) (hx : x < 18446744073709551616) : bits .and .u64 (x : Int) (m : Int) = ((x % 2 ^ k : Nat) : Int) := by
  subst hm
  have hp : 2 ^ k ≤ 2 ^ 60 := Nat.pow_le_pow_right (by omega) hk
  have h0 : 0 < 2 ^ k := Nat.two_pow_pos k
  show IntKind.u64.wrap ((BitVec.ofInt 64 (x : Int) &&& BitVec.ofInt 64 ((2 ^ k - 1 : Nat) : Int)).toNat : Nat) = _
  rw [BitVec.toNat_and]
  rw [show (BitVec.ofInt 64 (x : Int)).toNat = x by rw [BitVec.toNat_ofInt]; omega, show (BitVec.ofInt 64 ((2 ^ k - 1 : Nat) : Int)).toNat = 2 ^ k - 1 by rw [BitVec.toNat_ofInt]; omega]
  rw [Nat.and_two_pow_sub_one_eq_mod, IntKind.wrap_u64]
  have := Nat.mod_lt x h0
  omega
end Go.Proofs.Ytcoliadgnbhkaaa
