/-
  Several texts, laid together.
-/
import Derived.Test.YtgnnijpfkgmomaaGreatDoorMh9
/-
  What a sector of two halves says, torn or whole; word; the waking call of layer 5; a disk's pair as it is read.
-/


namespace Go.Proofs.YtgnnijpfkgmomaaGreatDoor
open Go.RowKit
set_option linter.unusedVariables false
set_option linter.unusedSimpArgs false

theorem num8_be (n : Nat) (h : n < 18446744073709551616) (l : List UInt8) : valN ((beN 8 n ++ l).take 8) = n := by
  rw [List.take_left' (beN_length 8 n), valN_beN]
  exact Nat.mod_eq_of_lt h
theorem app_list (a b : ByteArray) : (a ++ b).data.toList = a.data.toList ++ b.data.toList := by simp
theorem ext_list (s : ByteArray) (a b : Nat) : (s.extract a b).data.toList = (s.data.toList.drop a).take (b - a) := Lib.extract_data s a b
theorem put_list (n : Nat) (s : ByteArray) (h : s.size ≤ 48) : (putS n s).data.toList = beN 8 n ++ ((padS s).data.toList.take 24 ++ (beN 8 n ++ (padS s).data.toList.drop 24)) := by
  have hp : (padS s).data.toList.length = 48 := padS_size s h
  simp only [putS, app_list, ext_list, be8, List.append_assoc]
  simp only [List.drop_zero, Nat.sub_zero]
  rw [List.take_of_length_le (l := List.drop 24 _) (by rw [List.length_drop, hp]; omega)]
theorem put_num (n : Nat) (s : ByteArray) (hn : n < 18446744073709551616) (h : s.size ≤ 48) : num8 (putS n s) = n := by
  unfold num8
  rw [put_list n s h, num8_be n hn]
theorem put_back (n : Nat) (s : ByteArray) (hn : n < 18446744073709551616) (h : s.size ≤ 48) : num8 ((putS n s).extract 32 64) = n := by
  have hp : (padS s).data.toList.length = 48 := padS_size s h
  unfold num8
  rw [ext_list, put_list n s h, ← List.append_assoc, List.drop_left' (by rw [List.length_append, beN_length, List.length_take, hp]; rfl)]
  rw [List.take_of_length_le (l := beN 8 n ++ _) (by rw [List.length_append, beN_length, List.length_drop, hp]; omega)]
  exact num8_be n hn _
theorem put_word (n : Nat) (s : ByteArray) (h : s.size ≤ 48) : wordS (putS n s) = padS s := by
  have hp : (padS s).data.toList.length = 48 := padS_size s h
  apply str_ext
  unfold wordS
  rw [app_list, ext_list, ext_list, put_list n s h]
  rw [List.drop_left' (beN_length 8 n), List.take_left' (by rw [List.length_take, hp]; rfl)]
  rw [← List.append_assoc, ← List.append_assoc, List.drop_left' (by rw [List.length_append, List.length_append, beN_length, List.length_take, hp]; rfl)]
  rw [List.take_of_length_le (l := List.drop 24 _) (by rw [List.length_drop, hp]; omega)]
  exact List.take_append_drop 24 _
theorem put_whole (n : Nat) (s : ByteArray) (h0 : n ≠ 0) (hn : n < 18446744073709551616) (h : s.size ≤ 48) : wholeB (putS n s) = true := by
  unfold wholeB
  rw [put_num n s hn h, put_back n s hn h, putS_size n s h]
  simp [h0]
theorem torn_num (a b : ByteArray) (ha : a.size = 64) : num8 (frontS a ++ backS b) = num8 a := by
  have h : a.data.toList.length = 64 := ha
  unfold num8
  rw [app_list]
  unfold frontS
  rw [ext_list, List.take_append_of_le_length (by rw [List.length_take, List.length_drop, h]; decide)]
  rw [List.drop_zero, List.take_take]
  rfl
theorem torn_back (a b : ByteArray) (ha : a.size = 64) (hb : b.size = 64) : (frontS a ++ backS b).extract 32 64 = b.extract 32 64 := by
  have h1 : a.data.toList.length = 64 := ha
  apply str_ext
  rw [ext_list, app_list]
  unfold frontS backS
  rw [ext_list, ext_list, ext_list, List.drop_left' (by rw [List.length_take, List.length_drop, h1]; rfl), hb, List.take_take]
  rfl
theorem word_eq (s : ByteArray) (h : s.size ≤ 48) : (s ++ zeroL 48).extract 0 48 = padS s := by
  have hl : s.data.toList.length ≤ 48 := h
  apply str_ext
  rw [ext_list, app_list, padS, app_list, List.drop_zero, List.take_append]
  rw [List.take_of_length_le (by omega)]
  congr 1
  show List.take (48 - 0 - s.data.toList.length) (List.replicate 48 0) = List.replicate (48 - s.data.toList.length) 0
  rw [List.take_replicate]
  congr 1
  omega
/-- a disk's sector as it is read; where there is none, nothing -/
theorem reads_of (at' : Int) (w : World) (N p : Nat) (sv lv : Value) (S : List ByteArray) (L : List (Nat × ByteArray)) (h : Dsk w N p sv lv S L) (hL : L.length ≤ 1000000000) : Reads2 (.pointer (some ⟨p, 0, none⟩)) w at' (rdI S L (wrap64 at')) (rdI S L (wrap64 (at' + 1))) (erI S (wrap64 at')) (erI S (wrap64 (at' + 1))) := by
  intro j w' hj hb
  have : j = 0 ∨ j = 1 := by omega
  rcases this with rfl | rfl
  · have c := read_any (wrap64 at') w' N p sv lv S L (h.below hb) hL
    simpa [rAt] using c
  · have c := read_any (wrap64 (at' + 1)) w' N p sv lv S L (h.below hb) hL
    simpa [rAt] using c
theorem rdI_nat (S : List ByteArray) (L : List (Nat × ByteArray)) (i : Nat) (h : i < S.length) : rdI S L i = curD S L i := by
  unfold rdI
  rw [if_pos ⟨by omega, by omega⟩]
  rfl
theorem last_two (a b : ByteArray) (m n : Nat) (x y : ByteArray) (ha : wholeB a = true) (hb : wholeB b = true) (hm : num8 a = m) (hn : num8 b = n) (hx : wordS a = x) (h0 : 0 < m) (h : n < m) : lastS a b = (m, x, 0) := by
  have h1 : stepL a 0 (0, ⟨#[]⟩, 0) = (m, x, 0) := by
    unfold stepL
    rw [if_pos ⟨ha, by rw [hm]; exact h0⟩, hm, hx]
  unfold lastS
  rw [h1]
  unfold stepL
  rw [if_neg (fun hh => by have := hh.2; rw [hn] at this; simp only at this; omega)]
end Go.Proofs.YtgnnijpfkgmomaaGreatDoor
/-
  SuperInput, SuperPuts.
-/

namespace Go.Proofs.YtgnnijpfkgmomaaGreatDoor
open Go.RowKit
set_option linter.unusedVariables false
set_option linter.unusedSimpArgs false

theorem whole_nil : wholeB ⟨#[]⟩ = false := by decide
theorem num8_zero : num8 (zeroL 64) = 0 := by decide
theorem whole_zero : wholeB (zeroL 64) = false := by
  unfold wholeB
  rw [num8_zero]
  simp
theorem fresh_none (n : Nat) (i : Int) : wholeB (rdI (freshS n) [] i) = false := by
  unfold rdI
  split
  · rename_i h
    rw [freshS_length] at h
    rw [curD_nil n i.toNat (by omega)]
    exact whole_zero
  · exact whole_nil
theorem last_none (a b : ByteArray) (ha : wholeB a = false) (hb : wholeB b = false) : lastS a b = (0, ⟨#[]⟩, 0) := by
  unfold lastS stepL
  simp [ha, hb]
theorem curD_one (S : List ByteArray) (k : Nat) (x : ByteArray) (j : Nat) : curD S [(k, x)] j = if k = j then x else curD S [] j := by
  unfold curD
  by_cases h : k = j
  · simp [h]
  · simp [h]
theorem rdI_one (S : List ByteArray) (k : Nat) (x : ByteArray) (i : Int) (hk : k < S.length) : rdI S [(k, x)] i = if (k : Int) = i then x else rdI S [] i := by
  unfold rdI
  split
  · rename_i h
    rw [curD_one]
    by_cases e : (k : Int) = i
    · rw [if_pos e, if_pos (by omega)]
    · rw [if_neg e, if_neg (by omega)]
  · rename_i h
    rw [if_neg (by omega)]
theorem last_first (a b : ByteArray) (m : Nat) (x : ByteArray) (ha : wholeB a = true) (hb : wholeB b = false) (hm : num8 a = m) (hx : wordS a = x) (h0 : 0 < m) : lastS a b = (m, x, 0) := by
  unfold lastS
  rw [show stepL a 0 (0, ⟨#[]⟩, 0) = (m, x, 0) by unfold stepL; rw [if_pos ⟨ha, by rw [hm]; exact h0⟩, hm, hx]]
  unfold stepL
  rw [if_neg (fun hh => by rw [hb] at hh; simp at hh)]
theorem last_second (a b : ByteArray) (m : Nat) (x : ByteArray) (ha : wholeB a = false) (hb : wholeB b = true) (hm : num8 b = m) (hx : wordS b = x) (h0 : 0 < m) : lastS a b = (m, x, 1) := by
  unfold lastS
  rw [show stepL a 0 (0, ⟨#[]⟩, 0) = (0, ⟨#[]⟩, 0) by unfold stepL; rw [if_neg (fun hh => by rw [ha] at hh; simp at hh)]]
  unfold stepL
  rw [if_pos ⟨hb, by rw [hm]; exact h0⟩, hm, hx]
/-- one word in a new disk -/
theorem one_laid (k at' n : Nat) (s : ByteArray) (h0 : n ≠ 0) (hn : n < 18446744073709551616) (hs : s.size ≤ 48) (ha : at' + n % 2 < k) (hk : k ≤ 4096) : (lastS (rdI (freshS k) [(at' + n % 2, putS n s)] (wrap64 at')) (rdI (freshS k) [(at' + n % 2, putS n s)] (wrap64 (at' + 1)))).1 = n := by
  have w0 : wrap64 (at' : Int) = at' := by unfold wrap64; omega
  have w1 : wrap64 ((at' : Int) + 1) = at' + 1 := by unfold wrap64; omega
  rw [w0, w1, rdI_one _ _ _ _ (by rw [freshS_length]; exact ha), rdI_one _ _ _ _ (by rw [freshS_length]; exact ha)]
  by_cases hp : n % 2 = 0
  · rw [if_pos (by omega), if_neg (by omega), last_first _ _ n _ (put_whole n s h0 hn hs) (fresh_none _ _) (put_num n s hn hs) rfl (by omega)]
  · rw [if_neg (by omega), if_pos (by omega), last_second _ _ n _ (fresh_none _ _) (put_whole n s h0 hn hs) (put_num n s hn hs) rfl (by omega)]
end Go.Proofs.YtgnnijpfkgmomaaGreatDoor
/-
  SuperPuts.
-/

namespace Go.Proofs.YtgnnijpfkgmomaaGreatDoor
open Go.RowKit
set_option linter.unusedVariables false
set_option linter.unusedSimpArgs false

theorem be_more (n k : Nat) (h : k < 8) : (beN 8 n).take (k + 1) = (beN 8 n).take k ++ [UInt8.ofNat (n / 256 ^ (7 - k))] := by
  have hj : k = 0 ∨ k = 1 ∨ k = 2 ∨ k = 3 ∨ k = 4 ∨ k = 5 ∨ k = 6 ∨ k = 7 := by omega
  rcases hj with rfl | rfl | rfl | rfl | rfl | rfl | rfl | rfl <;> rfl
theorem byte_shift (n k : Nat) (h : k < 8) : (n : Int) / 2 ^ (56 - 8 * k) % 256 = ((UInt8.ofNat (n / 256 ^ (7 - k))).toNat : Int) := by
  rw [show 56 - 8 * k = 8 * (7 - k) by omega]
  exact byte_nat n (7 - k)
def PRel5 (n k : Nat) (b : Value) (w wr : World) : Prop := b = .string ⟨((beN 8 n).take k).toArray⟩ ∧ Below w.heap.size w wr
end Go.Proofs.YtgnnijpfkgmomaaGreatDoor
