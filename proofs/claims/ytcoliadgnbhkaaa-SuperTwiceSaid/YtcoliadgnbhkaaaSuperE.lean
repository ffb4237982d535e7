/-
  What a sector of two halves says, torn or whole; word; the waking call of layer 5; a disk's pair as it is read.
-/
import Derived.Test.YtcoliadgnbhkaaaSuperD
namespace Go.Proofs.Ytcoliadgnbhkaaa
open Go.RowKit
set_option linter.unusedVariables false
set_option linter.unusedSimpArgs false

theorem num8_be (n : Nat) (h : n < 18446744073709551616) (l : List UInt8) : valN ((beN 8 n ++ l).take 8) = n := by
  rw [List.take_left' (beN_length 8 n), valN_beN]
  exact Nat.mod_eq_of_lt h
theorem app_list (a b : ByteArray) : (a ++ b).data.toList = a.data.toList ++ b.data.toList := by simp
theorem ext_list (s : ByteArray) (a b : Nat) : (s.extract a b).data.toList = (s.data.toList.drop a).take (b - a) := Lib.extract_data s a b
theorem put_list (n : Nat) (s : ByteArray) (h : s.size ≤ 48) : (putS n s).data.toList = beN 8 n ++ ((padS s).data.toList.take 24 ++ (beN 8 n ++ (padS s).data.toList.drop 24)) := by
  have hp : (padS s).data.toList.length = 48 := padS_size s h
  simp only [putS, app_list, ext_list, be8, List.append_assoc]
  simp only [List.drop_zero, Nat.sub_zero]
  rw [List.take_of_length_le (l := List.drop 24 _) (by rw [List.length_drop, hp]; omega)]
theorem put_num (n : Nat) (s : ByteArray) (hn : n < 18446744073709551616) (h : s.size ≤ 48) : num8 (putS n s) = n := by
  unfold num8
  rw [put_list n s h, num8_be n hn]
theorem put_back (n : Nat) (s : ByteArray) (hn : n < 18446744073709551616) (h : s.size ≤ 48) : num8 ((putS n s).extract 32 64) = n := by
  have hp : (padS s).data.toList.length = 48 := padS_size s h
  unfold num8
  rw [ext_list, put_list n s h, ← List.append_assoc, List.drop_left' (by rw [List.length_append, beN_length, List.length_take, hp]; rfl)]
  rw [List.take_of_length_le (l := beN 8 n ++ _) (by rw [List.length_append, beN_length, List.length_drop, hp]; omega)]
  exact num8_be n hn _
theorem put_word (n : Nat) (s : ByteArray) (h : s.size ≤ 48) : wordS (putS n s) = padS s := by
  have hp : (padS s).data.toList.length = 48 := padS_size s h
  apply str_ext
  unfold wordS
  rw [app_list, ext_list, ext_list, put_list n s h]
  rw [List.drop_left' (beN_length 8 n), List.take_left' (by rw [List.length_take, hp]; rfl)]
  rw [← List.append_assoc, ← List.append_assoc, List.drop_left' (by rw [List.length_append, List.length_append, beN_length, List.length_take, hp]; rfl)]
  rw [List.take_of_length_le (l := List.drop 24 _) (by rw [List.length_drop, hp]; omega)]
  exact List.take_append_drop 24 _
theorem put_whole (n : Nat) (s : ByteArray) (h0 : n ≠ 0) (hn : n < 18446744073709551616) (h : s.size ≤ 48) : wholeB (putS n s) = true := by
  unfold wholeB
  rw [put_num n s hn h, put_back n s hn h, putS_size n s h]
  simp [h0]
theorem torn_num (a b : ByteArray) (ha : a.size = 64) : num8 (frontS a ++ backS b) = num8 a := by
  have h : a.data.toList.length = 64 := ha
  unfold num8
  rw [app_list]
  unfold frontS
  rw [ext_list, List.take_append_of_le_length (by rw [List.length_take, List.length_drop, h]; decide)]
  rw [List.drop_zero, List.take_take]
  rfl
theorem torn_back (a b : ByteArray) (ha : a.size = 64) (hb : b.size = 64) : (frontS a ++ backS b).extract 32 64 = b.extract 32 64 := by
  have h1 : a.data.toList.length = 64 := ha
  apply str_ext
  rw [ext_list, app_list]
  unfold frontS backS
  rw [ext_list, ext_list, ext_list, List.drop_left' (by rw [List.length_take, List.length_drop, h1]; rfl), hb, List.take_take]
  rfl
theorem word_eq (s : ByteArray) (h : s.size ≤ 48) : (s ++ zeroL 48).extract 0 48 = padS s := by
  have hl : s.data.toList.length ≤ 48 := h
  apply str_ext
  rw [ext_list, app_list, padS, app_list, List.drop_zero, List.take_append]
  rw [List.take_of_length_le (by omega)]
  congr 1
  show List.take (48 - 0 - s.data.toList.length) (List.replicate 48 0) = List.replicate (48 - s.data.toList.length) 0
  rw [List.take_replicate]
  congr 1
  omega
set_option maxHeartbeats 800000 in
theorem sword (s : ByteArray) (w : World) (h : s.size ≤ 48) : Calls Try.prog 26 #[.string s] w fun e w' => e = .returned (.string (padS s)) ∧ Below w.heap.size w w' := by
  have hmk : ∀ w, (Instr.makeSlice 47 (.int .i64 48) (.int .i64 48)).run Try.prog w = .ok (.slice (some ⟨w.heap.size, 0, none⟩) 48 48) (w.alloc (.cells (bCells (List.replicate 48 0)).toArray 5)) := fun _ => by kernel_rfl
  have hx := heap_alloc_self w (.cells (bCells (List.replicate 48 0)).toArray 5)
  have hb0 : Below w.heap.size w (w.alloc (.cells (bCells (List.replicate 48 0)).toArray 5)) := (Below.refl _ _).alloc (Nat.le_refl _) _
  have hcv := conv_block (P := Try.prog) (src := 47) (dst := 9) Try.underlying47 Try.underlying5 Try.underlying9 48 (show 48 = (List.replicate 48 (0 : UInt8)).length by simp) hx
  have hE : (⟨(List.replicate 48 (0 : UInt8)).toArray⟩ : ByteArray) = zeroL 48 := rfl
  rw [hE] at hcv
  have hW := word_eq s h
  have hZs : (zeroL 48).size ≤ 48 := by rw [zeroL_size]; omega
  have hZ48 : 48 ≤ (zeroL 48).size := by rw [zeroL_size]; omega
  obtain ⟨Z, hZ⟩ : ∃ Z, zeroL 48 = Z := ⟨_, rfl⟩
  rw [hZ] at hcv hW hZs hZ48
  obtain ⟨l0, hl0⟩ : ∃ l : List UInt8, List.replicate 48 0 = l := ⟨_, rfl⟩
  rw [hl0] at hmk hx hb0 hcv
  have hS : (48 : Int) ≤ (s ++ Z).size := by rw [ByteArray.size_append]; omega
  have hS2 : 48 ≤ (s ++ Z).size := by omega
  have hn : ¬ 9223372036854775807 < s.size + Z.size := by omega
  have HW := Lib.hid hW
  have HB := Lib.hid hb0
  clear hx hb0 hE hW hZ hl0
  go_enter Try.func26, Try.ntmps26
  go_wp2_with fail
  go_ret
  exact ⟨ret_str HW.out, HB.out⟩
/-- a disk's sector as it is read; where there is none, nothing -/
def rdI (S : List ByteArray) (L : List (Nat × ByteArray)) (i : Int) : ByteArray := if 0 ≤ i ∧ i < S.length then curD S L i.toNat else ⟨#[]⟩
def erI (S : List ByteArray) (i : Int) : Int := if 0 ≤ i ∧ i < S.length then 0 else 1
theorem read_any (i : Int) (w : World) (N p : Nat) (sv lv : Value) (S : List ByteArray) (L : List (Nat × ByteArray)) (h : Dsk w N p sv lv S L) (hL : L.length ≤ 1000000000) : Calls Try.prog 21 #[.pointer (some ⟨p, 0, none⟩), .int .i64 i] w fun e w' => e = .returned (.tuple #[.string (rdI S L i), .int .i64 (erI S i)]) ∧ Below w.heap.size w w' := by
  unfold rdI erI
  by_cases hg : 0 ≤ i ∧ i < S.length
  · rw [if_pos hg, if_pos hg]
    obtain ⟨n, rfl⟩ : ∃ n : Nat, i = n := ⟨i.toNat, by omega⟩
    exact dread n w N p sv lv S L h (by omega) hL
  · rw [if_neg hg, if_neg hg]
    exact dread_none i w N p sv lv S L h hg
theorem reads_of (at' : Int) (w : World) (N p : Nat) (sv lv : Value) (S : List ByteArray) (L : List (Nat × ByteArray)) (h : Dsk w N p sv lv S L) (hL : L.length ≤ 1000000000) : Reads2 (.pointer (some ⟨p, 0, none⟩)) w at' (rdI S L (wrap64 at')) (rdI S L (wrap64 (at' + 1))) (erI S (wrap64 at')) (erI S (wrap64 (at' + 1))) := by
  intro j w' hj hb
  have : j = 0 ∨ j = 1 := by omega
  rcases this with rfl | rfl
  · have c := read_any (wrap64 at') w' N p sv lv S L (h.below hb) hL
    simpa [rAt] using c
  · have c := read_any (wrap64 (at' + 1)) w' N p sv lv S L (h.below hb) hL
    simpa [rAt] using c
theorem rdI_nat (S : List ByteArray) (L : List (Nat × ByteArray)) (i : Nat) (h : i < S.length) : rdI S L i = curD S L i := by
  unfold rdI
  rw [if_pos ⟨by omega, by omega⟩]
  rfl
theorem last_two (a b : ByteArray) (m n : Nat) (x y : ByteArray) (ha : wholeB a = true) (hb : wholeB b = true) (hm : num8 a = m) (hn : num8 b = n) (hx : wordS a = x) (h0 : 0 < m) (h : n < m) : lastS a b = (m, x, 0) := by
  have h1 : stepL a 0 (0, ⟨#[]⟩, 0) = (m, x, 0) := by
    unfold stepL
    rw [if_pos ⟨ha, by rw [hm]; exact h0⟩, hm, hx]
  unfold lastS
  rw [h1]
  unfold stepL
  rw [if_neg (fun hh => by have := hh.2; rw [hn] at this; simp only at this; omega)]
set_option maxHeartbeats 800000 in
theorem awake05 (w : World) : Calls Try.prog 25 #[] w fun e w' => e = .returned (.bool true) ∧ Below w.heap.size w w' := by
  have cs := fun w => sword ⟨#[98]⟩ w (by decide)
  have cn := dnew 4 w (by omega) (by omega)
  have hr : ∀ v : List (Nat × ByteArray), v = [] ++ [(1 + 1 % 2, putS 1 ⟨#[97]⟩)] ++ [(1 + 2 % 2, putS 2 ⟨#[98]⟩)] → lastS (rdI (freshS 4) v (wrap64 1)) (rdI (freshS 4) v (wrap64 (1 + 1))) = (2, padS ⟨#[98]⟩, 0) := by
    rintro v rfl
    have e1 : rdI (freshS 4) ([] ++ [(1 + 1 % 2, putS 1 ⟨#[97]⟩)] ++ [(1 + 2 % 2, putS 2 ⟨#[98]⟩)]) (wrap64 1) = putS 2 ⟨#[98]⟩ := by
      rw [show wrap64 1 = ((1 : Nat) : Int) by unfold wrap64; omega, rdI_nat _ _ _ (by rw [freshS_length]; omega)]
      rfl
    have e2 : rdI (freshS 4) ([] ++ [(1 + 1 % 2, putS 1 ⟨#[97]⟩)] ++ [(1 + 2 % 2, putS 2 ⟨#[98]⟩)]) (wrap64 (1 + 1)) = putS 1 ⟨#[97]⟩ := by
      rw [show wrap64 (1 + 1) = ((2 : Nat) : Int) by unfold wrap64; omega, rdI_nat _ _ _ (by rw [freshS_length]; omega)]
      rfl
    rw [e1, e2]
    exact last_two _ _ 2 1 _ (padS ⟨#[98]⟩) (put_whole _ _ (by omega) (by omega) (by decide)) (put_whole _ _ (by omega) (by omega) (by decide)) (put_num _ _ (by omega) (by decide)) (put_num _ _ (by omega) (by decide)) (put_word _ _ (by decide)) (by omega) (by omega)
  have HR := Lib.hid hr
  clear hr
  obtain ⟨W, hW⟩ : ∃ W, padS ⟨#[98]⟩ = W := ⟨_, rfl⟩
  simp only [hW] at cs
  have HW := Lib.hid hW
  clear hW
  go_enter Try.func25, Try.ntmps25
  go_wp2_with fail
  refine Calls.mono cn ?_
  rintro e w1 ⟨p, sv, rfl, hd, hb⟩
  have HB := Lib.hid hb
  have HD := Lib.hid hd
  clear hd hb cn
  have c1 := swrite 1 1 ⟨#[97]⟩ _ _ _ _ _ _ _ HD.out (by simp) (by omega) (by omega) (by decide) (by omega) (by rw [freshS_length]; omega)
  go_wp2_with fail
  refine Calls.mono c1 ?_
  rintro e w2 ⟨rfl, v2, hd, hk⟩
  have HB2 := Lib.hid (HB.out.trans hk.below)
  have HD2 := Lib.hid hd
  clear hd hk c1 HB HD
  have c1 := swrite 1 2 ⟨#[98]⟩ _ _ _ _ _ _ _ HD2.out (by simp) (by omega) (by omega) (by decide) (by omega) (by rw [freshS_length]; omega)
  go_wp2_with fail
  refine Calls.mono c1 ?_
  rintro e w3 ⟨rfl, v3, hd, hk⟩
  have HB3 := Lib.hid (HB2.out.trans hk.below)
  have HD3 := Lib.hid hd
  clear hd hk c1 HB2 HD2
  have c3 := sread _ 1 _ _ _ _ _ (reads_of 1 _ _ _ _ _ _ _ HD3.out (by simp))
  rw [HR.out _ rfl, HW.out] at c3
  simp only [show (0 < 2) = True by simp, decide_true] at c3
  go_wp2_with fail
  refine Calls.mono c3 ?_
  rintro e w4 ⟨rfl, hk⟩
  have HB4 := Lib.hid (below_trans HB3.out hk HB3.out.size)
  clear hk c3
  go_wp2_with fail
  refine Calls.mono (cs _) ?_
  rintro e w5 ⟨rfl, hk⟩
  have HB5 := Lib.hid (below_trans HB4.out hk HB4.out.size)
  clear hk cs
  go_wp2_with fail
  go_ret
  exact ⟨ret_bool (by simp), HB5.out⟩
end Go.Proofs.Ytcoliadgnbhkaaa
