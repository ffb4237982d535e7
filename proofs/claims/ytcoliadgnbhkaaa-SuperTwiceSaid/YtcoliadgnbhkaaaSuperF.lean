/-
  SuperInput, SuperPuts.
-/
import Derived.Test.YtcoliadgnbhkaaaSuperE
namespace Go.Proofs.Ytcoliadgnbhkaaa
open Go.RowKit
set_option linter.unusedVariables false
set_option linter.unusedSimpArgs false

theorem whole_nil : wholeB ⟨#[]⟩ = false := by decide
theorem num8_zero : num8 (zeroL 64) = 0 := by decide
theorem whole_zero : wholeB (zeroL 64) = false := by
  unfold wholeB
  rw [num8_zero]
  simp
theorem fresh_none (n : Nat) (i : Int) : wholeB (rdI (freshS n) [] i) = false := by
  unfold rdI
  split
  · rename_i h
    rw [freshS_length] at h
    rw [curD_nil n i.toNat (by omega)]
    exact whole_zero
  · exact whole_nil
theorem last_none (a b : ByteArray) (ha : wholeB a = false) (hb : wholeB b = false) : lastS a b = (0, ⟨#[]⟩, 0) := by
  unfold lastS stepL
  simp [ha, hb]
theorem curD_one (S : List ByteArray) (k : Nat) (x : ByteArray) (j : Nat) : curD S [(k, x)] j = if k = j then x else curD S [] j := by
  unfold curD
  by_cases h : k = j
  · simp [h]
  · simp [h]
theorem rdI_one (S : List ByteArray) (k : Nat) (x : ByteArray) (i : Int) (hk : k < S.length) : rdI S [(k, x)] i = if (k : Int) = i then x else rdI S [] i := by
  unfold rdI
  split
  · rename_i h
    rw [curD_one]
    by_cases e : (k : Int) = i
    · rw [if_pos e, if_pos (by omega)]
    · rw [if_neg e, if_neg (by omega)]
  · rename_i h
    rw [if_neg (by omega)]
theorem last_first (a b : ByteArray) (m : Nat) (x : ByteArray) (ha : wholeB a = true) (hb : wholeB b = false) (hm : num8 a = m) (hx : wordS a = x) (h0 : 0 < m) : lastS a b = (m, x, 0) := by
  unfold lastS
  rw [show stepL a 0 (0, ⟨#[]⟩, 0) = (m, x, 0) by unfold stepL; rw [if_pos ⟨ha, by rw [hm]; exact h0⟩, hm, hx]]
  unfold stepL
  rw [if_neg (fun hh => by rw [hb] at hh; simp at hh)]
theorem last_second (a b : ByteArray) (m : Nat) (x : ByteArray) (ha : wholeB a = false) (hb : wholeB b = true) (hm : num8 b = m) (hx : wordS b = x) (h0 : 0 < m) : lastS a b = (m, x, 1) := by
  unfold lastS
  rw [show stepL a 0 (0, ⟨#[]⟩, 0) = (0, ⟨#[]⟩, 0) by unfold stepL; rw [if_neg (fun hh => by rw [ha] at hh; simp at hh)]]
  unfold stepL
  rw [if_pos ⟨hb, by rw [hm]; exact h0⟩, hm, hx]
/-- one word in a new disk -/
theorem one_laid (k at' n : Nat) (s : ByteArray) (h0 : n ≠ 0) (hn : n < 18446744073709551616) (hs : s.size ≤ 48) (ha : at' + n % 2 < k) (hk : k ≤ 4096) : (lastS (rdI (freshS k) [(at' + n % 2, putS n s)] (wrap64 at')) (rdI (freshS k) [(at' + n % 2, putS n s)] (wrap64 (at' + 1)))).1 = n := by
  have w0 : wrap64 (at' : Int) = at' := by unfold wrap64; omega
  have w1 : wrap64 ((at' : Int) + 1) = at' + 1 := by unfold wrap64; omega
  rw [w0, w1, rdI_one _ _ _ _ (by rw [freshS_length]; exact ha), rdI_one _ _ _ _ (by rw [freshS_length]; exact ha)]
  by_cases hp : n % 2 = 0
  · rw [if_pos (by omega), if_neg (by omega), last_first _ _ n _ (put_whole n s h0 hn hs) (fresh_none _ _) (put_num n s hn hs) rfl (by omega)]
  · rw [if_neg (by omega), if_pos (by omega), last_second _ _ n _ (fresh_none _ _) (put_whole n s h0 hn hs) (put_num n s hn hs) rfl (by omega)]
set_option maxHeartbeats 1600000 in
theorem superinput_law (at' : Int) (n : Int) (s : ByteArray) (w : World) (hat : (Lit.int .i64 at').wf = true) (hn : (Lit.int .u64 n).wf = true) (hs : s.size ≤ maxLen) :
    Calls Try.prog 9 #[.int .i64 at', .int .u64 n, .string s] w fun e w' => e = .returned (.bool true) ∧ Below w.heap.size w w' := by
  have hn' : 0 ≤ n ∧ n < 18446744073709551616 := by
    simp [Lit.wf, IntKind.min, IntKind.max, IntKind.signed, IntKind.bits] at hn
    omega
  obtain ⟨m, rfl⟩ : ∃ m : Nat, n = m := ⟨n.toNat, by omega⟩
  have hm : m < 18446744073709551616 := by omega
  have hbd := wf_le hat
  have hs' := hs
  unfold maxLen at hs'
  have ca := fun w => awake05 w
  have cn := dnew 5 w (by omega) (by omega)
  clear hn hn' hat
  by_cases hv : 0 ≤ at' ∧ at' ≤ 4 - (m : Int) % 2 ∧ 0 < m ∧ s.size ≤ 48
  · obtain ⟨v1, v2, v3, v4⟩ := hv
    obtain ⟨a, rfl⟩ : ∃ a : Nat, at' = a := ⟨at'.toNat, by omega⟩
    have HL := Lib.hid (one_laid 5 a m s (by omega) hm v4 (by omega) (by omega))
    have v4' : (s.size : Int) ≤ 48 := by omega
    have v3' : 0 < (m : Int) := by omega
    go_enter Try.func9, Try.ntmps9
    go_wp2_with fail
    refine Calls.mono cn ?_
    rintro e w1 ⟨p, sv, rfl, hd, hb⟩
    have HB := Lib.hid hb
    have HD := Lib.hid hd
    clear hd hb cn
    have c1 := swrite a m s _ _ _ _ _ _ _ HD.out (by simp) (by omega) (by omega) (by omega) (by omega) (by rw [freshS_length]; omega)
    go_wp2_with fail
    refine Calls.mono c1 ?_
    rintro e w2 ⟨rfl, v2, hd, hk⟩
    have HB2 := Lib.hid (HB.out.trans hk.below)
    have HD2 := Lib.hid hd
    clear hd hk c1 HB HD
    have c3 := sread _ a _ _ _ _ _ (reads_of a _ _ _ _ _ _ _ HD2.out (by simp))
    rw [List.nil_append, HL.out] at c3
    simp only [v3, decide_true] at c3
    go_wp2_with fail
    refine Calls.mono c3 ?_
    rintro e w3 ⟨rfl, hk⟩
    have HB3 := Lib.hid (below_trans HB2.out hk HB2.out.size)
    clear hk c3
    go_wp2_with fail
    refine Calls.mono (ca _) ?_
    rintro e w5 ⟨rfl, hk⟩
    have HB5 := Lib.hid (below_trans HB3.out hk HB3.out.size)
    clear hk ca
    go_wp2_with fail
    go_ret
    exact ⟨ret_bool (by simp), HB5.out⟩
  · have cw : ∀ (w : World) (N p : Nat) (sv lv : Value), Dsk w N p sv lv (freshS 5) [] → Calls Try.prog 27 #[.pointer (some ⟨p, 0, none⟩), .int .i64 at', .int .u64 m, .string s] w fun e w' => e = .returned (.int .i64 1) ∧ Below w.heap.size w w' := by
      intro w N p sv lv hd
      by_cases hb : m = 0 ∨ 48 < s.size ∨ at' < 0 ∨ 4096 < at'
      · exact swrite_bad _ at' m s w hm hs hb
      · obtain ⟨a, rfl⟩ : ∃ a : Nat, at' = a := ⟨at'.toNat, by omega⟩
        exact swrite_out a m s w N p sv lv _ _ hd (by omega) hm (by omega) (by omega) (by rw [freshS_length]; omega)
    have CW := Lib.hid cw
    have HV := Lib.hid hv
    clear cw hv
    go_enter Try.func9, Try.ntmps9
    go_wp2_with fail
    refine Calls.mono cn ?_
    rintro e w1 ⟨p, sv, rfl, hd, hb⟩
    have HB := Lib.hid hb
    have HD := Lib.hid hd
    have c1 := CW.out _ _ _ _ _ hd
    clear hd hb cn
    go_wp2_with fail
    refine Calls.mono c1 ?_
    rintro e w2 ⟨rfl, hk⟩
    have HB2 := Lib.hid (below_trans HB.out hk HB.out.size)
    have HD2 := Lib.hid (HD.out.below hk)
    clear hk c1 HB HD
    have c3 := sread _ at' _ _ _ _ _ (reads_of at' _ _ _ _ _ _ _ HD2.out (by simp))
    rw [last_none _ _ (fresh_none 5 _) (fresh_none 5 _)] at c3
    simp only [Nat.lt_irrefl, decide_false] at c3
    go_wp2_with fail
    refine Calls.mono c3 ?_
    rintro e w3 ⟨rfl, hk⟩
    have HB3 := Lib.hid (below_trans HB2.out hk HB2.out.size)
    clear hk c3
    have hv := HV.out
    by_cases v1 : 0 ≤ at'
    · by_cases v2 : at' ≤ 4 - (m : Int) % 2
      · by_cases v3 : 0 < (m : Int)
        · have v4 : ¬ (s.size : Int) ≤ 48 := fun h => hv ⟨v1, v2, by omega, by omega⟩
          clear hv
          go_wp2_with fail
          refine Calls.mono (ca _) ?_
          rintro e w5 ⟨rfl, hk⟩
          have HB5 := Lib.hid (below_trans HB3.out hk HB3.out.size)
          clear hk ca
          go_wp2_with fail
          go_ret
          exact ⟨ret_bool (by simp; omega), HB5.out⟩
        · clear hv
          go_wp2_with fail
          refine Calls.mono (ca _) ?_
          rintro e w5 ⟨rfl, hk⟩
          have HB5 := Lib.hid (below_trans HB3.out hk HB3.out.size)
          clear hk ca
          go_wp2_with fail
          go_ret
          exact ⟨ret_bool (by simp), HB5.out⟩
      · clear hv
        go_wp2_with fail
        refine Calls.mono (ca _) ?_
        rintro e w5 ⟨rfl, hk⟩
        have HB5 := Lib.hid (below_trans HB3.out hk HB3.out.size)
        clear hk ca
        go_wp2_with fail
        go_ret
        exact ⟨ret_bool (by simp), HB5.out⟩
    · clear hv
      go_wp2_with fail
      refine Calls.mono (ca _) ?_
      rintro e w5 ⟨rfl, hk⟩
      have HB5 := Lib.hid (below_trans HB3.out hk HB3.out.size)
      clear hk ca
      go_wp2_with fail
      go_ret
      exact ⟨ret_bool (by simp), HB5.out⟩
end Go.Proofs.Ytcoliadgnbhkaaa
