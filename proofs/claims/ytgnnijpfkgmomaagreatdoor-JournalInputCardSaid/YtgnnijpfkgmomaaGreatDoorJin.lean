/-
  JournalInput.
-/
import Derived.Test.YtgnnijpfkgmomaaGreatDoorMh16
import Derived.Test.YtgnnijpfkgmomaaGreatDoorFits
import Derived.Test.YtgnnijpfkgmomaaGreatDoorMask
namespace Go.Proofs.YtgnnijpfkgmomaaGreatDoor
open Go.RowKit
set_option linter.unusedVariables false
set_option linter.unusedSimpArgs false

theorem jopen_small {w : World} {N q : Nat} {sv lv : Value} {S : List ByteArray} {L : List (Nat × ByteArray)} (h : Dsk w N q sv lv S L) (hs : S.length < 6) :
    Calls Tryz.prog 7 #[.pointer (some ⟨q, 0, none⟩)] w fun e w' => e = .returned (.tuple #[.pointer none, .int .i64 1]) ∧ w = w' := by
  have cs := dsectors w N q sv lv S L h
  have h6 : ((S.length : Nat) : Int) < 6 := by omega
  clear h hs
  go_enter Tryz.func7, Tryz.ntmps7
  go_wp2_with fail
  refine Calls.mono cs ?_
  rintro e w1 ⟨rfl, rfl⟩
  go_wp2_with fail
  go_returns
  exact ⟨rfl, rfl⟩
theorem jopen_nil (w : World) : Calls Tryz.prog 7 #[.pointer none] w fun e w' => e = .returned (.tuple #[.pointer none, .int .i64 1]) ∧ w = w' := by
  go_enter Tryz.func7, Tryz.ntmps7
  go_wp2_with fail
  refine Calls.mono (dsectors0 _) ?_
  rintro e w1 ⟨rfl, rfl⟩
  go_wp2_with fail
  go_returns
  exact ⟨rfl, rfl⟩
theorem jall_nil (b : ByteArray) (w : World) : Calls Tryz.prog 15 #[.pointer none, .string b] w fun e w' => e = .returned (.slice none 0 0) ∧ w = w' := by
  go_enter Tryz.func15, Tryz.ntmps15
  go_wp2_with fail
  go_returns
  exact ⟨rfl, rfl⟩
theorem cut_nil (k : ByteArray) : cutK [] k = [] := rfl
theorem cut_one (k v : ByteArray) : cutK [⟨k, v⟩] k = [] := by
  unfold cutK ahK beK
  rw [List.filter_cons, List.filter_cons, if_neg (by rw [ltK_irr]; simp), if_neg (by rw [ltK_irr]; simp)]
  rfl
/-- a disk of a few sectors is opened, or is too small -/
theorem jopen_any {w : World} {N q n : Nat} {sv : Value} (h : Dsk w N q sv (.slice none 0 0) (freshS n) []) (hn : n ≤ 1000) :
    Calls Tryz.prog 7 #[.pointer (some ⟨q, 0, none⟩)] w fun e w' => ∃ pt f, e = .returned (.tuple #[.pointer pt, .int .i64 f]) ∧ (6 ≤ n → f = 0) ∧ (¬ 6 ≤ n → f = 1) ∧ Below w.heap.size w w' := by
  by_cases h6 : 6 ≤ n
  · refine (jopen (dr_fresh h h6 hn)).mono ?_
    rintro e w' ⟨p, pv, rfl, -, -, hb⟩
    exact ⟨_, 0, rfl, fun _ => rfl, fun h => absurd h6 h, hb⟩
  · refine (jopen_small h (by rw [freshS_length]; omega)).mono ?_
    rintro e w' ⟨rfl, rfl⟩
    exact ⟨_, 1, rfl, fun h => absurd h h6, fun _ => rfl, Below.refl _ _⟩
/-- a key and a value are put into an empty journal of 600 sectors -/
theorem jput_first {w : World} {N p q : Nat} {pv lv sv : Value} {S : List ByteArray} {a b last : ByteArray} (h : JX w N p q pv lv sv S a b last ⟨600, [], 0, 0, 0⟩ []) (k v : ByteArray) (hv : v.size ≤ maxLen) (is : Bool) (his : is = (mayK k && decide (v.size ≤ 8192))) :
    Calls Tryz.prog 19 #[.pointer (some ⟨p, 0, none⟩), .string k, .string v] w fun e w' => ∃ (r : Int) (os : List JO) (pv' lv' : Value), e = .returned (.int .i64 r) ∧ (is = true → r = 0) ∧ (is = false → r = 1) ∧ JX w' N p q pv' lv' sv S a b last ⟨600, [], 0, 0, 0⟩ os ∧ lenJ os ≤ 10000 ∧ cutK (nowJ ⟨600, [], 0, 0, 0⟩ os) k = [] ∧ (mayK k = false → nowJ ⟨600, [], 0, 0, 0⟩ os = []) ∧ Below N w w' := by
  cases is with
  | true =>
    have hg := his.symm
    rw [Bool.and_eq_true, decide_eq_true_eq] at hg
    have hk : 1 ≤ k.size ∧ k.size ≤ 32 := by have := hg.1; unfold mayK at this; simpa using this
    have hrl : (recS ⟨k, v⟩).size ≤ 19 + k.size + v.size := recS_add ⟨k, v⟩ (by show k.size ≤ _; omega) (by show v.size ≤ _; omega)
    have hrl2 := recS_len ⟨k, v⟩
    have c := jput_some h k v hg.1 hg.2 (by simp [lenJ])
    rw [nowJ_fresh, set_nil] at c
    refine c.mono ?_
    rintro e w' ⟨r, rfl, h1, -⟩
    obtain ⟨rfl, pv', lv', hx, hk'⟩ := h1 (by
      rw [show sizeJ [⟨k, v⟩] = (recS ⟨k, v⟩).size by rw [sizeJ_cons]; rfl]
      show _ ≤ 64 * ((600 - 2) / 2)
      omega)
    refine ⟨0, _, pv', lv', rfl, fun _ => rfl, (fun h => nomatch h), hx, ?_, ?_, fun h => ?_, hk'.below⟩
    · rw [List.nil_append, lenJ_one]
      have : (JO.b ⟨k, v, false⟩).length = (recS ⟨k, v⟩).size := hrl2.symm
      omega
    · show cutK (setK [] k v) k = []
      rw [set_nil]
      exact cut_one k v
    · rw [hg.1] at h; cases h
  | false =>
    refine (jput_bad p k v w hv his.symm).mono ?_
    rintro e w' ⟨rfl, rfl⟩
    exact ⟨1, [], pv, lv, rfl, (fun h => nomatch h), fun _ => rfl, h, Nat.zero_le _, cut_nil k, fun _ => rfl, Below.refl _ _⟩
/-- .. and taken away -/
theorem jdel_first {w : World} {N p q : Nat} {pv lv sv : Value} {S : List ByteArray} {a b last : ByteArray} {os : List JO} (h : JX w N p q pv lv sv S a b last ⟨600, [], 0, 0, 0⟩ os) (k : ByteArray) (hl : lenJ os ≤ 10000) (hc : cutK (nowJ ⟨600, [], 0, 0, 0⟩ os) k = []) (hm : mayK k = false → nowJ ⟨600, [], 0, 0, 0⟩ os = []) :
    Calls Tryz.prog 10 #[.pointer (some ⟨p, 0, none⟩), .string k] w fun e w' => e = .returned (.tuple #[]) ∧ ∃ (os' : List JO) (pv' lv' : Value), JX w' N p q pv' lv' sv S a b last ⟨600, [], 0, 0, 0⟩ os' ∧ nowJ ⟨600, [], 0, 0, 0⟩ os' = [] ∧ Below N w w' := by
  cases hk : mayK k with
  | true =>
    refine (jdel_some h k hk (by omega)).mono ?_
    rintro e w' ⟨rfl, pv', lv', hx, hk'⟩
    exact ⟨rfl, _, pv', lv', hx, by rw [nowJ_cut]; exact hc, hk'.below⟩
  | false =>
    refine (jdel_bad p k w hk).mono ?_
    rintro e w' ⟨rfl, rfl⟩
    exact ⟨rfl, os, pv, lv, h, hm hk, Below.refl _ _⟩
set_option maxHeartbeats 3200000 in
set_option maxRecDepth 100000 in
theorem journalinput_law (k v : ByteArray) (sectors : Int) (w : World) (hk : k.size ≤ maxLen) (hv : v.size ≤ maxLen) (hs : (Lit.int .i64 sectors).wf = true) :
    Calls Tryz.prog 5 #[.string k, .string v, .int .i64 sectors] w fun e w' => e = .returned (.bool true) ∧ Below w.heap.size w w' := by
  have cn := dnew 600 w (by omega) (by omega)
  have hm7 := mask7 sectors
  obtain ⟨n, hn⟩ : ∃ n : Nat, sectors % 8 = ((n : Nat) : Int) := ⟨(sectors % 8).toNat, by omega⟩
  have hn8 : n < 8 := by omega
  rw [hn] at hm7
  have cn2 := fun w => dnew (n + 1) w (by omega) (by omega)
  obtain ⟨is, his⟩ : ∃ is, is = (mayK k && decide (v.size ≤ 8192)) := ⟨_, rfl⟩
  have HIS := Lib.hid his
  have HV := Lib.hid hv
  unfold maxLen at hk hv
  clear hs hn his
  go_enter Tryz.func5, Tryz.ntmps5
  go_wp2_with fail
  refine Calls.mono cn ?_
  rintro e w1 ⟨q, sv, rfl, hd, hb1⟩
  have HB1 := Lib.hid hb1
  have co := jopen (dr_fresh hd (by omega) (by omega))
  clear cn hd hb1
  go_wp2_with fail
  refine Calls.mono co ?_
  rintro e w2 ⟨p, pv, rfl, hx2, -, hb2⟩
  have HB2 := Lib.hid (HB1.out.trans (hb2.mono HB1.out.size))
  have cp := jput_first hx2 k v HV.out is HIS.out
  clear co hx2 hb2
  go_wp2_with fail
  refine Calls.mono cp ?_
  rintro e w3 ⟨r, os, pv3, lv3, rfl, hr1, hr2, hx3, hl3, hc3, hm3, hb3⟩
  have HB3 := Lib.hid (HB2.out.trans hb3)
  have HR := Lib.hid (And.intro hr1 hr2)
  have cd := jdel_first hx3 k hl3 hc3 hm3
  clear cp hx3 hl3 hc3 hm3 hb3 hr1 hr2
  go_upto_region 4 with fail
  go_cut [12] from 36 to 48 (fun bv wx => bv = .bool is ∧ w3 = wx)
  case first =>
    by_cases h0 : k.size = 0
    · obtain rfl : k = ⟨#[]⟩ := by
        cases k with
        | mk d => congr 1; exact Array.eq_empty_of_size_eq_zero h0
      have hf : is = false := by rw [HIS.out]; rfl
      go_wp2_with fail
      go_meet
      exact ⟨by rw [hf], rfl⟩
    · have hne := str_ne h0
      by_cases h1 : k.size ≤ 32
      · have h1i : (k.size : Int) ≤ 32 := by omega
        have hmk : mayK k = true := by unfold mayK; simp [h1]; omega
        by_cases h2 : v.size ≤ 8192
        · have h2i : (v.size : Int) ≤ 8192 := by omega
          have hf : is = true := by rw [HIS.out, hmk]; simp [h2]
          go_wp2_with fail
          go_meet
          exact ⟨by rw [hf], rfl⟩
        · have h2i : ¬ (v.size : Int) ≤ 8192 := by omega
          have hf : is = false := by rw [HIS.out, hmk]; simp [h2]
          go_wp2_with fail
          go_meet
          exact ⟨by rw [hf], rfl⟩
      · have h1i : ¬ (k.size : Int) ≤ 32 := by omega
        have hf : is = false := by rw [HIS.out]; unfold mayK; simp [h1]
        go_wp2_with fail
        go_meet
        exact ⟨by rw [hf], rfl⟩
  case rest =>
    obtain ⟨rfl, rfl⟩ := hcut
    go_wp2_with fail
    refine Calls.mono cd ?_
    rintro e w4 ⟨rfl, os4, pv4, lv4, hx4, hnow4, hb4⟩
    have HB4 := Lib.hid (HB3.out.trans hb4)
    have HX4 := Lib.hid (And.intro hx4 hnow4)
    clear cd hx4 hnow4 hb4
    go_wp2_with fail
    refine Calls.mono (cn2 _) ?_
    rintro e w5 ⟨q5, sv5, rfl, hd5, hb5⟩
    have HB5 := Lib.hid (HB4.out.trans (hb5.mono HB4.out.size))
    have HX5 := Lib.hid (And.intro (HX4.out.1.below hb5) HX4.out.2)
    have co := jopen_any hd5 (by omega)
    clear cn2 hd5 hb5
    go_wp2_with fail
    refine Calls.mono co ?_
    rintro e w6 ⟨pt, f, rfl, hf1, hf2, hb6⟩
    have HB6 := Lib.hid (HB5.out.trans (hb6.mono HB5.out.size))
    have hx6 := HX5.out.1.below hb6
    have HX6 := Lib.hid (And.intro hx6 HX5.out.2)
    have HF := Lib.hid (And.intro hf1 hf2)
    clear co hb6 hx6 hf1 hf2
    go_wp2_with fail
    refine Calls.mono (jdel_nil k _) ?_
    rintro e w7 ⟨rfl, rfl⟩
    go_wp2_with fail
    refine Calls.mono (jsync_nil _) ?_
    rintro e w7 ⟨rfl, rfl⟩
    go_wp2_with fail
    refine Calls.mono (jbreak_nil 3 1 _) ?_
    rintro e w7 ⟨rfl, rfl⟩
    go_wp2_with fail
    refine Calls.mono (jget_nil k _) ?_
    rintro e w7 ⟨rfl, rfl⟩
    go_wp2_with fail
    refine Calls.mono (jopen_nil _) ?_
    rintro e w7 ⟨rfl, rfl⟩
    go_wp2_with fail
    refine Calls.mono (awake07 _) ?_
    rintro e w7 ⟨rfl, hb7⟩
    have HB7 := Lib.hid (HB6.out.trans (hb7.mono HB6.out.size))
    have hx7 := HX6.out.1.below hb7
    have ca := jall hx7 ⟨#[]⟩
    rw [HX6.out.2] at ca
    clear hb7 hx7
    rw [List.filter_nil] at ca
    cases is with
    | true =>
      obtain rfl := HR.out.1 rfl
      by_cases hn6 : 6 ≤ n + 1
      · obtain rfl := HF.out.1 hn6
        have hni : (6 : Int) ≤ (n : Int) + 1 := by omega
        go_wp2_with fail
        refine Calls.mono ca ?_
        rintro e w8 ⟨mv, rfl, hown, hb8⟩
        obtain ⟨a', cap', rfl, -, -⟩ := (SR.owns hown).form
        have HB8 := Lib.hid (HB7.out.trans (hb8.mono HB7.out.size))
        clear ca hown hb8
        go_wp2_with fail
        refine Calls.mono (jput_nil _ _ _) ?_
        rintro e w9 ⟨rfl, rfl⟩
        go_wp2_with fail
        refine Calls.mono (jall_nil _ _) ?_
        rintro e w9 ⟨rfl, rfl⟩
        go_wp2_with fail
        refine Calls.mono (jlater_nil _) ?_
        rintro e w9 ⟨rfl, rfl⟩
        go_wp2_with fail
        go_returns
        exact ⟨rfl, HB8.out⟩
      · obtain rfl := HF.out.2 hn6
        have hni : ¬ (6 : Int) ≤ (n : Int) + 1 := by omega
        go_wp2_with fail
        refine Calls.mono ca ?_
        rintro e w8 ⟨mv, rfl, hown, hb8⟩
        obtain ⟨a', cap', rfl, -, -⟩ := (SR.owns hown).form
        have HB8 := Lib.hid (HB7.out.trans (hb8.mono HB7.out.size))
        clear ca hown hb8
        go_wp2_with fail
        refine Calls.mono (jput_nil _ _ _) ?_
        rintro e w9 ⟨rfl, rfl⟩
        go_wp2_with fail
        refine Calls.mono (jall_nil _ _) ?_
        rintro e w9 ⟨rfl, rfl⟩
        go_wp2_with fail
        refine Calls.mono (jlater_nil _) ?_
        rintro e w9 ⟨rfl, rfl⟩
        go_wp2_with fail
        go_returns
        exact ⟨ret_bool (by rw [decide_eq_false (by omega)]; rfl), HB8.out⟩
    | false =>
      obtain rfl := HR.out.2 rfl
      by_cases hn6 : 6 ≤ n + 1
      · obtain rfl := HF.out.1 hn6
        have hni : (6 : Int) ≤ (n : Int) + 1 := by omega
        go_wp2_with fail
        refine Calls.mono ca ?_
        rintro e w8 ⟨mv, rfl, hown, hb8⟩
        obtain ⟨a', cap', rfl, -, -⟩ := (SR.owns hown).form
        have HB8 := Lib.hid (HB7.out.trans (hb8.mono HB7.out.size))
        clear ca hown hb8
        go_wp2_with fail
        refine Calls.mono (jput_nil _ _ _) ?_
        rintro e w9 ⟨rfl, rfl⟩
        go_wp2_with fail
        refine Calls.mono (jall_nil _ _) ?_
        rintro e w9 ⟨rfl, rfl⟩
        go_wp2_with fail
        refine Calls.mono (jlater_nil _) ?_
        rintro e w9 ⟨rfl, rfl⟩
        go_wp2_with fail
        go_returns
        exact ⟨rfl, HB8.out⟩
      · obtain rfl := HF.out.2 hn6
        have hni : ¬ (6 : Int) ≤ (n : Int) + 1 := by omega
        go_wp2_with fail
        refine Calls.mono ca ?_
        rintro e w8 ⟨mv, rfl, hown, hb8⟩
        obtain ⟨a', cap', rfl, -, -⟩ := (SR.owns hown).form
        have HB8 := Lib.hid (HB7.out.trans (hb8.mono HB7.out.size))
        clear ca hown hb8
        go_wp2_with fail
        refine Calls.mono (jput_nil _ _ _) ?_
        rintro e w9 ⟨rfl, rfl⟩
        go_wp2_with fail
        refine Calls.mono (jall_nil _ _) ?_
        rintro e w9 ⟨rfl, rfl⟩
        go_wp2_with fail
        refine Calls.mono (jlater_nil _) ?_
        rintro e w9 ⟨rfl, rfl⟩
        go_wp2_with fail
        go_returns
        exact ⟨ret_bool (by rw [decide_eq_false (by omega)]; rfl), HB8.out⟩
end Go.Proofs.YtgnnijpfkgmomaaGreatDoor
