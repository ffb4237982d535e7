/-
  hexa: Long, where it is a block; the reference's Block.
-/
import Derived.Test.YtbncifmmahgfeaaHexaF
namespace Go.Proofs.Ytbncifmmahgfeaa
open Go.RowKit
set_option linter.unusedVariables false
set_option linter.unusedSimpArgs false

theorem star_of (l : List UInt8) (x : UInt8) : Lib.hasSuffix (l ++ [x]) [42] = (x == 42) := by
  rw [← Lib.hasSuffix_of_drop]
  have : (l ++ [x]).drop ((l ++ [x]).length - [(42 : UInt8)].length) = [x] := by simp
  rw [this]
  simp
theorem icsuffix (s : ByteArray) (h : Bool) (w : World) (hs : s.size ≤ 1000) (hh : Lib.hasSuffix s.data.toList [42] = h) (hp : 1 ≤ s.size) :
    Calls Try.prog 21 #[.string s, .string ⟨#[42]⟩] w fun e w' => e = .returned (.tuple #[.string (if h then s.extract 0 (s.size - 1) else s), .bool h]) ∧ w = w' := by
  have hc := fun w => Try.stringslite_HasSuffix s ⟨#[42]⟩ w (by omega)
  have e : (⟨#[42]⟩ : ByteArray).data.toList = [42] := rfl
  rw [e, hh] at hc
  obtain ⟨m, hm⟩ : ∃ m, s.size = m + 1 := ⟨s.size - 1, by omega⟩
  have hm1 : (1 : Int) ≤ (s.size : Int) := by omega
  have hx : (if h then s.extract 0 (s.size - 1) else s) = if h then s.extract 0 m else s := by rw [hm]; rfl
  rw [hx]
  clear hx hh e
  cases h
  all_goals
    go_enter Try.func21, Try.ntmps21
    go_wp2_with fail
    refine Calls.mono (hc _) ?_
    rintro e w2 ⟨rfl, rfl⟩
    go_wp2_with fail
    go_returns
    exact ⟨rfl, rfl⟩
theorem csuffix (s b : ByteArray) (h : Bool) (w : World) (hs : s.size ≤ 1000) (hh : Lib.hasSuffix s.data.toList [42] = h) (hp : 1 ≤ s.size) (hb : (if h then s.extract 0 (s.size - 1) else s) = b) :
    Calls Try.prog 19 #[.string s, .string ⟨#[42]⟩] w fun e w' => e = .returned (.tuple #[.string b, .bool h]) ∧ w = w' := by
  have hc := fun w => icsuffix s h w hs hh hp
  rw [hb] at hc
  go_enter Try.func19, Try.ntmps19
  go_wp2_with fail
  refine Calls.mono (hc _) ?_
  rintro e w2 ⟨rfl, rfl⟩
  go_wp2_with fail
  go_returns
  exact ⟨rfl, rfl⟩
theorem repC (c : UInt8) (n : Nat) (w : World) (hn : n ≤ 1000) : Calls Try.prog 20 #[.string ⟨#[c]⟩, .int .i64 n] w fun e w' => e = .returned (.string ⟨(List.replicate n c).toArray⟩) ∧ Below w.heap.size w w' := by
  have h := Try.strings_Repeat ⟨#[c]⟩ n w (by omega) (by show 1 * n ≤ _; omega)
  have e : Lib.repeatL [c] n = List.replicate n c := by
    have := Lib.repeatL_replicate c 1 n
    simpa using this
  refine h.mono fun e' w' hw => ⟨?_, hw.2⟩
  rw [hw.1]
  show Ending.returned (.string ⟨(Lib.repeatL [c] n).toArray⟩) = _
  rw [e]
set_option maxHeartbeats 1600000 in
set_option maxRecDepth 100000 in
theorem hlong_ok (s b V : ByteArray) (short : Bool) (v : Nat) (c : UInt8) (w : World) (hcut : ∀ w, Calls Try.prog 19 #[.string s, .string ⟨#[42]⟩] w fun e w' => e = .returned (.tuple #[.string b, .bool short]) ∧ w = w')
    (hg : ∀ w, Calls Try.prog 7 #[.string b] w fun e w' => e = .returned (.tuple #[.string V, .int .i64 0, .int .i64 0]) ∧ Below w.heap.size w w') (hV : V.size = v + 1) (hv : v ≤ 31) (hfit : v = 31 ∨ short = true) (hc : V.extract v (v + 1) = ⟨#[c]⟩) :
    Calls Try.prog 13 #[.string s] w fun e w' => e = .returned (.tuple #[.string (V ++ ⟨(List.replicate (31 - v) c).toArray⟩), .int .i64 0, .int .i64 0]) ∧ Below w.heap.size w w' := by
  have cr := fun w => repC c (31 - v) w (by omega)
  obtain ⟨R, hR⟩ : ∃ R : ByteArray, (⟨(List.replicate (31 - v) c).toArray⟩ : ByteArray) = R := ⟨_, rfl⟩
  have hRs : R.size = 31 - v := by rw [← hR]; simp [ByteArray.size]
  rw [hR] at cr ⊢
  obtain ⟨n, hn⟩ : ∃ n : Int, (((31 - v : Nat)) : Int) = n := ⟨_, rfl⟩
  rw [hn] at cr
  have hn1 : (32 : Int) - ((v : Int) + 1) = n := by omega
  have hn2 : (32 : Int) - (V.size : Int) = n := by omega
  have hn0 : 0 ≤ n := by omega
  have hne1 : ¬ V.toList = [] := by
    intro e
    rw [ByteArray.toList_eq] at e
    have : V.data.toList.length = V.size := by rw [Array.length_toList]; rfl
    rw [e] at this
    simp at this
    omega
  have hne2 : (V.toList == []) = false := by rw [beq_eq_false_iff_ne]; exact hne1
  have hRb : R.size ≤ 31 := by omega
  clear hR hRs
  rcases hfit with rfl | rfl
  · have hn00 : n = 0 := by omega
    subst hn00
    cases short
    all_goals
      go_enter Try.func13, Try.ntmps13
      go_wp2_with fail
      refine Calls.mono (hcut _) ?_
      rintro e w2 ⟨rfl, rfl⟩
      go_wp2_with fail
      refine Calls.mono (hg _) ?_
      rintro e w3 ⟨rfl, hb3⟩
      have HB3 := Lib.hid hb3
      clear hb3
      go_wp2_with fail
      refine Calls.mono (cr _) ?_
      rintro e w4 ⟨rfl, hb4⟩
      have HB4 := Lib.hid (below_trans HB3.out hb4 HB3.out.size)
      clear hb4
      go_wp2_with fail
      go_returns
      exact ⟨rfl, HB4.out⟩
  · rcases (by omega : n = 0 ∨ 0 < n) with rfl | hpos
    all_goals
      go_enter Try.func13, Try.ntmps13
      go_wp2_with fail
      refine Calls.mono (hcut _) ?_
      rintro e w2 ⟨rfl, rfl⟩
      go_wp2_with fail
      refine Calls.mono (hg _) ?_
      rintro e w3 ⟨rfl, hb3⟩
      have HB3 := Lib.hid hb3
      clear hb3
      go_wp2_with fail
      refine Calls.mono (cr _) ?_
      rintro e w4 ⟨rfl, hb4⟩
      have HB4 := Lib.hid (below_trans HB3.out hb4 HB3.out.size)
      clear hb4
      go_wp2_with fail
      go_returns
      exact ⟨rfl, HB4.out⟩
set_option maxHeartbeats 1600000 in
set_option maxRecDepth 100000 in
/-- the reference's Block -/
theorem rblock (s : ByteArray) (f : Nat) (c : UInt8) (w : World) (hs : s.size ≤ 100) (hf : f < s.size) (hrun : ∀ k (h : k < s.size), f ≤ k → s[k]'h = c) (hbrk : ∀ k (h : k < s.size), k + 1 = f → s[k]'h ≠ c) :
    Calls Try.prog 15 #[.string s] w fun e w' => e = .returned (.string (blockR s f)) ∧ ∃ n, w' = w.drewN n := by
  obtain ⟨m, hm⟩ : ∃ m, s.size = m + 1 := ⟨s.size - 1, by omega⟩
  have hmi : (s.size : Int) = (m : Int) + 1 := by omega
  have HRUN := Lib.hid hrun
  have HBRK := Lib.hid hbrk
  clear hrun hbrk
  go_enter Try.func15, Try.ntmps15
  go_upto_block 0 with fail
  go_cut [3] from 6 to 20 (fun i wx => i = .int .i64 ((f : Int) + 1) ∧ ∃ n, wx = w.drewN n)
  case first =>
    go_wp2_with fail
    go_loopw [3] (fun i wr => ∃ g : Nat, f ≤ g ∧ g ≤ m ∧ i = .int .i64 ((g : Int) + 1) ∧ ∃ n, wr = w.drewN n) (fun i _ => (intOf i).toNat)
    case atStart => exact ⟨m, by omega, Nat.le_refl _, by simp [hmi], 0, rfl⟩
    case round =>
      obtain ⟨g, hg1, hg2, rfl, n, rfl⟩ := hrel
      have hgc := HRUN.out g (by omega) hg1
      by_cases hgf : g = f
      · subst hgf
        rcases Nat.eq_zero_or_pos g with h0 | h0
        · subst h0
          go_wp2_with fail
          go_quiet (fail)
          go_wp2_with fail
          go_meet
          exact ⟨rfl, _, World.drewN_drewN _ _ _⟩
        · obtain ⟨k, hgk⟩ : ∃ k, g = k + 1 := ⟨g - 1, by omega⟩
          have hkl : k < s.size := by omega
          have hk := HBRK.out k hkl hgk.symm
          obtain ⟨c1, hc1⟩ : ∃ c1, s[k]'hkl = c1 := ⟨_, rfl⟩
          rw [hc1] at hk
          have hne3 : ¬ (c.toNat = c1.toNat) := fun h => hk (UInt8.toNat_inj.1 h.symm)
          have hne4 : ((c.toNat : Int) == (c1.toNat : Int)) = false := by rw [beq_eq_false_iff_ne]; omega
          obtain ⟨N, hN⟩ : ∃ N : Int, (g : Int) + 1 = N := ⟨_, rfl⟩
          have h1N : decide ((1 : Int) < N) = true := by simp; omega
          have h1N' : (1 : Int) < N := by omega
          have n1 : N - 1 = (g : Int) := by omega
          have n2 : N - 2 = (k : Int) := by omega
          have m1 : IntKind.i64.wrap (N - 1) = (g : Int) := by rw [n1]; exact IntWalk.i64_in _ (by omega)
          have m2 : IntKind.i64.wrap (N - 2) = (k : Int) := by rw [n2]; exact IntWalk.i64_in _ (by omega)
          have b1 : (g : Int) < (s.size : Int) := by omega
          have b2 : (k : Int) < (s.size : Int) := by omega
          rw [hN]
          have HNN := Lib.hid hN
          have HGK := Lib.hid hgk
          clear hN hgk
          go_wp2_with fail
          go_quiet (fail)
          go_wp2_with fail
          go_meet
          exact ⟨by rw [HNN.out], _, World.drewN_drewN _ _ _⟩
      · obtain ⟨k, hgk⟩ : ∃ k, g = k + 1 := ⟨g - 1, by omega⟩
        have hkl : k < s.size := by omega
        have hk := HRUN.out k hkl (by omega)
        obtain ⟨N, hN⟩ : ∃ N : Int, (g : Int) + 1 = N := ⟨_, rfl⟩
        have h1N : decide ((1 : Int) < N) = true := by simp; omega
        have h1N' : (1 : Int) < N := by omega
        have n1 : N - 1 = (g : Int) := by omega
        have n2 : N - 2 = (k : Int) := by omega
        have m1 : IntKind.i64.wrap (N - 1) = (g : Int) := by rw [n1]; exact IntWalk.i64_in _ (by omega)
        have m2 : IntKind.i64.wrap (N - 2) = (k : Int) := by rw [n2]; exact IntWalk.i64_in _ (by omega)
        have b1 : (g : Int) < (s.size : Int) := by omega
        have b2 : (k : Int) < (s.size : Int) := by omega
        rw [hN]
        have HNN := Lib.hid hN
        have HGK := Lib.hid hgk
        clear hN hgk
        go_wp2_with fail
        go_quiet (fail)
        go_wp2_with fail
        go_roundw
        case rel => exact ⟨k, by have := HGK.out; omega, by have := HGK.out; omega, by have := HGK.out; simp; omega, _, rfl⟩
        case measure => have := HNN.out; simp [intOf]; omega
  case rest =>
    obtain ⟨rfl, n, rfl⟩ := hcut
    clear HRUN HBRK
    by_cases hfm : f = m
    · have e1 : blockR s f = ⟨(hexL s.data.toList).toArray⟩ := by unfold blockR; rw [if_pos (by omega)]
      have cp := fun w => rput s w hs
      rw [← e1] at cp
      have hnl : ¬ ((f : Int) + 1 < (s.size : Int)) := by omega
      have HFM := Lib.hid hfm
      clear e1
      go_wp2_with fail
      refine Calls.mono (cp _) ?_
      rintro e w3 ⟨rfl, n2, rfl⟩
      go_wp2_with fail
      go_ret
      exact ⟨by first | rfl | (rw [HFM.out]; rfl), _, rfl⟩
    · have e1 : blockR s f = ⟨(hexL (s.data.toList.take (f + 1))).toArray⟩ ++ ⟨#[42]⟩ := by unfold blockR; rw [if_neg (by omega)]
      have hx : (s.extract 0 (f + 1)).data.toList = s.data.toList.take (f + 1) := by rw [Lib.extract_data]; simp
      have hxs : (s.extract 0 (f + 1)).size ≤ 100 := by rw [ByteArray.size_extract]; omega
      have cp := fun w => rput (s.extract 0 (f + 1)) w hxs
      rw [hx] at cp
      obtain ⟨U, hU⟩ : ∃ U : ByteArray, (⟨(hexL (s.data.toList.take (f + 1))).toArray⟩ : ByteArray) = U := ⟨_, rfl⟩
      have hUs : U.size ≤ 200 := by
        rw [← hU]
        show (hexL (s.data.toList.take (f + 1))).toArray.size ≤ 200
        have := List.length_take_le (f + 1) s.data.toList
        rw [List.size_toArray, hexL_len]; omega
      rw [hU] at cp e1
      have hlt : (f : Int) + 1 < (s.size : Int) := by omega
      have hf1 : (f : Int) + 1 ≤ (s.size : Int) := by omega
      have HE := Lib.hid e1
      clear e1 hx hU hxs
      go_wp2_with fail
      refine Calls.mono (cp _) ?_
      rintro e w3 ⟨rfl, n2, rfl⟩
      go_wp2_with fail
      go_ret
      refine ⟨?_, _, rfl⟩
      rw [HE.out]
      rfl
end Go.Proofs.Ytbncifmmahgfeaa
