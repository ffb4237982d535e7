/-
  HexaGets.
-/
import Derived.Test.YtbncifmmahgfeaaHexaE
namespace Go.Proofs.Ytbncifmmahgfeaa
open Go.RowKit
set_option linter.unusedVariables false
set_option linter.unusedSimpArgs false

theorem first_bad (s : ByteArray) : ∃ L, L ≤ s.size ∧ (∀ k (h : k < s.size), k < L → (digV (s[k]'h)).isSome = true) ∧ ∀ h : L < s.size, (digV (s[L]'h)).isSome = false := by
  have key : ∀ n, n ≤ s.size → (∃ L, L < n ∧ (∀ k (h : k < s.size), k < L → (digV (s[k]'h)).isSome = true) ∧ ∀ h : L < s.size, (digV (s[L]'h)).isSome = false) ∨ ∀ k (h : k < s.size), k < n → (digV (s[k]'h)).isSome = true := by
    intro n
    induction n with
    | zero => intro _; right; intro k h hk; omega
    | succ n ih =>
      intro hn
      rcases ih (by omega) with ⟨L, hL, h1, h2⟩ | h
      · exact .inl ⟨L, by omega, h1, h2⟩
      · cases hb : (digV (s[n]'(by omega))).isSome
        · exact .inl ⟨n, by omega, h, fun _ => hb⟩
        · right
          intro k hk hkn
          rcases Nat.lt_or_ge k n with h3 | h3
          · exact h k hk h3
          · have : k = n := by omega
            subst this
            exact hb
  rcases key s.size (Nat.le_refl _) with ⟨L, hL, h1, h2⟩ | h
  · exact ⟨L, by omega, h1, h2⟩
  · exact ⟨s.size, Nat.le_refl _, h, fun h => absurd h (Nat.lt_irrefl _)⟩
set_option maxHeartbeats 3200000 in
set_option maxRecDepth 100000 in
theorem hexagets_law (s : ByteArray) (a : Int) (y : ByteArray) (w : World) (hs : s.size ≤ maxLen) (ha : (Lit.int .i64 a).wf = true) (hy : y.size ≤ maxLen) :
    Calls Try.prog 4 #[.string s, .int .i64 a, .string y] w fun e w' => e = .returned (.bool true) ∧ Below w.heap.size w w' := by
  have h255 : bits .and .i64 a 255 = a % 256 := mask_mod a 8 255 (by decide) (by decide)
  obtain ⟨F, hF⟩ : ∃ F, a % 256 = F := ⟨_, rfl⟩
  rw [hF] at h255
  have hF0 : 0 ≤ F := by omega
  have hF1 : F ≤ 255 := by omega
  obtain ⟨t, ht⟩ : ∃ t, min (s.size : Int) 40 = t := ⟨_, rfl⟩
  have ht1 : t ≤ 40 := by omega
  have ht2 : t ≤ (s.size : Int) := by omega
  have ht0 : 0 ≤ t := by omega
  obtain ⟨T, hT⟩ : ∃ T : ByteArray, s.extract 0 t.toNat = T := ⟨_, rfl⟩
  have hTs : T.size ≤ 40 := by rw [← hT, ByteArray.size_extract]; omega
  have cr := fun w => rput T w (by omega)
  obtain ⟨P, hP⟩ : ∃ P : ByteArray, (⟨(hexL T.data.toList).toArray⟩ : ByteArray) = P := ⟨_, rfl⟩
  have hPs : P.size ≤ 80 := by
    rw [← hP]
    show (hexL T.data.toList).toArray.size ≤ 80
    rw [List.size_toArray, hexL_len, Array.length_toList]
    have : T.data.size = T.size := rfl
    omega
  rw [hP] at cr
  obtain ⟨u, hu⟩ : ∃ u, min (y.size : Int) 5 = u := ⟨_, rfl⟩
  have hu1 : u ≤ 5 := by omega
  have hu2 : u ≤ (y.size : Int) := by omega
  have hu0 : 0 ≤ u := by omega
  obtain ⟨k, hk⟩ : ∃ k, F.tmod ((P.size : Int) + 1) = k := ⟨_, rfl⟩
  have hk0 : 0 ≤ k := by rw [← hk]; exact Int.tmod_nonneg _ hF0
  have hk1 : k ≤ (P.size : Int) := by
    have : F.tmod ((P.size : Int) + 1) < (P.size : Int) + 1 := by
      rw [Int.tmod_eq_emod_of_nonneg hF0]
      exact Int.emod_lt_of_pos _ (by omega)
    omega
  have hk2 : F % ((P.size : Int) + 1) = k := by rw [← hk, Int.tmod_eq_emod_of_nonneg hF0]
  unfold maxLen at hs hy
  clear hP hTs hF
  go_enter Try.func4, Try.ntmps4
  go_wp2_with fail
  refine Calls.mono (cr _) ?_
  rintro e w2 ⟨rfl, n, rfl⟩
  go_upto_region 3 with fail
  go_cut [7] from 26 to 38 (fun v wx => ∃ B : ByteArray, v = .string B ∧ B.size ≤ 90 ∧ ∃ n, wx = w.drewN n)
  case first =>
    go_quiet (fail)
    go_wp2_with fail
    go_meet
    exact ⟨_, rfl, by { simp only [ByteArray.size_append, ByteArray.size_extract]; omega }, _, World.drewN_drewN _ _ _⟩
  case rest =>
    obtain ⟨B, rfl, hBs, n, rfl⟩ := hcut
    clear hk hk0 hk1 hk2 hu hu0 hu1 hu2 ht ht0 ht1 ht2 hT hPs cr h255 hF0 hF1
    obtain ⟨L, hL, hg, hb⟩ := first_bad B
    have c1 := fun w => hget B L w (by omega) hL hg hb
    have c2 := fun w => rget B L w (by omega) hL hg hb
    clear hg hb
    have hcase : L < B.size ∨ (L = B.size ∧ B.size % 2 = 1) ∨ (L = B.size ∧ B.size % 2 = 0) := by omega
    rcases hcase with h1 | ⟨h1, h2⟩ | ⟨h1, h2⟩
    · have e1 : getR B L = .tuple #[.string ⟨#[]⟩, .int .i64 L, .int .i64 440] := by unfold getR; rw [if_pos h1]
      have e2 : getM B L = .tuple #[.string ⟨#[]⟩, .int .i64 L] := by unfold getM; rw [if_pos h1]
      rw [e1] at c1
      rw [e2] at c2
      have hl0 : (0 : Int) ≤ (L : Int) := by omega
      clear e1 e2 h1
      go_wp2_with fail
      refine Calls.mono (c1 _) ?_
      rintro e w3 ⟨rfl, hb3⟩
      have HB3 := Lib.hid (below_of_drewN hb3)
      clear hb3
      go_wp2_with fail
      refine Calls.mono (c2 _) ?_
      rintro e w4 ⟨rfl, hb4⟩
      have HB4 := Lib.hid (below_trans HB3.out hb4 HB3.out.size)
      clear hb4
      go_wp2_with fail
      refine Calls.mono (awake44 _) ?_
      rintro e w5 ⟨rfl, hb5⟩
      have HB5 := Lib.hid (below_trans HB4.out hb5 HB4.out.size)
      clear hb5
      go_wp2_with fail
      go_ret
      exact ⟨by first | rfl | exact ret_bool (by simp), HB5.out⟩
    · obtain ⟨q, hq⟩ : ∃ q : Nat, B.size = q + 1 := ⟨B.size - 1, by omega⟩
      have e1 : getR B L = .tuple #[.string ⟨#[]⟩, .int .i64 (q : Int), .int .i64 440] := by unfold getR; rw [if_neg (by omega), if_pos h2, show (B.size : Int) - 1 = (q : Int) by omega]
      have e2 : getM B L = .tuple #[.string ⟨#[]⟩, .int .i64 (q : Int)] := by unfold getM; rw [if_neg (by omega), if_pos h2, show (B.size : Int) - 1 = (q : Int) by omega]
      rw [e1] at c1
      rw [e2] at c2
      have hl0 : (0 : Int) ≤ (q : Int) := by omega
      clear e1 e2 h1
      go_wp2_with fail
      refine Calls.mono (c1 _) ?_
      rintro e w3 ⟨rfl, hb3⟩
      have HB3 := Lib.hid (below_of_drewN hb3)
      clear hb3
      go_wp2_with fail
      refine Calls.mono (c2 _) ?_
      rintro e w4 ⟨rfl, hb4⟩
      have HB4 := Lib.hid (below_trans HB3.out hb4 HB3.out.size)
      clear hb4
      go_wp2_with fail
      refine Calls.mono (awake44 _) ?_
      rintro e w5 ⟨rfl, hb5⟩
      have HB5 := Lib.hid (below_trans HB4.out hb5 HB4.out.size)
      clear hb5
      go_wp2_with fail
      go_ret
      exact ⟨by first | rfl | exact ret_bool (by simp), HB5.out⟩
    · obtain ⟨V, hV⟩ : ∃ V : ByteArray, (⟨(valL B (B.size / 2)).toArray⟩ : ByteArray) = V := ⟨_, rfl⟩
      have e1 : getR B L = .tuple #[.string V, .int .i64 0, .int .i64 0] := by unfold getR; rw [if_neg (by omega), if_neg (by omega), hV]
      have e2 : getM B L = .tuple #[.string V, .int .i64 (-1)] := by unfold getM; rw [if_neg (by omega), if_neg (by omega), hV]
      rw [e1] at c1
      rw [e2] at c2
      skip
      clear e1 e2 h1
      go_wp2_with fail
      refine Calls.mono (c1 _) ?_
      rintro e w3 ⟨rfl, hb3⟩
      have HB3 := Lib.hid (below_of_drewN hb3)
      clear hb3
      go_wp2_with fail
      refine Calls.mono (c2 _) ?_
      rintro e w4 ⟨rfl, hb4⟩
      have HB4 := Lib.hid (below_trans HB3.out hb4 HB3.out.size)
      clear hb4
      go_wp2_with fail
      refine Calls.mono (awake44 _) ?_
      rintro e w5 ⟨rfl, hb5⟩
      have HB5 := Lib.hid (below_trans HB4.out hb5 HB4.out.size)
      clear hb5
      go_wp2_with fail
      go_ret
      exact ⟨by first | rfl | exact ret_bool (by simp), HB5.out⟩
end Go.Proofs.Ytbncifmmahgfeaa
