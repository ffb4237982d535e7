/-
  SuperPlays.
-/
import Derived.Test.YtcoliadgnbhkaaaSuperI
namespace Go.Proofs.Ytcoliadgnbhkaaa
open Go.RowKit
set_option linter.unusedVariables false
set_option linter.unusedSimpArgs false

set_option maxHeartbeats 800000 in
theorem shalf (s : ByteArray) (w : World) (hs : 8 ≤ s.size) (hm : s.size ≤ 64) : Calls Try.prog 53 #[.string s] w fun e w' => e = .returned (.int .u64 (num8 s)) ∧ w = w' := by
  have HL := Lib.hid (show s.data.toList.length = s.size from rfl)
  go_enter Try.func53, Try.ntmps53
  go_wp2_with fail
  go_loop [3, 4] (fun v i => ∃ j : Nat, j ≤ 8 ∧ i = .int .i64 j ∧ v = .int .u64 (valN (s.data.toList.take j))) (fun _ i => 8 - (intOf i).toNat)
  case atStart => exact ⟨0, by omega, rfl, rfl⟩
  case round =>
    obtain ⟨j, hj, rfl, rfl⟩ := hrel
    by_cases hlt : j < 8
    · have hjs : j < s.size := by omega
      have e1 := Lib.hid (s_valN_take s.data.toList j (by rw [HL.out]; exact hjs))
      have e2 := s_valN_small s.data.toList j (by omega)
      obtain ⟨c, hc⟩ : ∃ c, s[j] = c := ⟨_, rfl⟩
      have hc2 : s.data.toList.getD j 0 = c := by rw [← hc]; simp [List.getD, hjs]; rfl
      obtain ⟨X, hX⟩ : ∃ X, valN (s.data.toList.take j) = X := ⟨_, rfl⟩
      rw [hX] at e2 e1
      rw [hX]
      rw [hc2] at e1
      have hcl := c.toNat_lt
      clear hX hc2
      go_wp2_with fail
      go_round
      case rel => exact ⟨j + 1, by omega, by go_num, by rw [e1.out]; first | rfl | exact congrArg (Value.int .u64) (by omega)⟩
      case measure => simp [intOf]; omega
    · obtain rfl : j = 8 := by omega
      go_wp2_with fail
      go_ret
      exact ⟨rfl, rfl⟩
theorem hiJ_le_top (a b : ByteArray) (j : Nat) (h : j ≤ 2) : hiJ a b true true j ≤ top4 a b := by
  have : j = 0 ∨ j = 1 ∨ j = 2 := by omega
  rw [top4_def]
  rcases this with rfl | rfl | rfl <;> simp [hiJ, hiS] <;> omega
theorem rAt_le_top (a b : ByteArray) (j : Nat) : num8 (rAt a b j) ≤ top4 a b ∧ num8 ((rAt a b j).extract 32 64) ≤ top4 a b := by
  have := le_top4 a b
  unfold rAt
  split <;> omega
set_option maxHeartbeats 1600000 in
set_option maxRecDepth 100000 in
theorem lnext (dv : Value) (a b : ByteArray) (at' : Nat) (w : World) (sa : a.size = 64) (sb : b.size = 64) (ht : top4 a b ≤ 2000000000) (ha : at' ≤ 2000000000) (hr : Reads2 dv w 0 a b 0 0) :
    Calls Try.prog 29 #[dv, .int .u64 at'] w fun e w' => e = .returned (.int .u64 (nextP a b at')) ∧ Below w.heap.size w w' := by
  have HRR := Lib.hid hr
  have HT := Lib.hid ht
  have HS := Lib.hid (And.intro sa sb)
  clear hr ht sa sb
  go_enter Try.func29, Try.ntmps29
  go_wp2_with fail
  go_loopw [5, 6] (fun n i wr => ∃ j : Nat, j ≤ 2 ∧ i = .int .i64 j ∧ n = .int .u64 ((hiJ a b true true j : Nat) + 1) ∧ Below w.heap.size w wr) (fun _ i _ => 2 - (intOf i).toNat)
  case atStart => exact ⟨0, by omega, rfl, rfl, Below.refl _ _⟩
  case round =>
    obtain ⟨j, hj, rfl, rfl, hb⟩ := hrel
    have HB := Lib.hid hb
    by_cases hlt : j < 2
    · have c := HRR.out j wr hlt hb
      rw [show wrap64 ((0 : Int) + j) = j by unfold wrap64; omega] at c
      simp only [ite_self] at c
      have hs := Lib.hid (hiJ_step a b true true j hlt)
      have hmt := hiJ_le_top a b j hj
      obtain ⟨r1, r2⟩ := rAt_le_top a b j
      have htop := HT.out
      have hsz : (rAt a b j).size = 64 := by
        unfold rAt
        split
        · exact HS.out.1
        · exact HS.out.2
      simp only [ite_self] at hs
      obtain ⟨R, hR⟩ : ∃ R, rAt a b j = R := ⟨_, rfl⟩
      rw [hR] at c hs hsz r1 r2
      obtain ⟨M, hM⟩ : ∃ x, hiJ a b true true j = x := ⟨_, rfl⟩
      rw [hM] at hs hmt
      rw [hM]
      have hx := ext_size R 32 64 (by omega)
      have c1 := fun w => qnum (shalf R w (by omega) (by omega))
      have c2 := fun w => qnum (shalf (R.extract 32 64) w (by omega) (by omega))
      have HSt := Lib.hid (show hiJ a b true true (j + 1) = max (max M (num8 R)) (num8 (R.extract 32 64)) by rw [hs.out]; rfl)
      obtain ⟨X, hX⟩ : ∃ X, num8 R = X := ⟨_, rfl⟩
      obtain ⟨Y, hY⟩ : ∃ Y, num8 (R.extract 32 64) = Y := ⟨_, rfl⟩
      rw [hX] at c1 HSt r1
      rw [hY] at c2 HSt r2
      have b1 : (X : Int) ≤ 2000000000 := by omega
      have b2 : (Y : Int) ≤ 2000000000 := by omega
      have b3 : (M : Int) ≤ 2000000000 := by omega
      have q1 : IntKind.u64.wrap ((X : Int) + 1) = X + 1 := by rw [IntKind.wrap_u64]; omega
      have q2 : IntKind.u64.wrap ((Y : Int) + 1) = Y + 1 := by rw [IntKind.wrap_u64]; omega
      clear hb hR hM hX hY hx hs r1 r2 hmt htop
      go_wp2_with fail
      refine Calls.mono c ?_
      rintro e w3 ⟨rfl, hb2⟩
      have HB2 := Lib.hid (below_trans HB.out hb2 HB.out.size)
      clear hb2 c
      go_upto_region 8 with fail
      go_quiet ((go_at_call 53; first | (with_reducible exact Calls.quiet_of_same (c1 _)) | (with_reducible exact Calls.quiet_of_same (c2 _))))
      go_wp2_with fail
      go_roundw
      case rel => exact ⟨j + 1, by omega, by go_num, by rw [HSt.out]; exact congrArg (Value.int .u64) (by split <;> split <;> omega), below_drewN' HB2.out _⟩
      case measure => simp [intOf]; omega
    · obtain rfl : j = 2 := by omega
      have htop := HT.out
      have hT : hiJ a b true true 2 = top4 a b := rfl
      have HV := Lib.hid (show nextP a b at' = if 0 < at' ∧ (top4 a b + 1) % 2 = at' % 2 then top4 a b + 2 else top4 a b + 1 from rfl)
      rw [hT]
      obtain ⟨T, hTT⟩ : ∃ T, top4 a b = T := ⟨_, rfl⟩
      rw [hTT] at htop HV
      rw [hTT]
      have b3 : (T : Int) ≤ 2000000000 := by omega
      clear hb hT hTT
      by_cases h0 : 0 < at'
      · have h0i : 0 < (at' : Int) := by omega
        by_cases he : (T + 1) % 2 = at' % 2
        · have he1 : (((T : Int) + 1) % 2 == (at' : Int) % 2) = true := by simp; omega
          have HV2 := Lib.hid (show nextP a b at' = T + 2 by rw [HV.out, if_pos ⟨h0, he⟩])
          clear HV he
          go_wp2_with fail
          go_ret
          exact ⟨ret_int (by rw [HV2.out]; omega), HB.out⟩
        · have he1 : (((T : Int) + 1) % 2 == (at' : Int) % 2) = false := by simp; omega
          have HV2 := Lib.hid (show nextP a b at' = T + 1 by rw [HV.out, if_neg (fun h => he h.2)])
          clear HV he
          go_wp2_with fail
          go_ret
          exact ⟨ret_int (by rw [HV2.out]; omega), HB.out⟩
      · have HV2 := Lib.hid (show nextP a b at' = T + 1 by rw [HV.out, if_neg (fun h => h0 h.1)])
        clear HV
        go_wp2_with fail
        go_ret
        exact ⟨ret_int (by rw [HV2.out]; omega), HB.out⟩
end Go.Proofs.Ytcoliadgnbhkaaa
