/-
  ItemsMerge's walk.
-/
import Derived.Test.YtoonlhjldkkanaaMrg
namespace Go.Proofs.Ytoonlhjldkkanaa
open Go.RowKit
set_option linter.unusedVariables false
set_option linter.unusedSimpArgs false

set_option maxHeartbeats 3200000 in
set_option maxRecDepth 400000 in
theorem itemsmerge_law (a0 : Option Addr) (len0 cap0 : Nat) (a1 : Option Addr) (len1 cap1 : Nat) (w : World) (hf0 : Fits w (.slice heldSh) [.slice a0 len0 cap0]) (hf1 : Fits w (.slice heldSh) [.slice a1 len1 cap1]) :
    Calls Try.prog 5 #[.slice a0 len0 cap0, .slice a1 len1 cap1] w fun e w' => e = .returned (.bool true) ∧ Below w.heap.size w w' := by
  obtain ⟨rs, rfl, hr, hro⟩ := fits_held hf0
  obtain ⟨ss, rfl, hs, hso⟩ := fits_held hf1
  have c1 := near09 rs hro w _ hr
  have hxo := nearL_ok hro
  have hyo := nearL_ok hso
  have hxl := nearL_len rs
  have hyl := nearL_len ss
  obtain ⟨X, hX⟩ : ∃ X, nearL rs = X := ⟨_, rfl⟩
  obtain ⟨Y, hY⟩ : ∃ Y, nearL ss = Y := ⟨_, rfl⟩
  rw [hX] at c1 hxo hxl
  rw [hY] at hyo hyl
  have HXO := Lib.hid hxo
  have HYO := Lib.hid hyo
  have HXY := Lib.hid (merge_both X Y hxo hyo)
  have HSX := Lib.hid (srt_putAll Srt.nil hxo)
  have HSM := Lib.hid (srt_putAll Srt.nil (xs := X ++ Y) fun h hh => by rcases List.mem_append.1 hh with q | q; exact hxo h q; exact hyo h q)
  have HSS := Lib.hid hs
  have HSO := Lib.hid hso
  have HYE := Lib.hid hY
  obtain ⟨M, hM⟩ : ∃ M, putAll [] (X ++ Y) = M := ⟨_, rfl⟩
  obtain ⟨K, hK⟩ : ∃ K, putAll [] (Y ++ X) = K := ⟨_, rfl⟩
  obtain ⟨O, hO⟩ : ∃ O, putAll [] X = O := ⟨_, rfl⟩
  rw [hM, hK] at HXY
  rw [hM] at HSM
  rw [hO] at HSX
  have hml := HSM.out.len
  have HM := Lib.hid hM
  have HK := Lib.hid hK
  have HO := Lib.hid hO
  clear hr hs hro hso hxo hyo hX hY hM hK hO hf0 hf1
  go_enter Try.func5, Try.ntmps5
  go_wp2_with fail
  refine Calls.mono c1 ?_
  rintro e w1 ⟨v1, rfl, ho1, hb1⟩
  have c2 := near09 ss HSO.out w1 _ (HSS.out.below hb1)
  rw [HYE.out] at c2
  obtain ⟨p1, q1, rfl, -, -⟩ := (SR.owns ho1).form
  have R1 := Lib.hid (SR.owns ho1)
  have HB1 := Lib.hid hb1
  clear ho1 hb1 c1
  go_wp2_with fail
  refine Calls.mono c2 ?_
  rintro e w2 ⟨v2, rfl, ho2, hb2⟩
  have R1a := Lib.hid (R1.out.below hb2)
  have R2 := Lib.hid (SR.owns ho2)
  obtain ⟨p2, q2, rfl, -, -⟩ := (SR.owns ho2).form
  have HB2 := Lib.hid (HB1.out.trans (hb2.mono HB1.out.size))
  have c3 := imerge X Y HXO.out HYO.out w2 _ _ R1a.out R2.out
  rw [HM.out] at c3
  clear ho2 hb2 c2 R1
  go_wp2_with fail
  refine Calls.mono c3 ?_
  rintro e w3 ⟨v3, rfl, ho3, hb3⟩
  obtain ⟨p3, q3, rfl, hl3, hm3⟩ := (SR.owns ho3).form
  have RM := Lib.hid (SR.owns ho3)
  have RX := Lib.hid (R1a.out.below hb3)
  have RY := Lib.hid (R2.out.below hb3)
  have HB3 := Lib.hid (HB2.out.trans (hb3.mono HB2.out.size))
  clear ho3 hb3 c3 R1a R2
  go_wp2_with fail
  refine Calls.mono (awake09 _) ?_
  rintro e w4 ⟨rfl, hb4⟩
  have RM4 := Lib.hid (RM.out.below hb4)
  have RX4 := Lib.hid (RX.out.below hb4)
  have RY4 := Lib.hid (RY.out.below hb4)
  have HB4 := Lib.hid (HB3.out.trans (hb4.mono HB3.out.size))
  have c4 := rmerge X Y HXO.out HYO.out w4 _ _ RX4.out RY4.out (by omega)
  rw [HM.out] at c4
  clear hb4 RM RX RY
  go_wp2_with fail
  refine Calls.mono c4 ?_
  rintro e w5 ⟨v5, rfl, hr5, -, hb5⟩
  have RM5 := Lib.hid (RM4.out.below hb5)
  have RX5 := Lib.hid (RX4.out.below hb5)
  have RY5 := Lib.hid (RY4.out.below hb5)
  have HB5 := Lib.hid (HB4.out.trans (hb5.mono HB4.out.size))
  obtain ⟨p5, q5, rfl, -, -⟩ := hr5.form
  have c5 := rsame M w5 _ _ RM5.out hr5 HSM.out.all
  clear hb5 RM4 RX4 RY4 hr5 c4
  go_wp2_with fail
  refine Calls.mono c5 ?_
  rintro e w6 ⟨rfl, hb6⟩
  have RM6 := Lib.hid (RM5.out.below hb6)
  have RX6 := Lib.hid (RX5.out.below hb6)
  have RY6 := Lib.hid (RY5.out.below hb6)
  have HB6 := Lib.hid (HB5.out.trans (hb6.mono HB5.out.size))
  have c6 := iof X HXO.out w6 _ RX6.out
  rw [HO.out] at c6
  clear hb6 RM5 RX5 RY5 c5
  go_wp2_with fail
  refine Calls.mono c6 ?_
  rintro e w7 ⟨rfl, sv, hs7, hb7⟩
  have RM7 := Lib.hid (RM6.out.below hb7)
  have RX7 := Lib.hid (RX6.out.below hb7)
  have RY7 := Lib.hid (RY6.out.below hb7)
  have HB7 := Lib.hid (HB6.out.trans (hb7.mono HB6.out.size))
  have c7 := sall _ _ _ _ _ hs7
  clear hb7 RM6 RX6 RY6 c6 hs7
  go_wp2_with fail
  refine Calls.mono c7 ?_
  rintro e w8 ⟨v8, rfl, ho8, hb8⟩
  have RM8 := Lib.hid (RM7.out.below hb8)
  have RX8 := Lib.hid (RX7.out.below hb8)
  have RY8 := Lib.hid (RY7.out.below hb8)
  have HB8 := Lib.hid (HB7.out.trans (hb8.mono HB7.out.size))
  obtain ⟨p8, q8, rfl, -, -⟩ := (SR.owns ho8).form
  have RO8 := Lib.hid (SR.owns ho8)
  have c8 := rof X HXO.out w8 _ RX8.out
  rw [HO.out] at c8
  clear hb8 RM7 RX7 RY7 c7 ho8
  go_wp2_with fail
  refine Calls.mono c8 ?_
  rintro e w9 ⟨v9, rfl, hr9, -, hb9⟩
  have RM9 := Lib.hid (RM8.out.below hb9)
  have RX9 := Lib.hid (RX8.out.below hb9)
  have RY9 := Lib.hid (RY8.out.below hb9)
  have RO9 := Lib.hid (RO8.out.below hb9)
  have HB9 := Lib.hid (HB8.out.trans (hb9.mono HB8.out.size))
  obtain ⟨p9, q9, rfl, -, -⟩ := hr9.form
  have c9 := rsame O w9 _ _ RO9.out hr9 HSX.out.all
  clear hb9 RM8 RX8 RY8 RO8 c8 hr9
  go_wp2_with fail
  refine Calls.mono c9 ?_
  rintro e w10 ⟨rfl, hb10⟩
  have RM10 := Lib.hid (RM9.out.below hb10)
  have RX10 := Lib.hid (RX9.out.below hb10)
  have RY10 := Lib.hid (RY9.out.below hb10)
  have HB10 := Lib.hid (HB9.out.trans (hb10.mono HB9.out.size))
  have c10 := imerge Y X HYO.out HXO.out w10 _ _ RY10.out RX10.out
  rw [HK.out] at c10
  have hlk : K.length = M.length := (bv_len HXY.out).symm
  clear hb10 RM9 RX9 RY9 RO9 c9
  go_wp2_with fail
  refine Calls.mono c10 ?_
  rintro e w11 ⟨v11, rfl, ho11, hb11⟩
  rw [hlk] at ho11
  have RM11 := Lib.hid (RM10.out.below hb11)
  have RK11 := Lib.hid (SR.owns ho11)
  have HB11 := Lib.hid (HB10.out.trans (hb11.mono HB10.out.size))
  obtain ⟨p11, q11, rfl, hl11, hm11⟩ := (SR.owns ho11).form
  have HLK := Lib.hid hlk
  clear hb11 RM10 RX10 RY10 c10 ho11 hlk
  unfold maxLen at hm11 hm3
  go_wp2_with fail
  go_loopw [9] (fun i wr => ∃ j t : Nat, j ≤ M.length ∧ i = .int .i64 j ∧ wr = w11.drewN t) (fun i _ => M.length - (intOf i).toNat)
  case atStart => exact ⟨0, 0, Nat.zero_le _, rfl, rfl⟩
  case round =>
    obtain ⟨j, t, hj, rfl, rfl⟩ := hrel
    by_cases hlt : j < M.length
    · obtain ⟨x, hx⟩ : ∃ x, M[j]? = some x := ⟨_, List.getElem?_eq_getElem hlt⟩
      obtain ⟨y, hy, hyb, hyv⟩ := bv_at HXY.out hx
      obtain ⟨b, off, rfl, -, c0, c1, -⟩ := sr_held RM11.out j x hx
      obtain ⟨b', off', rfl, -, d0, d1, -⟩ := sr_held RK11.out j y hy
      rw [hyb] at d0
      rw [hyv] at d1
      clear hx hy hyb hyv
      go_wp2_with fail
      go_quiet (fail)
      go_wp2_with fail
      go_roundw
      case rel => exact ⟨j + 1, _, by omega, by go_num, rfl⟩
      case measure => simp [intOf]; omega
    · go_wp2_with fail
      go_ret
      exact ⟨rfl, below_drewN' HB11.out _⟩
end Go.Proofs.Ytoonlhjldkkanaa
